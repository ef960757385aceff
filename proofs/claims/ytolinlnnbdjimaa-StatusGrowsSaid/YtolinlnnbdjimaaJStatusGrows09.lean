/-
  status: a list of misses of a call's own, while it grows. A list of the call's own of one-cell elements: one more (append); how it looks. The document's queue: in memory; its first text, its numbers, its bytes. The document's queue: its front; a text discarded. What a queue holds in memory: texts, each with its bytes; a list that may share its memory with an older one.
-/
import Derived.Test.YtolinlnnbdjimaaJStatusGrows08
import Derived.Laws.ResultCell
import Derived.Test.YtolinlnnbdjimaaJStatusGrows01
import Derived.BigQuiet
import Derived.StillTailTactics
import Derived.Laws.BytesString
import Derived.Laws.IdiomStrings
namespace Go.Proofs.Ytolinlnnbdjimaa
open Go.RowKit

theorem Try.infomiss2 : (Try.prog.info? 26).map (fun i => (i.zero, i.size, i.bytes)) = some (some (.agg #[.int .i64 0, .bool false, .int .i64 0, .int .i64 0]), 4, 32) := by kernel_rfl
def mcells (L : List MissM) : List Value := L.flatMap fun m => [.int .i64 m.sn, .bool m.part, .int .i64 m.fr, .int .i64 m.to]
theorem mcells_cons (m : MissM) (t : List MissM) : mcells (m :: t) = .int .i64 m.sn :: .bool m.part :: .int .i64 m.fr :: .int .i64 m.to :: mcells t := rfl
theorem mcells_append (a b : List MissM) : mcells (a ++ b) = mcells a ++ mcells b := by simp [mcells]
theorem len_mcells (L : List MissM) : (mcells L).length = L.length * 4 := by
  induction L with
  | nil => rfl
  | cons m t ih => rw [mcells_cons]; simp [ih]; omega
theorem mcells_at {L : List MissM} {k : Nat} {m : MissM} (h : L[k]? = some m) : (mcells L)[k * 4]? = some (.int .i64 m.sn) ∧ (mcells L)[k * 4 + 1]? = some (.bool m.part) ∧ (mcells L)[k * 4 + 2]? = some (.int .i64 m.fr) ∧ (mcells L)[k * 4 + 3]? = some (.int .i64 m.to) := by
  induction L generalizing k with
  | nil => simp at h
  | cons z r ih =>
    cases k with
    | zero => simp at h; subst h; exact ⟨rfl, rfl, rfl, rfl⟩
    | succ k =>
      have h2 := ih (k := k) (by simpa using h)
      rw [mcells_cons, show (k + 1) * 4 = k * 4 + 1 + 1 + 1 + 1 by omega]
      simpa using h2
def OwnM (B : Nat) (w : World) (v : Value) (L : List MissM) : Prop := w.ownsRow B 26 4 v L.length (mcells L)
theorem OwnM.nil (B : Nat) (w : World) : OwnM B w (.slice none 0 0) [] := World.ownsRow_nil _ _ _ _
theorem OwnM.form {B : Nat} {w : World} {v : Value} {L : List MissM} (h : OwnM B w v L) : ∃ A c, v = .slice A L.length c ∧ L.length ≤ c ∧ c ≤ 9223372036854775807 := by
  rcases h.2 with ⟨rfl, h0⟩ | ⟨g, cap, cur, rfl, _, _, h1, h2, _⟩
  · exact ⟨none, 0, by rw [h0], by omega, by omega⟩
  · exact ⟨_, cap, rfl, h1, by unfold maxLen at h2; omega⟩
theorem OwnM.src {B : Nat} {w : World} {A : Option Addr} {n c : Nat} {L : List MissM} (h : OwnM B w (.slice A n c) L) : MSrc w A L := by
  intro h0
  obtain ⟨g, cap', hv, _, _⟩ := World.ownsRow.form h h0
  injection hv with hA _ _
  subst hA
  have hc := World.ownsRow.cells h (g := g) rfl
  refine ⟨g, 0, rfl, fun k m hm => ?_⟩
  obtain ⟨a, b, c, d⟩ := mcells_at hm
  have q := fun j u hu => hc j u hu
  refine ⟨?_, ?_, ?_, ?_⟩
  · have := q _ _ a; rw [add_zero_addr] at this; rw [Nat.zero_add]; exact this
  · have := q _ _ b; rw [add_zero_addr] at this; rw [Nat.zero_add]; exact this
  · have := q _ _ c; rw [add_zero_addr] at this; rw [Nat.zero_add]; exact this
  · have := q _ _ d; rw [add_zero_addr] at this; rw [Nat.zero_add]; exact this
theorem OwnM.next {B : Nat} {w : World} {v : Value} {L : List MissM} (h : OwnM B w v L) (hB : B ≤ w.heap.size) (m : MissM) (hl : L.length ≤ 1000) :
    ∃ g c w3, (Builtin.append_ #[22, 22] 22 #[v, .slice (some ⟨w.heap.size, 0, none⟩) 1 1]).run Try.prog (w.alloc (.cells #[.int .i64 m.sn, .bool m.part, .int .i64 m.fr, .int .i64 m.to] 26)) = .ok (.slice (some ⟨g, 0, none⟩) (L.length + 1) c) w3 ∧
      OwnM B w3 (.slice (some ⟨g, 0, none⟩) (L.length + 1) c) (L ++ [m]) ∧ Only (fun k => v.ownBlock = some k) w w3 := by
  obtain ⟨i0, hi, hi0, hi1, hi2⟩ := info_parts Try.infomiss2
  obtain ⟨g, cap, w3, hr3, h2, h3, _, _⟩ := run_append_lies (P := Try.prog) (w.alloc (.cells #[.int .i64 m.sn, .bool m.part, .int .i64 m.fr, .int .i64 m.to] 26)) 22 22 B 26 i0 _ 4 32 Try.underlying22 hi hi0 hi1 hi2 rfl (by omega) v L.length _ (World.ownsRow.alloc h _) ⟨w.heap.size, 0, none⟩ 1 1 [.int .i64 m.sn, .bool m.part, .int .i64 m.fr, .int .i64 m.to] rfl
    (World.news_of_block (cs := #[.int .i64 m.sn, .bool m.part, .int .i64 m.fr, .int .i64 m.to]) (heap_alloc_new w _)) (by intro u hu; simp at hu; rcases hu with rfl | rfl | rfl | rfl <;> rfl) (by omega) (by unfold maxLen; omega) (by omega) (by simp; omega) _ rfl
  refine ⟨g, cap, w3, hr3, ?_, ((Only.refl (fun k => v.ownBlock = some k) w).alloc (.cells #[.int .i64 m.sn, .bool m.part, .int .i64 m.fr, .int .i64 m.to] 26)).grown h3 (fun k hk => .inl hk)⟩
  unfold OwnM
  rw [List.length_append, mcells_append]
  exact h2
end Go.Proofs.Ytolinlnnbdjimaa
namespace Go.Proofs.Ytolinlnnbdjimaa
open Go.RowKit

theorem wpList_is {P : Program} {ops : Array Oper} {rest : List Oper} {o : Oper} {a : Act} {w : World} {Q : Exit → Act → World → Prop} (hgd : o.guard = none) (s x : Operand) (t : TypeId)
    (ho : o.op = .call { callee := .builtin .append, args := #[s, x], argTypes := #[t, t] }) (v u : Value) (hs : a.eval s = v) (hx : a.eval x = u) {v' : Value} {w' : World}
    (hr : (Builtin.append_ #[t, t] o.type #[v, u]).run P w = .ok v' w') (h : wpList P ops Q rest (a.put o.dst v') w') : wpList P ops Q (o :: rest) a w :=
  wpList_plain hgd fun _ hK => by
    unfold Oper.wp execOp
    simp only [ho, resolve, invoke, builtin, Sem.run_bind, Sem.run_pure, Result.andThen_ok, List.map_toArray, List.map_cons, List.map_nil, hs, hx, hr]
    exact hK _ _ h
theorem add_zero_o (g j : Nat) : (⟨g, 0, none⟩ : Addr).add j = ⟨g, j, none⟩ := by
  unfold Addr.add
  split
  · rename_i h; rw [h]
  · simp
section
variable {m n : Nat} {w v : World} {x u z : Value} {xs : List Value} {T E by' : Nat}
theorem own_next (hT : Try.prog.underlying T = some (.slice E)) (hI : (Try.prog.info? E).map (fun i => (i.zero, i.size, i.bytes)) = some (some z, 1, by')) (hz : z.cells.size = 1) (hby : by' ≤ 24) (hu : u.oneCell' = true) (h : w.ownsRow m E 1 x n xs) (hm : m ≤ w.heap.size) (hn : n ≤ 100000) :
    ∃ A' c' w2, (Builtin.append_ #[T, T] T #[x, .slice (some ⟨w.heap.size, 0, none⟩) 1 1]).run Try.prog (w.alloc (.cells #[u] E)) = .ok (.slice A' (n + 1) c') w2 ∧
      w2.ownsRow m E 1 (.slice A' (n + 1) c') (n + 1) (xs ++ [u]) ∧ Only (fun k => x.ownBlock = some k) w w2 := by
  obtain ⟨i0, hi, hi0, hi1, hi2⟩ := info_parts hI
  have hbA := bl_alloc (Below.refl w.heap.size w) (.cells #[u] E)
  have a4' := own_only h (S := fun _ => False) (.of_below hbA) (fun _ _ hk => hk)
  obtain ⟨v', w2, hrun, hown, hgr, _, hat⟩ := run_append_own_at (P := Try.prog) (w := w.alloc (.cells #[u] E)) m T T E i0 z 1 by' hT hi hi0 hi1 hi2 hz (by omega) x n xs a4' ⟨w.heap.size, 0, none⟩ 1 1 [u] rfl
    (fun j u' hu' => by
      match j, hu' with
      | 0, hu' =>
        simp only [List.getElem?_cons_zero, Option.some.injEq] at hu'
        subst hu'
        rw [add_zero_o]
        exact (Row.made w E #[u]).read rfl
      | j + 1, hu' => simp at hu') (by intro y hy; simp at hy; subst hy; exact hu) (by unfold maxLen; omega) (by have := Nat.mul_le_mul (show n + 1 ≤ 100001 by omega) hby; omega) (by have := hbA.size; omega)
  have hon : Only (fun k => x.ownBlock = some k) w w2 := (Only.of_below hbA).andThen ((Only.refl _ _).grown hgr (fun k hk => .inl hk) : Only (fun k => x.ownBlock = some k) _ _) (fun k _ hk => hk)
  obtain ⟨A', c', rfl⟩ : ∃ A' c', v' = .slice A' (n + 1) c' := by
    rcases hown.2 with ⟨_, e⟩ | ⟨g, cap, cur, e, _⟩
    · omega
    · exact ⟨some ⟨g, 0, none⟩, cap, e⟩
  exact ⟨A', c', w2, hrun, hown, hon⟩
theorem own_shape (h : w.ownsRow m E 1 x n xs) : ∃ A c, x = .slice A n c ∧ n ≤ c ∧ c ≤ 9223372036854775807 := by
  rcases h.2 with ⟨rfl, rfl⟩ | ⟨g, cap, cur, rfl, _, _, h1, h2, _⟩
  · exact ⟨none, 0, rfl, Nat.le_refl _, by decide⟩
  · exact ⟨_, cap, rfl, h1, by unfold maxLen at h2; omega⟩
theorem own_after (h : w.ownsRow m E 1 x n xs) (hb : Below w.heap.size w v) : v.ownsRow m E 1 x n xs := own_only h (S := fun _ => False) (.of_below hb) (fun _ _ hk => hk)
/-- what lies behind a slice: in one block, that is not older than block m -/
def SlAt (m E : Nat) (w : World) (A : Option Addr) (xs : List Value) : Prop :=
  xs ≠ [] → ∃ (g : Nat) (cs : Array Value), A = some ⟨g, 0, none⟩ ∧ m ≤ g ∧ Row w g E cs ∧ ∀ (i : Nat) (u : Value), xs[i]? = some u → cs[i]? = some u
theorem own_at {A : Option Addr} {c : Nat} (h : w.ownsRow m E 1 (.slice A n c) n xs) : SlAt m E w A xs := by
  intro hne
  rcases h.2 with ⟨h1, h2⟩ | ⟨g, cap, cur, h1, h2, h3, h4, h5, h6, h7⟩
  · exfalso
    have := h.1
    rw [h2] at this
    exact hne (List.eq_nil_of_length_eq_zero (by omega))
  · injection h1 with hA _ _
    refine ⟨g, cur, hA, h2, h3, fun i u hu => ?_⟩
    have hi := (List.getElem?_eq_some_iff.1 hu).1
    have hl := h.1
    rw [← h7, List.getElem?_take] at hu
    split at hu
    · simpa using hu
    · cases hu
theorem SlAt.only {S : Nat → Prop} {A : Option Addr} (h : SlAt m E w A xs) (ho : Only S w v) (hS : ∀ g cs, Row w g E cs → m ≤ g → ¬ S g) : SlAt m E v A xs := by
  intro hne
  obtain ⟨g, cs, h1, h2, h3, h4⟩ := h hne
  exact ⟨g, cs, h1, h2, h3.only ho (hS g cs h3 h2), h4⟩
theorem SlAt.later {A : Option Addr} (h : SlAt m E w A xs) (hb : Below w.heap.size w v) : SlAt m E v A xs := h.only (S := fun _ => False) (.of_below hb) (fun _ _ _ _ hk => hk)
theorem SlAt.cell {A : Option Addr} (h : SlAt m E w A xs) {i : Nat} {u : Value} (hu : xs[i]? = some u) : ∃ g, A = some ⟨g, 0, none⟩ ∧ w.cell? ⟨g, i, none⟩ = some u := by
  obtain ⟨g, cs, h1, h2, h3, h4⟩ := h (by rintro rfl; simp at hu)
  exact ⟨g, h1, h3.read (h4 i u hu)⟩
end
end Go.Proofs.Ytolinlnnbdjimaa
namespace Go.Proofs.Ytolinlnnbdjimaa
open Go.RowKit

structure Ent where
  g : Nat
  c : Nat
  bs : List Nat
  tk : Nat
  gone : Bool
def eL (E : List Ent) : List Value := E.map fun e => .slice (some ⟨e.g, 0, none⟩) e.bs.length e.c
def eT (E : List Ent) : List Value := E.map fun e => .int .i64 (e.tk : Int)
def eG (E : List Ent) : List Value := E.map fun e => .bool e.gone
def Ent.ok (B : Nat) (w : World) (e : Ent) : Prop :=
  0 < e.bs.length ∧ e.bs.length ≤ 1000 ∧ e.tk ≤ e.bs.length ∧ (e.gone = false → e.tk < e.bs.length) ∧ e.bs.length ≤ e.c ∧ e.c ≤ 9223372036854775807 ∧ B ≤ e.g ∧
    ∃ cs, Row w e.g 5 cs ∧ ∀ (j b : Nat), e.bs[j]? = some b → cs[j]? = some (.int .u8 b)
/-- the three lists of a queue of the document's -/
structure RL (w : World) (B : Nat) (E : List Ent) (AL AT AG : Option Addr) (cL cT cG : Nat) : Prop where
  l : w.ownsRow B 37 1 (.slice AL E.length cL) E.length (eL E)
  t : w.ownsRow B 3 1 (.slice AT E.length cT) E.length (eT E)
  g : w.ownsRow B 4 1 (.slice AG E.length cG) E.length (eG E)
section
variable {w v : World} {y B : Nat} {room : Int} {E : List Ent} {AL AT AG : Option Addr} {cL cT cG : Nat}
theorem Ent.ok.only {S : Nat → Prop} {e : Ent} (h : e.ok B w) (ho : Only S w v) (hS : ∀ g cs, Row w g 5 cs → ¬ S g) : e.ok B v := by
  obtain ⟨h1, h2, h3, h4, h5, h6, h7, cs, h8, h9⟩ := h
  exact ⟨h1, h2, h3, h4, h5, h6, h7, cs, h8.only ho (hS _ _ h8), h9⟩
theorem own_typed {m E' n : Nat} {x : Value} {xs : List Value} {S : Nat → Prop} (h : w.ownsRow m E' 1 x n xs) (ho : Only S w v) (hS : ∀ g cs, Row w g E' cs → ¬ S g) : v.ownsRow m E' 1 x n xs :=
  own_only h ho fun k hk => by
    rcases h.2 with ⟨rfl, _⟩ | ⟨g, cap, cur, rfl, _, hh, _⟩
    · simp [Value.ownBlock] at hk
    · have e1 : g = k := by simpa [Value.ownBlock] using hk
      subst e1
      exact hS _ _ hh
theorem eG_at {i : Nat} {e : Ent} (h : E[i]? = some e) : (eG E)[i]? = some (.bool e.gone) := by unfold eG; rw [List.getElem?_map, h]; rfl
theorem eT_at {i : Nat} {e : Ent} (h : E[i]? = some e) : (eT E)[i]? = some (.int .i64 (e.tk : Int)) := by unfold eT; rw [List.getElem?_map, h]; rfl
theorem eL_at {i : Nat} {e : Ent} (h : E[i]? = some e) : (eL E)[i]? = some (.slice (some ⟨e.g, 0, none⟩) e.bs.length e.c) := by unfold eL; rw [List.getElem?_map, h]; rfl
/-- the place of the first text that is not gone -/
def fE (E : List Ent) : Nat := E.findIdx fun e => !e.gone
def fEi (E : List Ent) : Int := if fE E < E.length then (fE E : Int) else -1
theorem fE_before {i : Nat} {e : Ent} (h : E[i]? = some e) (hi : i < fE E) : e.gone = true := by
  have hl := (List.getElem?_eq_some_iff.1 h).1
  have he := (List.getElem?_eq_some_iff.1 h).2
  have := List.not_of_lt_findIdx hi
  rw [he] at this
  simpa using this
theorem fE_at {e : Ent} (h : E[fE E]? = some e) : e.gone = false := by
  have hl := (List.getElem?_eq_some_iff.1 h).1
  have he := (List.getElem?_eq_some_iff.1 h).2
  have := List.findIdx_getElem (w := hl)
  rw [← he]
  simp only [Bool.not_eq_true'] at this
  exact this
theorem fE_le : fE E ≤ E.length := List.findIdx_le_length
def idk (E : List Ent) (k : Nat) : List Nat := ((List.range k).filter fun i => !((E[i]?.map Ent.gone).getD true)).map fun i => i + 1
def u64v (l : List Nat) : List Value := l.map fun b : Nat => .int .u64 (b : Int)
theorem idk_succ {k : Nat} {e : Ent} (h : E[k]? = some e) : idk E (k + 1) = idk E k ++ (if e.gone = true then [] else [k + 1]) := by
  unfold idk
  rw [List.range_succ, List.filter_append, List.map_append]
  congr 1
  by_cases hg : e.gone = true
  · rw [if_pos hg, List.filter_cons_of_neg (by rw [h]; simp [hg])]; rfl
  · rw [if_neg hg, List.filter_cons_of_pos (by rw [h]; simpa using hg)]; rfl
theorem idk_le (E : List Ent) (k : Nat) : (idk E k).length ≤ k := by
  unfold idk
  rw [List.length_map]
  exact Nat.le_trans (List.length_filter_le _ _) (by simp)
theorem u64v_app (l k : List Nat) : u64v (l ++ k) = u64v l ++ u64v k := by unfold u64v; simp
/-- how many bytes wait of the first k texts -/
def byk (E : List Ent) (k : Nat) : Nat := ((E.take k).map fun e => if e.gone then 0 else e.bs.length - e.tk).sum
theorem byk_succ {k : Nat} {e : Ent} (h : E[k]? = some e) : byk E (k + 1) = byk E k + (if e.gone = true then 0 else e.bs.length - e.tk) := by
  unfold byk
  rw [List.take_add_one, h]
  simp
theorem byk_le (he : ∀ e ∈ E, e.bs.length ≤ 1000) (k : Nat) : byk E k ≤ 1000 * k := by
  induction k with
  | zero => simp [byk]
  | succ k ih =>
    by_cases hk : k < E.length
    · rw [byk_succ (List.getElem?_eq_getElem hk)]
      have := he _ (List.getElem_mem hk)
      split <;> omega
    · have : byk E (k + 1) = byk E k := by
        unfold byk
        rw [List.take_of_length_le (by omega), List.take_of_length_le (by omega)]
      omega
end
end Go.Proofs.Ytolinlnnbdjimaa
namespace Go.Proofs.Ytolinlnnbdjimaa
open Go.RowKit

def S34 (B : Nat) (w : World) (k : Nat) : Prop := B ≤ k ∧ ∃ t cs, Row w k t cs ∧ (t = 3 ∨ t = 4)
section
variable {w v : World} {y B : Nat} {room : Int} {E : List Ent} {AL AT AG : Option Addr} {cL cT cG : Nat}
theorem own_row {m E' n c : Nat} {g : Nat} {xs : List Value} (h : w.ownsRow m E' 1 (.slice (some ⟨g, 0, none⟩) n c) n xs) : ∃ cs, Row w g E' cs := by
  rcases h.2 with ⟨e, _⟩ | ⟨g', cap, cur, e, _, hh, _⟩
  · cases e
  · injection e with e1 _ _
    injection e1 with e1
    injection e1 with e1
    subst e1
    exact ⟨_, hh⟩
theorem own_in {m E' n c : Nat} {g : Nat} {xs : List Value} (h : w.ownsRow m E' 1 (.slice (some ⟨g, 0, none⟩) n c) n xs) : g < w.heap.size := (h.lt g rfl).2
theorem own_free {m E' n c i : Nat} {g : Nat} {xs : List Value} (h : w.ownsRow m E' 1 (.slice (some ⟨g, 0, none⟩) n c) n xs) : w.frozen? ⟨g, i, none⟩ = false := by
  rcases h.2 with ⟨e, _⟩ | ⟨g', cap, cur, e, _, hh, _⟩
  · cases e
  · injection e with e1 _ _
    injection e1 with e1
    injection e1 with e1
    subst e1
    exact Row.free hh i
theorem RL.later (h : RL w B E AL AT AG cL cT cG) (hb : Below w.heap.size w v) : RL v B E AL AT AG cL cT cG := ⟨own_after h.l hb, own_after h.t hb, own_after h.g hb⟩
theorem own_put {m E' n c i : Nat} {g : Nat} {xs : List Value} (h : w.ownsRow m E' 1 (.slice (some ⟨g, 0, none⟩) n c) n xs) (u : Value) : (w.setCell ⟨g, i, none⟩ u).ownsRow m E' 1 (.slice (some ⟨g, 0, none⟩) n c) n (xs.set i u) := by
  refine ⟨by rw [List.length_set]; exact h.1, ?_⟩
  rcases h.2 with ⟨e, _⟩ | ⟨g', cap, cur, e, h2, h3, h4, h5, h6, h7⟩
  · cases e
  · injection e with e1 _ e3
    injection e1 with e1
    injection e1 with e1
    subst e1 e3
    refine .inr ⟨g, c, cur.setIfInBounds i u, rfl, h2, Row.written (t := E') (cs := cur) h3 i u, h4, h5, by simp [h6], ?_⟩
    rw [Array.toList_setIfInBounds, List.take_set, h7]
theorem set_eL {i : Nat} {e : Ent} (he : E[i]? = some e) (t' : Nat) (g' : Bool) : eL (E.set i { e with tk := t', gone := g' }) = eL E := by
  unfold eL
  rw [List.map_set]
  refine List.ext_getElem? fun j => ?_
  rw [List.getElem?_set]
  split
  · rename_i hj; subst hj
    split
    · rw [List.getElem?_map, he]; rfl
    · rename_i h9; rw [List.getElem?_eq_none (by omega)]
  · rfl
theorem set_eT {i : Nat} (e : Ent) (t' : Nat) (g' : Bool) : eT (E.set i { e with tk := t', gone := g' }) = (eT E).set i (.int .i64 (t' : Int)) := by
  unfold eT
  rw [List.map_set]
theorem set_eG {i : Nat} (e : Ent) (t' : Nat) (g' : Bool) : eG (E.set i { e with tk := t', gone := g' }) = (eG E).set i (.bool g') := by
  unfold eG
  rw [List.map_set]
theorem same_at {α : Type} {xs : List α} {i : Nat} {a : α} (h : xs[i]? = some a) : xs.set i a = xs := by
  refine List.ext_getElem? fun j => ?_
  rw [List.getElem?_set]
  split
  · rename_i hj; subst hj
    split
    · exact h.symm
    · rename_i h9; rw [List.getElem?_eq_none (by omega)]
  · rfl
theorem put_typed {m E' n g i : Nat} {t : TypeId} {cs : Array Value} {x : Value} {xs : List Value} (h : w.ownsRow m E' 1 x n xs) (hr : Row w g t cs) (hne : E' ≠ t) (u : Value) : (w.setCell ⟨g, i, none⟩ u).ownsRow m E' 1 x n xs :=
  own_typed h ((Only.refl (fun k => k = g) w).set (p := ⟨g, i, none⟩) (.inl rfl) u) fun g' cs' hr' e => by
    subst e
    exact Row.apart hr' hr hne rfl
theorem Ent.ok.put {g i : Nat} {t : TypeId} {cs : Array Value} {e : Ent} (h : e.ok B w) (hr : Row w g t cs) (hne : t ≠ 5) (u : Value) : e.ok B (w.setCell ⟨g, i, none⟩ u) :=
  h.only ((Only.refl (fun k => k = g) w).set (p := ⟨g, i, none⟩) (.inl rfl) u) fun g' cs' hr' e => by
    subst e
    exact Row.apart hr hr' hne rfl
theorem Ent.ok.turn {e : Ent} (h : e.ok B w) {t' : Nat} {g' : Bool} (h1 : t' ≤ e.bs.length) (h2 : g' = false → t' < e.bs.length) : Ent.ok B w { e with tk := t', gone := g' } := by
  obtain ⟨a1, a2, _, _, a5, a6, a7, a8⟩ := h
  exact ⟨a1, a2, h1, h2, a5, a6, a7, a8⟩
theorem RL.gone {i : Nat} {e : Ent} {g3 : Nat} (hl : RL w B E AL AT (some ⟨g3, 0, none⟩) cL cT cG) (he : E[i]? = some e) (g' : Bool) : RL (w.setCell ⟨g3, i, none⟩ (.bool g')) B (E.set i { e with tk := e.tk, gone := g' }) AL AT (some ⟨g3, 0, none⟩) cL cT cG := by
  obtain ⟨cs3, hr3⟩ := own_row hl.g
  refine ⟨?_, ?_, ?_⟩
  · rw [List.length_set, set_eL he]; exact put_typed hl.l hr3 (by decide) _
  · rw [List.length_set, set_eT, same_at (eT_at he)]; exact put_typed hl.t hr3 (by decide) _
  · rw [List.length_set, set_eG]; exact own_put hl.g _
/-- a text by its number, or none -/
def atN (E : List Ent) (n : Nat) : Option Ent := if n = 0 then none else E[n - 1]?
def allGone (E : List Ent) (k : Nat) : List Ent := (E.take k).map (fun e => { e with tk := e.tk, gone := true }) ++ E.drop k
theorem allGone_len (E : List Ent) (k : Nat) : (allGone E k).length = E.length := by
  unfold allGone
  rw [List.length_append, List.length_map, List.length_take, List.length_drop]
  omega
theorem allGone_at {k : Nat} : (allGone E k)[k]? = E[k]? := by
  unfold allGone
  by_cases hk : k < E.length
  · rw [List.getElem?_append_right (by simp; omega), List.length_map, List.length_take, Nat.min_eq_left (by omega), Nat.sub_self, List.getElem?_drop]
    simp
  · rw [List.getElem?_eq_none (by rw [List.length_append, List.length_map, List.length_take, List.length_drop]; omega), List.getElem?_eq_none (by omega)]
theorem allGone_succ {k : Nat} {e : Ent} (h : E[k]? = some e) : (allGone E k).set k { e with tk := e.tk, gone := true } = allGone E (k + 1) := by
  have hk := (List.getElem?_eq_some_iff.1 h).1
  unfold allGone
  rw [List.set_append_right _ _ (by simp; omega), List.take_add_one, h, List.map_append, List.append_assoc]
  congr 1
  have hd : E.drop k = e :: E.drop (k + 1) := by
    rw [List.drop_eq_getElem_cons hk, (List.getElem?_eq_some_iff.1 h).2]
  rw [List.length_map, List.length_take, Nat.min_eq_left (by omega), Nat.sub_self, hd]
  rfl
end
end Go.Proofs.Ytolinlnnbdjimaa
namespace Go.Proofs.Ytolinlnnbdjimaa
open Go.RowKit

theorem Try.qinfo5 : (Try.prog.info? 5).map (fun i => (i.zero, i.size, i.bytes)) = some (some (.int .u8 0), 1, 1) := by kernel_rfl
theorem qinfo5_parts : ∃ i, Try.prog.info? 5 = some i ∧ i.zero = some (.int .u8 0) ∧ i.size = 1 ∧ i.bytes = 1 := info_parts Try.qinfo5
theorem Try.info255 : (Try.prog.info? 255).map (fun i => (i.zero, i.size, i.bytes)) = some (some (.agg #[.int .u64 0, .slice none 0 0, .bool false]), 3, 40) := by kernel_rfl
theorem info255_parts : ∃ i, Try.prog.info? 255 = some i ∧ i.zero = some (.agg #[.int .u64 0, .slice none 0 0, .bool false]) ∧ i.size = 3 ∧ i.bytes = 40 := info_parts Try.info255

/-- bytes as values -/
def qbts (l : List Nat) : List Value := l.map fun b : Nat => .int .u8 b
theorem qlength_bts (l : List Nat) : (qbts l).length = l.length := by simp [qbts]
theorem qbts_one (l : List Nat) : ∀ v ∈ qbts l, v.oneCell' = true := by
  intro v hv
  simp only [qbts, List.mem_map] at hv
  obtain ⟨b, _, rfl⟩ := hv
  rfl
theorem qbts_at {l : List Nat} {i b : Nat} (h : l[i]? = some b) : (qbts l)[i]? = some (.int .u8 b) := by simp [qbts, h]
theorem qbts_append (l k : List Nat) : qbts (l ++ k) = qbts l ++ qbts k := by simp [qbts]
theorem qbts_drop (l : List Nat) (n : Nat) : qbts (l.drop n) = (qbts l).drop n := by simp [qbts]

/-- where a slice's cells lie -/
def QSrcB (w : World) (A : Option Addr) (xs : List Value) : Prop := 0 < xs.length → ∃ b off, A = some ⟨b, off, none⟩ ∧ ∀ j u, xs[j]? = some u → w.cell? ⟨b, off + j, none⟩ = some u
theorem QSrcB.later {w v : World} {A : Option Addr} {xs : List Value} (h : QSrcB w A xs) (hb : Below w.heap.size w v) : QSrcB v A xs := by
  intro h0
  obtain ⟨b, off, rfl, hc⟩ := h h0
  exact ⟨b, off, rfl, fun j u hu => kept_box hb (hc j u hu)⟩

/-- a list of the call's own, whose memory may reach beyond what it can hold -/
def OwnX (w : World) (B e size : Nat) (v : Value) (n : Nat) (xs : List Value) : Prop :=
  xs.length = n * size ∧ ((v = .slice none 0 0 ∧ n = 0) ∨
    ∃ g cap cur, v = .slice (some ⟨g, 0, none⟩) n cap ∧ B ≤ g ∧ w.heap[g]? = some (.cells cur e (0, 0)) ∧ n ≤ cap ∧ cap ≤ maxLen ∧ cap * size ≤ cur.size ∧ cur.toList.take (n * size) = xs)
section
variable {w v : World} {B e size : Nat} {x : Value} {n : Nat} {xs : List Value}
theorem OwnX.nil : OwnX w B e size (.slice none 0 0) 0 [] := ⟨by simp, .inl ⟨rfl, rfl⟩⟩
theorem OwnX.of (h : w.ownsRow B e size x n xs) : OwnX w B e size x n xs := by
  refine ⟨h.1, ?_⟩
  rcases h.2 with h0 | ⟨g, cap, cur, h1, h2, h3, h4, h5, h6, h7⟩
  · exact .inl h0
  · exact .inr ⟨g, cap, cur, h1, h2, h3, h4, h5, by omega, h7⟩
theorem OwnX.lt (h : OwnX w B e size x n xs) : ∀ k, x.ownBlock = some k → B ≤ k ∧ k < w.heap.size := by
  intro k hk
  rcases h.2 with ⟨rfl, _⟩ | ⟨g, cap, cur, rfl, hb, hh, _⟩
  · simp [Value.ownBlock] at hk
  · have e : g = k := by simpa [Value.ownBlock] using hk
    subst e
    refine ⟨hb, ?_⟩
    rcases Nat.lt_or_ge g w.heap.size with h1 | h1
    · exact h1
    · rw [Array.getElem?_eq_none h1] at hh; cases hh
theorem OwnX.only {S : Nat → Prop} (h : OwnX w B e size x n xs) (ho : Only S w v) (hS : ∀ k, x.ownBlock = some k → ¬ S k) : OwnX v B e size x n xs := by
  refine ⟨h.1, ?_⟩
  rcases h.2 with h0 | ⟨g, cap, cur, rfl, hb, hh, h1⟩
  · exact .inl h0
  · exact .inr ⟨g, cap, cur, rfl, hb, (ho.same g (h.lt g rfl).2 (hS g rfl)).trans hh, h1⟩
theorem OwnX.kept {row : Option Nat} (h : OwnX w B e size x n xs) (hg : w.grownBy v row) (hne : ∀ k, x.ownBlock = some k → row ≠ some k) : OwnX v B e size x n xs := by
  refine ⟨h.1, ?_⟩
  rcases h.2 with h0 | ⟨g, cap, cur, rfl, hb, hh, h1⟩
  · exact .inl h0
  · exact .inr ⟨g, cap, cur, rfl, hb, (hg.block g (h.lt g rfl).2 (fun e => hne g rfl e.symm)).trans hh, h1⟩
theorem OwnX.alloc (h : OwnX w B e size x n xs) (o : Obj) : OwnX (w.alloc o) B e size x n xs :=
  h.only (S := fun _ => False) (.of_below (bl_alloc (Below.refl _ _) o)) (fun _ _ h => h)
theorem OwnX.drawn (h : OwnX w B e size x n xs) : OwnX w.drew B e size x n xs := h
theorem OwnX.shape (h : OwnX w B e size x n xs) : ∃ A cap, x = .slice A n cap ∧ n ≤ cap ∧ cap ≤ maxLen := by
  rcases h.2 with ⟨rfl, h0⟩ | ⟨g, cap, cur, rfl, _, _, h1, h2, _⟩
  · exact ⟨none, 0, by rw [h0], by omega, by simp [maxLen]⟩
  · exact ⟨_, cap, rfl, h1, h2⟩
theorem add_zero_q (g j : Nat) : (⟨g, 0, none⟩ : Addr).add j = ⟨g, j, none⟩ := by
  unfold Addr.add
  split
  · rename_i h
    rw [h]
  · simp
theorem OwnX.cells (h : OwnX w B e size x n xs) {g : Nat} (hg : x.ownBlock = some g) : ∀ j u, xs[j]? = some u → w.cell? ⟨g, j, none⟩ = some u := by
  intro j u hu
  rcases h.2 with ⟨rfl, _⟩ | ⟨g', cap, cur, rfl, _, hgg, _, _, _, htake⟩
  · simp [Value.ownBlock] at hg
  · simp [Value.ownBlock] at hg
    subst hg
    rw [cell_of_row w g' j cur e (0, 0) hgg]
    rw [← htake, List.getElem?_take] at hu
    split at hu
    · simpa using hu
    · cases hu
theorem OwnX.free (h : OwnX w B e size x n xs) {g : Nat} (hg : x.ownBlock = some g) (i : Nat) : w.frozen? ⟨g, i, none⟩ = false := by
  rcases h.2 with ⟨rfl, _⟩ | ⟨g', cap, cur, rfl, _, hgg, _⟩
  · simp [Value.ownBlock] at hg
  · simp [Value.ownBlock] at hg
    subst hg
    simp [World.frozen?, hgg]
theorem OwnX.form (h : OwnX w B e size x n xs) (hn : 0 < n) : ∃ g cap, x = .slice (some ⟨g, 0, none⟩) n cap ∧ n ≤ cap ∧ cap ≤ maxLen := by
  rcases h.2 with ⟨_, h0⟩ | ⟨g, cap, cur, hv, _, _, h1, h2, _⟩
  · omega
  · exact ⟨g, cap, hv, h1, h2⟩
/-- one cell written -/
theorem OwnX.stored (h : OwnX w B e size x n xs) {g : Nat} (hg : x.ownBlock = some g) (j : Nat) (u : Value) : OwnX (w.setCell ⟨g, j, none⟩ u) B e size x n (xs.set j u) := by
  refine ⟨by rw [List.length_set]; exact h.1, ?_⟩
  rcases h.2 with ⟨rfl, _⟩ | ⟨g', cap, cur, rfl, hb, hh, h1, h2, h3, h4⟩
  · simp [Value.ownBlock] at hg
  · simp [Value.ownBlock] at hg
    subst hg
    refine .inr ⟨g', cap, cur.setIfInBounds j u, rfl, hb, ?_, h1, h2, by simpa using h3, ?_⟩
    · simp [World.setCell, Array.getElem?_modify, hh]
    · rw [Array.toList_setIfInBounds, List.take_set, h4]
/-- the first elements alone -/
theorem OwnX.front (h : OwnX w B e size x n xs) {m : Nat} (hm : m ≤ n) (A : Option Addr) (cap : Nat) (hx : x = .slice A n cap) (h0 : 0 < n) : OwnX w B e size (.slice A m m) m (xs.take (m * size)) := by
  have hle : m * size ≤ n * size := Nat.mul_le_mul_right _ hm
  refine ⟨by rw [List.length_take, h.1]; omega, ?_⟩
  rcases h.2 with ⟨_, hn⟩ | ⟨g, c, cur, rfl, hb, hh, h1, h2, h3, h4⟩
  · omega
  · injection hx with hA _ _
    subst hA
    have hc : m * size ≤ c * size := Nat.mul_le_mul_right _ (by omega)
    refine .inr ⟨g, m, cur, rfl, hb, hh, Nat.le_refl _, by omega, by omega, ?_⟩
    rw [← h4, List.take_take]
    congr 1
    omega
end

/-- append to such a list -/
theorem run_append_x {P : Program} {w : World} {B t ty e : Nat} {i : TypeInfo} {z : Value} {size bytes : Nat} (ht : P.underlying t = some (.slice e)) (hi : P.info? e = some i) (hz : i.zero = some z)
    (hsize : i.size = size) (hby : i.bytes = bytes) (hzs : z.cells.size = size)
    {v : Value} {n : Nat} {xs : List Value} (hown : OwnX w B e size v n xs)
    (a : Addr) (m c : Nat) (news : List Value) (hl : news.length = m * size) (hnews : ∀ j u, news[j]? = some u → w.cell? (a.add j) = some u) (h1 : ∀ u ∈ news, u.oneCell' = true)
    (h63 : n + m ≤ 1000000000) (hbytes : (n + m) * bytes ≤ 140737488355328) (hbase : B ≤ w.heap.size) :
    ∃ v' w', (Builtin.append_ #[t, t] ty #[v, .slice (some a) m c]).run P w = .ok v' w' ∧ OwnX w' B e size v' (n + m) (xs ++ news) ∧ w.grownBy w' v.ownBlock ∧ (v'.ownBlock = v.ownBlock ∨ v'.ownBlock = some w.heap.size) := by
  subst hsize
  subst hby
  have hlen : (xs ++ news).length = (n + m) * i.size := by rw [List.length_append, hown.1, hl, Nat.add_mul]
  have grown : ∀ (old : Nat), old < n + m → ∀ (row : Option Nat),
      OwnX (w.drew.alloc (.cells (xs.toArray ++ news.toArray ++ Builtin.zeroCells z.cells (grownCap w (n + m) old e - (n + m))) e)) B e i.size
        (.slice (some ⟨w.heap.size, 0, none⟩) (n + m) (grownCap w (n + m) old e)) (n + m) (xs ++ news) ∧
      w.grownBy (w.drew.alloc (.cells (xs.toArray ++ news.toArray ++ Builtin.zeroCells z.cells (grownCap w (n + m) old e - (n + m))) e)) row := by
    intro old ho row
    have hge := grownCap_ge w (n + m) old e
    have hcm : grownCap w (n + m) old e ≤ maxLen := grownCap_le_maxLen w (n + m) old e (by unfold maxLen; omega)
    refine ⟨⟨hlen, .inr ⟨w.heap.size, _, _, rfl, hbase, heap_alloc_new w.drew _, hge, hcm, ?_, ?_⟩⟩, ⟨rfl, rfl, rfl, by simp, fun k hk _ => Below.heap_alloc w.drew _ k hk⟩⟩
    · simp only [Array.size_append, List.size_toArray, size_zeroCells, hzs, hown.1, hl, ← Nat.add_mul]
      exact Nat.mul_le_mul_right _ (by omega)
    · simp only [Array.toList_append, List.append_assoc]
      rw [← List.append_assoc, ← hlen]
      exact List.take_left
  rcases hown.2 with ⟨rfl, rfl⟩ | ⟨g, cap, cur, rfl, hbg, hg, hnc, hcm, hcs, htake⟩
  · have hx : xs = [] := List.eq_nil_of_length_eq_zero (by simpa using hown.1)
    subst hx
    by_cases hm : m = 0
    · subst hm
      have hn : news = [] := List.eq_nil_of_length_eq_zero (by simpa using hl)
      subst hn
      refine ⟨.slice none 0 0, w, ?_, OwnX.nil, ⟨rfl, rfl, rfl, Nat.le_refl _, fun _ _ _ => rfl⟩, .inl rfl⟩
      simp [Builtin.append_, run_underlying ht, sizeOf, typeInfo, hi, Builtin.lenOf, Builtin.firstCells, loadCells, loadCellsFrom]
    · have hr := run_append_nil (P := P) w t ty e i z ht hi hz a m c news hl hnews (by omega) (by omega) (by have hb := hbytes; simp only [Nat.zero_add] at hb; omega)
      have hgr := grown 0 (by omega) (Value.ownBlock (.slice none 0 0))
      simp only [Nat.zero_add, List.nil_append, Array.empty_append] at hgr ⊢
      exact ⟨_, _, hr, hgr.1, hgr.2, .inr rfl⟩
  · by_cases hroom : n + m ≤ cap
    · have hc' : (n + m) * i.size ≤ cap * i.size := Nat.mul_le_mul_right _ hroom
      have hfit : n * i.size + news.length ≤ cur.size := by rw [hl, ← Nat.add_mul]; omega
      have hr := run_append_room (P := P) w t ty e i ht hi g n cap cur hg a m c news hl hnews h1 hroom hfit
      refine ⟨_, _, hr, ⟨hlen, .inr ⟨g, cap, _, rfl, hbg, setRow_heap w g cur _ e _ hg, hroom, hcm, ?_, ?_⟩⟩, ⟨rfl, rfl, rfl, by simp, fun k _ hk => setRow_other w g k _ (fun e => hk (by simp [Value.ownBlock, e]))⟩, .inl rfl⟩
      · simp only [List.size_toArray, List.length_append, List.length_take, List.length_drop, Array.length_toList]
        omega
      · rw [htake, ← hlen]
        exact List.take_left
    · have holds : ∀ j u, xs[j]? = some u → w.cell? ((⟨g, 0, none⟩ : Addr).add j) = some u := fun j u hu => by rw [add_zero_q]; exact hown.cells (g := g) rfl j u hu
      have hr := run_append_grow (P := P) w t ty e i z ht hi hz ⟨g, 0, none⟩ n cap xs hown.1 holds a m c news hl hnews (by omega) (by omega) (growslice_fits (by omega) hbytes)
      have hgr := grown cap (by omega) (Value.ownBlock (.slice (some ⟨g, 0, none⟩) n cap))
      exact ⟨_, _, hr, hgr.1, hgr.2, .inr rfl⟩

/-- a text: its number, where its bytes lie, its bytes, whether some of it was taken -/
structure Txt where
  id : Nat
  g : Nat
  off : Nat
  cap : Nat
  bs : List Nat
  bg : Bool
def Txt.waits (t : Txt) : Value := .slice (some ⟨t.g, t.off, none⟩) t.bs.length t.cap
def txc (ts : List Txt) : List Value := ts.flatMap fun t => [.int .u64 t.id, t.waits, .bool t.bg]
theorem txc_cons (t : Txt) (r : List Txt) : txc (t :: r) = .int .u64 t.id :: t.waits :: .bool t.bg :: txc r := rfl
theorem txc_append (a b : List Txt) : txc (a ++ b) = txc a ++ txc b := by simp [txc]
theorem length_txc (ts : List Txt) : (txc ts).length = ts.length * 3 := by
  induction ts with
  | nil => rfl
  | cons t r ih => rw [txc_cons]; simp [ih]; omega
theorem txc_one (ts : List Txt) : ∀ v ∈ txc ts, v.oneCell' = true := by
  intro v hv
  simp only [txc, List.mem_flatMap] at hv
  obtain ⟨t, _, hv⟩ := hv
  simp at hv
  rcases hv with rfl | rfl | rfl <;> rfl
theorem txc_at {ts : List Txt} {i : Nat} {t : Txt} (h : ts[i]? = some t) : (txc ts)[i * 3]? = some (.int .u64 t.id) ∧ (txc ts)[i * 3 + 1]? = some t.waits ∧ (txc ts)[i * 3 + 2]? = some (.bool t.bg) := by
  induction ts generalizing i with
  | nil => simp at h
  | cons z r ih =>
    cases i with
    | zero => simp at h; subst h; exact ⟨rfl, rfl, rfl⟩
    | succ i =>
      have h2 := ih (i := i) (by simpa using h)
      rw [txc_cons, show (i + 1) * 3 = i * 3 + 1 + 1 + 1 by omega]
      simpa using h2
theorem txc_take (ts : List Txt) (k : Nat) : (txc ts).take (k * 3) = txc (ts.take k) := by
  induction ts generalizing k with
  | nil => simp [txc]
  | cons t r ih =>
    cases k with
    | zero => simp [txc]
    | succ k =>
      rw [txc_cons, show (k + 1) * 3 = k * 3 + 1 + 1 + 1 by omega, List.take_succ_cons, List.take_succ_cons, List.take_succ_cons, ih, List.take_succ_cons, txc_cons]
theorem txc_drop (ts : List Txt) (k : Nat) : (txc ts).drop (k * 3) = txc (ts.drop k) := by
  induction ts generalizing k with
  | nil => simp [txc]
  | cons t r ih =>
    cases k with
    | zero => simp
    | succ k =>
      rw [txc_cons, show (k + 1) * 3 = k * 3 + 1 + 1 + 1 by omega, List.drop_succ_cons, List.drop_succ_cons, List.drop_succ_cons, ih, List.drop_succ_cons]

/-- a text's bytes lie where it says -/
def Txt.lies (B : Nat) (w : World) (t : Txt) : Prop :=
  B ≤ t.g ∧ t.bs.length ≤ t.cap ∧ t.cap ≤ 9223372036854775807 ∧ ∃ cs, Row w t.g 5 cs ∧ ∀ j b, t.bs[j]? = some b → cs[t.off + j]? = some (.int .u8 (b : Nat))
theorem Txt.lies.only {B : Nat} {w v : World} {t : Txt} {S : Nat → Prop} (h : t.lies B w) (ho : Only S w v) (hS : ¬ S t.g) : t.lies B v := by
  obtain ⟨h1, h2, h3, cs, h4, h5⟩ := h
  exact ⟨h1, h2, h3, cs, h4.only ho hS, h5⟩
theorem Txt.lies.src {B : Nat} {w : World} {t : Txt} (h : t.lies B w) : QSrcB w (some ⟨t.g, t.off, none⟩) (qbts t.bs) := by
  obtain ⟨_, _, _, cs, h4, h5⟩ := h
  intro _
  refine ⟨_, _, rfl, fun j u hu => ?_⟩
  have hj : j < t.bs.length := by have := (List.getElem?_eq_some_iff.1 hu).1; rw [qlength_bts] at this; exact this
  have hb := qbts_at (List.getElem?_eq_getElem hj)
  rw [hu] at hb
  injection hb with hb
  rw [hb]
  exact h4.read (h5 j _ (List.getElem?_eq_getElem hj))

/-- the queue at block p has this room, this last number, these texts; all above block B -/
def QRep (B : Nat) (w : World) (p : Nat) (room : Int) (last : Nat) (ts : List Txt) : Prop :=
  B ≤ p ∧ B ≤ w.heap.size ∧ ∃ sv, Row w p 253 #[.int .i64 room, .int .u64 last, sv] ∧ OwnX w B 255 3 sv ts.length (txc ts) ∧ ∀ t ∈ ts, t.lies B w
theorem QRep.only {B : Nat} {w v : World} {p : Nat} {room : Int} {last : Nat} {ts : List Txt} {S : Nat → Prop} (h : QRep B w p room last ts) (ho : Only S w v) (hS : ∀ k, S k → k < B) : QRep B v p room last ts := by
  obtain ⟨h1, h2, sv, h3, h4, h5⟩ := h
  exact ⟨h1, by have := ho.size; omega, sv, h3.only ho (fun hk => by have := hS _ hk; omega), h4.only ho (fun k hk hk' => by have := (h4.lt k hk).1; have := hS _ hk'; omega), fun t ht => (h5 t ht).only ho (fun hk => by have := hS _ hk; have := (h5 t ht).1; omega)⟩
theorem QRep.later {B : Nat} {w v : World} {p : Nat} {room : Int} {last : Nat} {ts : List Txt} (h : QRep B w p room last ts) (hb : Below w.heap.size w v) : QRep B v p room last ts :=
  h.only (S := fun _ => False) (.of_below hb) (fun _ h => h.elim)
end Go.Proofs.Ytolinlnnbdjimaa
