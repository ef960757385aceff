/-
  status: a list of misses of a call's own, while it grows. A list of the call's own of one-cell elements: one more (append); how it looks. The document's queue: in memory; its first text, its numbers, its bytes.
-/
import Derived.Test.YtbhnpcmmcelecaaJStatusGrows08
import Derived.Laws.ResultCell
import Derived.Test.YtbhnpcmmcelecaaJStatusGrows01
namespace Go.Proofs.Ytbhnpcmmcelecaa
open Go.RowKit

theorem Try.infomiss2 : (Try.prog.info? 83).map (fun i => (i.zero, i.size, i.bytes)) = some (some (.agg #[.int .i64 0, .bool false, .int .i64 0, .int .i64 0]), 4, 32) := by kernel_rfl
def mcells (L : List MissM) : List Value := L.flatMap fun m => [.int .i64 m.sn, .bool m.part, .int .i64 m.fr, .int .i64 m.to]
theorem mcells_cons (m : MissM) (t : List MissM) : mcells (m :: t) = .int .i64 m.sn :: .bool m.part :: .int .i64 m.fr :: .int .i64 m.to :: mcells t := rfl
theorem mcells_append (a b : List MissM) : mcells (a ++ b) = mcells a ++ mcells b := by simp [mcells]
theorem len_mcells (L : List MissM) : (mcells L).length = L.length * 4 := by
  induction L with
  | nil => rfl
  | cons m t ih => rw [mcells_cons]; simp [ih]; omega
theorem mcells_at {L : List MissM} {k : Nat} {m : MissM} (h : L[k]? = some m) : (mcells L)[k * 4]? = some (.int .i64 m.sn) ∧ (mcells L)[k * 4 + 1]? = some (.bool m.part) ∧ (mcells L)[k * 4 + 2]? = some (.int .i64 m.fr) ∧ (mcells L)[k * 4 + 3]? = some (.int .i64 m.to) := by
  induction L generalizing k with
  | nil => simp at h
  | cons z r ih =>
    cases k with
    | zero => simp at h; subst h; exact ⟨rfl, rfl, rfl, rfl⟩
    | succ k =>
      have h2 := ih (k := k) (by simpa using h)
      rw [mcells_cons, show (k + 1) * 4 = k * 4 + 1 + 1 + 1 + 1 by omega]
      simpa using h2
def OwnM (B : Nat) (w : World) (v : Value) (L : List MissM) : Prop := w.ownsRow B 83 4 v L.length (mcells L)
theorem OwnM.nil (B : Nat) (w : World) : OwnM B w (.slice none 0 0) [] := World.ownsRow_nil _ _ _ _
theorem OwnM.form {B : Nat} {w : World} {v : Value} {L : List MissM} (h : OwnM B w v L) : ∃ A c, v = .slice A L.length c ∧ L.length ≤ c ∧ c ≤ 9223372036854775807 := by
  rcases h.2 with ⟨rfl, h0⟩ | ⟨g, cap, cur, rfl, _, _, h1, h2, _⟩
  · exact ⟨none, 0, by rw [h0], by omega, by omega⟩
  · exact ⟨_, cap, rfl, h1, by unfold maxLen at h2; omega⟩
theorem OwnM.src {B : Nat} {w : World} {A : Option Addr} {n c : Nat} {L : List MissM} (h : OwnM B w (.slice A n c) L) : MSrc w A L := by
  intro h0
  obtain ⟨g, cap', hv, _, _⟩ := World.ownsRow.form h h0
  injection hv with hA _ _
  subst hA
  have hc := World.ownsRow.cells h (g := g) rfl
  refine ⟨g, 0, rfl, fun k m hm => ?_⟩
  obtain ⟨a, b, c, d⟩ := mcells_at hm
  have q := fun j u hu => hc j u hu
  refine ⟨?_, ?_, ?_, ?_⟩
  · have := q _ _ a; rw [add_zero_addr] at this; rw [Nat.zero_add]; exact this
  · have := q _ _ b; rw [add_zero_addr] at this; rw [Nat.zero_add]; exact this
  · have := q _ _ c; rw [add_zero_addr] at this; rw [Nat.zero_add]; exact this
  · have := q _ _ d; rw [add_zero_addr] at this; rw [Nat.zero_add]; exact this
theorem OwnM.next {B : Nat} {w : World} {v : Value} {L : List MissM} (h : OwnM B w v L) (hB : B ≤ w.heap.size) (m : MissM) (hl : L.length ≤ 1000) :
    ∃ g c w3, (Builtin.append_ #[79, 79] 79 #[v, .slice (some ⟨w.heap.size, 0, none⟩) 1 1]).run Try.prog (w.alloc (.cells #[.int .i64 m.sn, .bool m.part, .int .i64 m.fr, .int .i64 m.to] 83)) = .ok (.slice (some ⟨g, 0, none⟩) (L.length + 1) c) w3 ∧
      OwnM B w3 (.slice (some ⟨g, 0, none⟩) (L.length + 1) c) (L ++ [m]) ∧ Only (fun k => v.ownBlock = some k) w w3 := by
  obtain ⟨i0, hi, hi0, hi1, hi2⟩ := info_parts Try.infomiss2
  obtain ⟨g, cap, w3, hr3, h2, h3, _, _⟩ := run_append_lies (P := Try.prog) (w.alloc (.cells #[.int .i64 m.sn, .bool m.part, .int .i64 m.fr, .int .i64 m.to] 83)) 79 79 B 83 i0 _ 4 32 Try.underlying79 hi hi0 hi1 hi2 rfl (by omega) v L.length _ (World.ownsRow.alloc h _) ⟨w.heap.size, 0, none⟩ 1 1 [.int .i64 m.sn, .bool m.part, .int .i64 m.fr, .int .i64 m.to] rfl
    (World.news_of_block (cs := #[.int .i64 m.sn, .bool m.part, .int .i64 m.fr, .int .i64 m.to]) (heap_alloc_new w _)) (by intro u hu; simp at hu; rcases hu with rfl | rfl | rfl | rfl <;> rfl) (by omega) (by unfold maxLen; omega) (by omega) (by simp; omega) _ rfl
  refine ⟨g, cap, w3, hr3, ?_, ((Only.refl (fun k => v.ownBlock = some k) w).alloc (.cells #[.int .i64 m.sn, .bool m.part, .int .i64 m.fr, .int .i64 m.to] 83)).grown h3 (fun k hk => .inl hk)⟩
  unfold OwnM
  rw [List.length_append, mcells_append]
  exact h2
end Go.Proofs.Ytbhnpcmmcelecaa
namespace Go.Proofs.Ytbhnpcmmcelecaa
open Go.RowKit

theorem wpList_is {P : Program} {ops : Array Oper} {rest : List Oper} {o : Oper} {a : Act} {w : World} {Q : Exit → Act → World → Prop} (hgd : o.guard = none) (s x : Operand) (t : TypeId)
    (ho : o.op = .call { callee := .builtin .append, args := #[s, x], argTypes := #[t, t] }) (v u : Value) (hs : a.eval s = v) (hx : a.eval x = u) {v' : Value} {w' : World}
    (hr : (Builtin.append_ #[t, t] o.type #[v, u]).run P w = .ok v' w') (h : wpList P ops Q rest (a.put o.dst v') w') : wpList P ops Q (o :: rest) a w :=
  wpList_plain hgd fun _ hK => by
    unfold Oper.wp execOp
    simp only [ho, resolve, invoke, builtin, Sem.run_bind, Sem.run_pure, Result.andThen_ok, List.map_toArray, List.map_cons, List.map_nil, hs, hx, hr]
    exact hK _ _ h
theorem add_zero_o (g j : Nat) : (⟨g, 0, none⟩ : Addr).add j = ⟨g, j, none⟩ := by
  unfold Addr.add
  split
  · rename_i h; rw [h]
  · simp
section
variable {m n : Nat} {w v : World} {x u z : Value} {xs : List Value} {T E by' : Nat}
theorem own_next (hT : Try.prog.underlying T = some (.slice E)) (hI : (Try.prog.info? E).map (fun i => (i.zero, i.size, i.bytes)) = some (some z, 1, by')) (hz : z.cells.size = 1) (hby : by' ≤ 24) (hu : u.oneCell' = true) (h : w.ownsRow m E 1 x n xs) (hm : m ≤ w.heap.size) (hn : n ≤ 100000) :
    ∃ A' c' w2, (Builtin.append_ #[T, T] T #[x, .slice (some ⟨w.heap.size, 0, none⟩) 1 1]).run Try.prog (w.alloc (.cells #[u] E)) = .ok (.slice A' (n + 1) c') w2 ∧
      w2.ownsRow m E 1 (.slice A' (n + 1) c') (n + 1) (xs ++ [u]) ∧ Only (fun k => x.ownBlock = some k) w w2 := by
  obtain ⟨i0, hi, hi0, hi1, hi2⟩ := info_parts hI
  have hbA := bl_alloc (Below.refl w.heap.size w) (.cells #[u] E)
  have a4' := own_only h (S := fun _ => False) (.of_below hbA) (fun _ _ hk => hk)
  obtain ⟨v', w2, hrun, hown, hgr, _, hat⟩ := run_append_own_at (P := Try.prog) (w := w.alloc (.cells #[u] E)) m T T E i0 z 1 by' hT hi hi0 hi1 hi2 hz (by omega) x n xs a4' ⟨w.heap.size, 0, none⟩ 1 1 [u] rfl
    (fun j u' hu' => by
      match j, hu' with
      | 0, hu' =>
        simp only [List.getElem?_cons_zero, Option.some.injEq] at hu'
        subst hu'
        rw [add_zero_o]
        exact (Row.made w E #[u]).read rfl
      | j + 1, hu' => simp at hu') (by intro y hy; simp at hy; subst hy; exact hu) (by unfold maxLen; omega) (by have := Nat.mul_le_mul (show n + 1 ≤ 100001 by omega) hby; omega) (by have := hbA.size; omega)
  have hon : Only (fun k => x.ownBlock = some k) w w2 := (Only.of_below hbA).andThen ((Only.refl _ _).grown hgr (fun k hk => .inl hk) : Only (fun k => x.ownBlock = some k) _ _) (fun k _ hk => hk)
  obtain ⟨A', c', rfl⟩ : ∃ A' c', v' = .slice A' (n + 1) c' := by
    rcases hown.2 with ⟨_, e⟩ | ⟨g, cap, cur, e, _⟩
    · omega
    · exact ⟨some ⟨g, 0, none⟩, cap, e⟩
  exact ⟨A', c', w2, hrun, hown, hon⟩
theorem own_shape (h : w.ownsRow m E 1 x n xs) : ∃ A c, x = .slice A n c ∧ n ≤ c ∧ c ≤ 9223372036854775807 := by
  rcases h.2 with ⟨rfl, rfl⟩ | ⟨g, cap, cur, rfl, _, _, h1, h2, _⟩
  · exact ⟨none, 0, rfl, Nat.le_refl _, by decide⟩
  · exact ⟨_, cap, rfl, h1, by unfold maxLen at h2; omega⟩
theorem own_after (h : w.ownsRow m E 1 x n xs) (hb : Below w.heap.size w v) : v.ownsRow m E 1 x n xs := own_only h (S := fun _ => False) (.of_below hb) (fun _ _ hk => hk)
/-- what lies behind a slice: in one block, that is not older than block m -/
def SlAt (m E : Nat) (w : World) (A : Option Addr) (xs : List Value) : Prop :=
  xs ≠ [] → ∃ (g : Nat) (cs : Array Value), A = some ⟨g, 0, none⟩ ∧ m ≤ g ∧ Row w g E cs ∧ ∀ (i : Nat) (u : Value), xs[i]? = some u → cs[i]? = some u
theorem own_at {A : Option Addr} {c : Nat} (h : w.ownsRow m E 1 (.slice A n c) n xs) : SlAt m E w A xs := by
  intro hne
  rcases h.2 with ⟨h1, h2⟩ | ⟨g, cap, cur, h1, h2, h3, h4, h5, h6, h7⟩
  · exfalso
    have := h.1
    rw [h2] at this
    exact hne (List.eq_nil_of_length_eq_zero (by omega))
  · injection h1 with hA _ _
    refine ⟨g, cur, hA, h2, h3, fun i u hu => ?_⟩
    have hi := (List.getElem?_eq_some_iff.1 hu).1
    have hl := h.1
    rw [← h7, List.getElem?_take] at hu
    split at hu
    · simpa using hu
    · cases hu
theorem SlAt.only {S : Nat → Prop} {A : Option Addr} (h : SlAt m E w A xs) (ho : Only S w v) (hS : ∀ g cs, Row w g E cs → m ≤ g → ¬ S g) : SlAt m E v A xs := by
  intro hne
  obtain ⟨g, cs, h1, h2, h3, h4⟩ := h hne
  exact ⟨g, cs, h1, h2, h3.only ho (hS g cs h3 h2), h4⟩
theorem SlAt.later {A : Option Addr} (h : SlAt m E w A xs) (hb : Below w.heap.size w v) : SlAt m E v A xs := h.only (S := fun _ => False) (.of_below hb) (fun _ _ _ _ hk => hk)
theorem SlAt.cell {A : Option Addr} (h : SlAt m E w A xs) {i : Nat} {u : Value} (hu : xs[i]? = some u) : ∃ g, A = some ⟨g, 0, none⟩ ∧ w.cell? ⟨g, i, none⟩ = some u := by
  obtain ⟨g, cs, h1, h2, h3, h4⟩ := h (by rintro rfl; simp at hu)
  exact ⟨g, h1, h3.read (h4 i u hu)⟩
end
end Go.Proofs.Ytbhnpcmmcelecaa
namespace Go.Proofs.Ytbhnpcmmcelecaa
open Go.RowKit

structure Ent where
  g : Nat
  c : Nat
  bs : List Nat
  tk : Nat
  gone : Bool
def eL (E : List Ent) : List Value := E.map fun e => .slice (some ⟨e.g, 0, none⟩) e.bs.length e.c
def eT (E : List Ent) : List Value := E.map fun e => .int .i64 (e.tk : Int)
def eG (E : List Ent) : List Value := E.map fun e => .bool e.gone
def Ent.ok (B : Nat) (w : World) (e : Ent) : Prop :=
  0 < e.bs.length ∧ e.bs.length ≤ 1000 ∧ e.tk ≤ e.bs.length ∧ (e.gone = false → e.tk < e.bs.length) ∧ e.bs.length ≤ e.c ∧ e.c ≤ 9223372036854775807 ∧ B ≤ e.g ∧
    ∃ cs, Row w e.g 5 cs ∧ ∀ (j b : Nat), e.bs[j]? = some b → cs[j]? = some (.int .u8 b)
/-- the three lists of a queue of the document's -/
structure RL (w : World) (B : Nat) (E : List Ent) (AL AT AG : Option Addr) (cL cT cG : Nat) : Prop where
  l : w.ownsRow B 61 1 (.slice AL E.length cL) E.length (eL E)
  t : w.ownsRow B 3 1 (.slice AT E.length cT) E.length (eT E)
  g : w.ownsRow B 4 1 (.slice AG E.length cG) E.length (eG E)
structure RQ (w : World) (y B : Nat) (room : Int) (E : List Ent) : Prop where
  row : ∃ AL cL AT cT AG cG, Row w y 60 #[.int .i64 room, .slice AL E.length cL, .slice AT E.length cT, .slice AG E.length cG] ∧ RL w B E AL AT AG cL cT cG
  ent : ∀ e ∈ E, e.ok B w
  many : E.length ≤ 200
section
variable {w v : World} {y B : Nat} {room : Int} {E : List Ent} {AL AT AG : Option Addr} {cL cT cG : Nat}
theorem Ent.ok.only {S : Nat → Prop} {e : Ent} (h : e.ok B w) (ho : Only S w v) (hS : ∀ g cs, Row w g 5 cs → ¬ S g) : e.ok B v := by
  obtain ⟨h1, h2, h3, h4, h5, h6, h7, cs, h8, h9⟩ := h
  exact ⟨h1, h2, h3, h4, h5, h6, h7, cs, h8.only ho (hS _ _ h8), h9⟩
theorem own_typed {m E' n : Nat} {x : Value} {xs : List Value} {S : Nat → Prop} (h : w.ownsRow m E' 1 x n xs) (ho : Only S w v) (hS : ∀ g cs, Row w g E' cs → ¬ S g) : v.ownsRow m E' 1 x n xs :=
  own_only h ho fun k hk => by
    rcases h.2 with ⟨rfl, _⟩ | ⟨g, cap, cur, rfl, _, hh, _⟩
    · simp [Value.ownBlock] at hk
    · have e1 : g = k := by simpa [Value.ownBlock] using hk
      subst e1
      exact hS _ _ hh
theorem RQ.only {S : Nat → Prop} (h : RQ w y B room E) (ho : Only S w v) (hy : ¬ S y) (hS : ∀ g t cs, Row w g t cs → t = 3 ∨ t = 4 ∨ t = 5 ∨ t = 61 → ¬ S g) : RQ v y B room E := by
  obtain ⟨AL, cL, AT, cT, AG, cG, h1, h2⟩ := h.row
  exact ⟨⟨AL, cL, AT, cT, AG, cG, h1.only ho hy, ⟨own_typed h2.l ho fun g cs hr => hS g _ cs hr (by simp), own_typed h2.t ho fun g cs hr => hS g _ cs hr (by simp), own_typed h2.g ho fun g cs hr => hS g _ cs hr (by simp)⟩⟩, fun e he => (h.ent e he).only ho fun g cs hr => hS g _ cs hr (by simp), h.many⟩
theorem RQ.later (h : RQ w y B room E) (hb : Below w.heap.size w v) : RQ v y B room E := h.only (S := fun _ => False) (.of_below hb) (fun hk => hk) (fun _ _ _ _ _ hk => hk)
theorem eG_at {i : Nat} {e : Ent} (h : E[i]? = some e) : (eG E)[i]? = some (.bool e.gone) := by unfold eG; rw [List.getElem?_map, h]; rfl
theorem eT_at {i : Nat} {e : Ent} (h : E[i]? = some e) : (eT E)[i]? = some (.int .i64 (e.tk : Int)) := by unfold eT; rw [List.getElem?_map, h]; rfl
theorem eL_at {i : Nat} {e : Ent} (h : E[i]? = some e) : (eL E)[i]? = some (.slice (some ⟨e.g, 0, none⟩) e.bs.length e.c) := by unfold eL; rw [List.getElem?_map, h]; rfl
theorem qcells {n : Nat} (hr : Row w y 60 #[.int .i64 room, .slice AL n cL, .slice AT n cT, .slice AG n cG]) : w.cell? ⟨y, 0, none⟩ = some (.int .i64 room) ∧ w.cell? ⟨y, 1, none⟩ = some (.slice AL n cL) ∧ w.cell? ⟨y, 2, none⟩ = some (.slice AT n cT) ∧ w.cell? ⟨y, 3, none⟩ = some (.slice AG n cG) := ⟨hr.read rfl, hr.read rfl, hr.read rfl, hr.read rfl⟩
/-- the place of the first text that is not gone -/
def fE (E : List Ent) : Nat := E.findIdx fun e => !e.gone
def fEi (E : List Ent) : Int := if fE E < E.length then (fE E : Int) else -1
theorem fE_before {i : Nat} {e : Ent} (h : E[i]? = some e) (hi : i < fE E) : e.gone = true := by
  have hl := (List.getElem?_eq_some_iff.1 h).1
  have he := (List.getElem?_eq_some_iff.1 h).2
  have := List.not_of_lt_findIdx hi
  rw [he] at this
  simpa using this
theorem fE_at {e : Ent} (h : E[fE E]? = some e) : e.gone = false := by
  have hl := (List.getElem?_eq_some_iff.1 h).1
  have he := (List.getElem?_eq_some_iff.1 h).2
  have := List.findIdx_getElem (w := hl)
  rw [← he]
  simp only [Bool.not_eq_true'] at this
  exact this
theorem fE_le : fE E ≤ E.length := List.findIdx_le_length
set_option maxRecDepth 100000 in
set_option maxHeartbeats 1600000 in
theorem rq_first (h : RQ w y B room E) : Calls Try.prog 118 #[.pointer (some ⟨y, 0, none⟩)] w fun e w' => e = .returned (.int .i64 (fEi E)) ∧ w = w' := by
  obtain ⟨AL, cL, AT, cT, AG, cG, hr, hl⟩ := h.row
  have HG := Lib.hid (own_at hl.g)
  have HB := Lib.hid (fun i e (h : E[i]? = some e) (hi : i < fE E) => fE_before h hi)
  have HA := Lib.hid (fun e (h : E[fE E]? = some e) => fE_at h)
  have hle := fE_le (E := E)
  have HF := Lib.hid (show fEi E = if fE E < E.length then (fE E : Int) else -1 from rfl)
  have HN := Lib.hid (fun i (hi : i < E.length) => (⟨_, List.getElem?_eq_getElem hi⟩ : ∃ e, E[i]? = some e))
  have hm := h.many
  generalize hf : fE E = f at *
  generalize hn : E.length = n at *
  obtain ⟨c0, c1, c2, c3⟩ := qcells hr
  clear h hr hl hn hf
  go_enter Try.func118, Try.ntmps118
  go_wp2
  go_loopw [3] (fun s3 wr => ∃ i : Nat, i ≤ f ∧ s3 = .int .i64 i ∧ w = wr) (fun s3 _ => f - (intOf s3).toNat)
  case atStart => exact ⟨0, by omega, rfl, rfl⟩
  case round =>
    obtain ⟨i, hi, rfl, rfl⟩ := hrel
    by_cases hlt : i < n
    · obtain ⟨e, he⟩ := HN.out i hlt
      obtain ⟨g, rfl, z⟩ := HG.out.cell (eG_at he)
      have h1 : (i : Int) < n := by omega
      have h0 : (0 : Int) ≤ i := by omega
      by_cases hif : i < f
      · have hg := HB.out i e he hif
        rw [hg] at z
        have HIF := Lib.hid hif
        clear he hg hlt hif
        go_wp2
        go_roundw
        case rel => exact ⟨i + 1, by have := HIF.out; omega, by go_num, trivial⟩
        case measure => have := HIF.out; simp [intOf]; omega
      · obtain rfl : i = f := by omega
        have hg := HA.out e he
        rw [hg] at z
        have HR := Lib.hid (show fEi E = (i : Int) by rw [HF.out, if_pos hlt])
        clear he hg hlt hif
        go_wp2
        go_ret
        exact ⟨ret_int HR.out.symm, rfl⟩
    · have h1 : ¬ (i : Int) < n := by omega
      have HR := Lib.hid (show fEi E = -1 by rw [HF.out, if_neg (by omega)])
      clear hlt
      go_wp2
      go_ret
      exact ⟨ret_int HR.out.symm, rfl⟩
def idk (E : List Ent) (k : Nat) : List Nat := ((List.range k).filter fun i => !((E[i]?.map Ent.gone).getD true)).map fun i => i + 1
def u64v (l : List Nat) : List Value := l.map fun b : Nat => .int .u64 (b : Int)
theorem idk_succ {k : Nat} {e : Ent} (h : E[k]? = some e) : idk E (k + 1) = idk E k ++ (if e.gone = true then [] else [k + 1]) := by
  unfold idk
  rw [List.range_succ, List.filter_append, List.map_append]
  congr 1
  by_cases hg : e.gone = true
  · rw [if_pos hg, List.filter_cons_of_neg (by rw [h]; simp [hg])]; rfl
  · rw [if_neg hg, List.filter_cons_of_pos (by rw [h]; simpa using hg)]; rfl
theorem idk_le (E : List Ent) (k : Nat) : (idk E k).length ≤ k := by
  unfold idk
  rw [List.length_map]
  exact Nat.le_trans (List.length_filter_le _ _) (by simp)
theorem u64v_app (l k : List Nat) : u64v (l ++ k) = u64v l ++ u64v k := by unfold u64v; simp
set_option maxRecDepth 100000 in
set_option maxHeartbeats 3200000 in
theorem rq_ids (h : RQ w y B room E) : Calls Try.prog 47 #[.pointer (some ⟨y, 0, none⟩)] w fun e w' => ∃ A c, e = .returned (.slice A (idk E E.length).length c) ∧ SlAt w.heap.size 64 w' A (u64v (idk E E.length)) ∧ Below w.heap.size w w' := by
  obtain ⟨AL, cL, AT, cT, AG, cG, hr, hl⟩ := h.row
  have HG := Lib.hid (own_at hl.g)
  have HR := Lib.hid hr
  have HN := Lib.hid (fun i (hi : i < E.length) => (⟨_, List.getElem?_eq_getElem hi⟩ : ∃ e, E[i]? = some e))
  have HS := Lib.hid (fun k e (h : E[k]? = some e) => idk_succ h)
  have HL := Lib.hid (idk_le E)
  have HZ0 : ∀ wr : World, wr.ownsRow w.heap.size 64 1 (.slice none 0 0) (idk E 0).length (u64v (idk E 0)) := fun wr => World.ownsRow_nil _ _ _ _
  have HZ := Lib.hid HZ0
  clear HZ0
  have hm := h.many
  generalize idk E = id at *
  generalize hn : E.length = n at *
  clear h hr hl hn
  go_enter Try.func47, Try.ntmps47
  go_wp2
  go_loopw [3, 4] (fun s3 s4 wr => ∃ i : Nat, i ≤ n ∧ s4 = .int .i64 i ∧ Hid (wr.ownsRow w.heap.size 64 1 s3 (id i).length (u64v (id i))) ∧ Hid (Below w.heap.size w wr)) (fun _ s4 _ => n - (intOf s4).toNat)
  case atStart => exact ⟨0, by omega, rfl, Lib.hid (HZ.out _), Lib.hid (Below.refl _ _)⟩
  case round =>
    obtain ⟨i, hi, rfl, HOW, HBr⟩ := hrel
    obtain ⟨A3, c3', rfl, hc3, hc3m⟩ := own_shape HOW.out
    obtain ⟨c0, c1, c2, c3⟩ := qcells (HR.out.later HBr.out)
    by_cases hlt : i < n
    · obtain ⟨e, he⟩ := HN.out i hlt
      obtain ⟨g, rfl, z⟩ := (HG.out.later HBr.out).cell (eG_at he)
      have h1 : (i : Int) < n := by omega
      have h0 : (0 : Int) ≤ i := by omega
      have HSI := Lib.hid (HS.out i e he)
      have HLT := Lib.hid hlt
      have hu : IntKind.u64.wrap ((i : Int) + 1) = ((i + 1 : Nat) : Int) := by rw [IntKind.wrap_u64]; omega
      have hu0 : IntKind.u64.wrap (i : Int) = (i : Int) := by rw [IntKind.wrap_u64]; omega
      clear he hlt
      cases hg : e.gone
      · rw [hg] at z HSI
        simp only [Bool.false_eq_true, if_false] at HSI
        obtain ⟨A', c', w3, hrun, hown, hon⟩ := own_next (T := 71) (E := 64) (u := .int .u64 ((i + 1 : Nat) : Int)) (by kernel_rfl) (show (Try.prog.info? 64).map (fun i => (i.zero, i.size, i.bytes)) = some (some (.int .u64 0), 1, 8) by kernel_rfl) rfl (by omega) rfl HOW.out HBr.out.size (by have := HL.out i; omega)
        have HRUN := Lib.hid hrun
        have HOWN := Lib.hid hown
        have HON := Lib.hid (hon.below HBr.out.size (fun j hj hk => by have := (own_block HOW.out j hk).1; omega))
        clear hrun hown hon hg
        go_wp2_with (first
          | (at_builtin; refine wpList_is rfl (.tmp 22) (.tmp 26) 71 rfl _ _ (by rfl) (by rfl) HRUN.out ?_)
          | go_in)
        go_roundw
        case rel => exact ⟨i + 1, by have := HLT.out; omega, by go_num, Lib.hid (by rw [HSI.out, List.length_append, u64v_app]; exact HOWN.out), Lib.hid (HBr.out.trans HON.out)⟩
        case measure => have := HLT.out; simp [intOf]; omega
      · rw [hg] at z HSI
        simp only [if_true, List.append_nil] at HSI
        clear hg
        go_wp2
        go_roundw
        case rel => exact ⟨i + 1, by have := HLT.out; omega, by go_num, Lib.hid (by rw [HSI.out]; exact HOW.out), HBr⟩
        case measure => have := HLT.out; simp [intOf]; omega
    · have h1 : ¬ (i : Int) < n := by omega
      obtain rfl : i = n := by omega
      clear hlt
      go_wp2
      go_ret
      refine ⟨A3, ⟨c3', rfl⟩, own_at HOW.out, HBr.out⟩
/-- how many bytes wait of the first k texts -/
def byk (E : List Ent) (k : Nat) : Nat := ((E.take k).map fun e => if e.gone then 0 else e.bs.length - e.tk).sum
theorem byk_succ {k : Nat} {e : Ent} (h : E[k]? = some e) : byk E (k + 1) = byk E k + (if e.gone = true then 0 else e.bs.length - e.tk) := by
  unfold byk
  rw [List.take_add_one, h]
  simp
theorem byk_le (he : ∀ e ∈ E, e.bs.length ≤ 1000) (k : Nat) : byk E k ≤ 1000 * k := by
  induction k with
  | zero => simp [byk]
  | succ k ih =>
    by_cases hk : k < E.length
    · rw [byk_succ (List.getElem?_eq_getElem hk)]
      have := he _ (List.getElem_mem hk)
      split <;> omega
    · have : byk E (k + 1) = byk E k := by
        unfold byk
        rw [List.take_of_length_le (by omega), List.take_of_length_le (by omega)]
      omega
set_option maxRecDepth 100000 in
set_option maxHeartbeats 3200000 in
theorem rq_bytes (h : RQ w y B room E) : Calls Try.prog 45 #[.pointer (some ⟨y, 0, none⟩)] w fun e w' => e = .returned (.int .i64 (byk E E.length : Nat)) ∧ Below w.heap.size w w' := by
  obtain ⟨AL, cL, AT, cT, AG, cG, hr, hl⟩ := h.row
  have HG := Lib.hid (own_at hl.g)
  have HT := Lib.hid (own_at hl.t)
  have HLL := Lib.hid (own_at hl.l)
  have HR := Lib.hid hr
  have HE := Lib.hid h.ent
  have HN := Lib.hid (fun i (hi : i < E.length) => (⟨_, List.getElem?_eq_getElem hi⟩ : ∃ e, E[i]? = some e))
  have HS := Lib.hid (fun k e (h : E[k]? = some e) => byk_succ h)
  have HL := Lib.hid (byk_le (E := E) fun e he => (h.ent e he).2.1)
  have HZ := Lib.hid (show byk E 0 = 0 from rfl)
  have hm := h.many
  generalize byk E = by' at *
  generalize hn : E.length = n at *
  clear h hr hl hn
  go_enter Try.func45, Try.ntmps45
  go_wp2
  go_loopw [3, 4] (fun s3 s4 wr => ∃ i q : Nat, i ≤ n ∧ s4 = .int .i64 i ∧ s3 = .int .i64 (q : Int) ∧ Hid (by' i = q) ∧ q ≤ 200000 ∧ Hid (Below w.heap.size w wr)) (fun _ s4 _ => n - (intOf s4).toNat)
  case atStart => exact ⟨0, 0, by omega, rfl, rfl, HZ, by omega, Lib.hid (Below.refl _ _)⟩
  case round =>
    obtain ⟨i, q, hi, rfl, rfl, HQ, hq, HBr⟩ := hrel
    obtain ⟨c0, c1, c2, c3⟩ := qcells (HR.out.later HBr.out)
    by_cases hlt : i < n
    · obtain ⟨e, he⟩ := HN.out i hlt
      obtain ⟨g, rfl, z⟩ := (HG.out.later HBr.out).cell (eG_at he)
      have h1 : (i : Int) < n := by omega
      have h0 : (0 : Int) ≤ i := by omega
      have HSI := Lib.hid (HS.out i e he)
      have HLT := Lib.hid hlt
      have hbd := HL.out (i + 1)
      cases hg : e.gone
      · rw [hg] at z HSI
        simp only [Bool.false_eq_true, if_false] at HSI
        obtain ⟨g1, rfl, z1⟩ := (HT.out.later HBr.out).cell (eT_at he)
        obtain ⟨g2, rfl, z2⟩ := (HLL.out.later HBr.out).cell (eL_at he)
        obtain ⟨e1, e2, e3, _⟩ := HE.out e (List.mem_of_getElem? he)
        have HSJ := Lib.hid (show ((q : Int) + (e.bs.length : Int) - (e.tk : Int)) = ((by' (i + 1) : Nat) : Int) by rw [HSI.out, HQ.out]; omega)
        have HBD := Lib.hid (show by' (i + 1) ≤ 200000 by omega)
        generalize e.bs.length = bl at *
        generalize e.tk = tk at *
        clear he hg hlt e1 hbd
        have w1 : IntKind.i64.wrap ((q : Int) + (bl : Int)) = (q : Int) + bl := IntWalk.i64_in _ (by omega)
        have w2 : IntKind.i64.wrap ((q : Int) + (bl : Int) - (tk : Int)) = (q : Int) + bl - tk := IntWalk.i64_in _ (by omega)
        go_wp2
        go_quiet (fail)
        go_wp2
        go_roundw
        case rel => exact ⟨i + 1, by' (i + 1), by have := HLT.out; omega, by go_num, by rw [HSJ.out], Lib.hid rfl, HBD.out, Lib.hid (below_drewN HBr.out _)⟩
        case measure => have := HLT.out; simp [intOf]; omega
      · rw [hg] at z HSI
        simp only [if_true, Nat.add_zero] at HSI
        clear hg
        go_wp2
        go_roundw
        case rel => exact ⟨i + 1, q, by have := HLT.out; omega, by go_num, rfl, Lib.hid (by rw [HSI.out]; exact HQ.out), hq, HBr⟩
        case measure => have := HLT.out; simp [intOf]; omega
    · have h1 : ¬ (i : Int) < n := by omega
      obtain rfl : i = n := by omega
      clear hlt
      go_wp2
      go_ret
      exact ⟨ret_int (by rw [HQ.out]), HBr.out⟩
end
end Go.Proofs.Ytbhnpcmmcelecaa
