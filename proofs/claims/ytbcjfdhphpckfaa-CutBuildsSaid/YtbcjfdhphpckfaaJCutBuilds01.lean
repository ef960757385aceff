/-
  Small plain lemmas: frames with holes at a jump, memory below a block, a row's last step. What one call may change in memory: some blocks alone; and what stays. A list of the call's own of one-cell elements: one more (append); how it looks. The document's queue: in memory; its first text, its numbers, its bytes.
-/
import Derived.Test.YtbcjfdhphpckfaaProg
import Derived.WalkKit
import Derived.WalkSpells
import Derived.WalkLawsBesides
import Derived.Deep.QuietTactic
import Derived.BigQuiet
import Derived.Lib.Hide
import Derived.Deep.RegionHeld3
import Derived.Deep.RegionWith
import Derived.WalkMore
import Derived.ScopeJumps
import Derived.Deep.AppendLies
import Derived.Maps.AppendAt
namespace Go.Proofs.Ytbcjfdhphpckfaa
open Go.RowKit

/-- a list of values, some of them known -/
def Holes : List (Option Value) → (List Value → Prop) → Prop
  | [], k => k []
  | some v :: r, k => Holes r fun l => k (v :: l)
  | none :: r, k => ∃ u, Holes r fun l => k (u :: l)
/-- the frame at a jump -/
def Fr (xs : List (Option Value)) (a : Act) : Prop := Holes xs fun l => a = { tmps := l.toArray, defers := [] }

theorem ret_bool {a b : Bool} (h : a = b) : Ending.returned (.bool a) = .returned (.bool b) := by rw [h]
theorem ret_int {k : IntKind} {a b : Int} (h : a = b) : Ending.returned (.int k a) = .returned (.int k b) := by rw [h]
theorem ret_ints {k l : IntKind} {a b c d : Int} (h : a = b) (h' : c = d) : Ending.returned (.tuple #[.int k a, .int l c]) = .returned (.tuple #[.int k b, .int l d]) := by rw [h, h']

theorem bcell {W w1 : World} (hb : Below W.heap.size W w1) : (∀ b o, b < W.heap.size → w1.cell? ⟨b, o, none⟩ = W.cell? ⟨b, o, none⟩) ∧ (∀ b o, b < W.heap.size → w1.frozen? ⟨b, o, none⟩ = W.frozen? ⟨b, o, none⟩) :=
  ⟨fun b o h => hb.cell (p := ⟨b, o, none⟩) h, fun b o h => hb.frozen (p := ⟨b, o, none⟩) h⟩
theorem bl_step {w a b : World} (h : Below w.heap.size w a) (k : Below a.heap.size a b) : Below w.heap.size w b := h.trans (k.mono h.size)
theorem bl_alloc {w a : World} (h : Below w.heap.size w a) (o : Obj) : Below w.heap.size w (a.alloc o) := h.alloc h.size o
theorem bl_drew {w a : World} (h : Below w.heap.size w a) : Below w.heap.size w a.drew := h.drew

/-- a cell known in a world is known in one that is alike below -/
theorem kept_box {w v : World} {g j : Nat} {x : Value} (hb : Below v.heap.size v w) (h : v.cell? ⟨g, j, none⟩ = some x) : w.cell? ⟨g, j, none⟩ = some x :=
  (hb.cell (p := ⟨g, j, none⟩) (by
    rcases Nat.lt_or_ge g v.heap.size with h1 | h1
    · exact h1
    · exfalso
      simp [World.cell?, Array.getElem?_eq_none h1] at h)).trans h

/-- block g holds just these cells, none of them frozen -/
def Row (w : World) (g : Nat) (t : TypeId) (cs : Array Value) : Prop := w.heap[g]? = some (.cells cs t (0, 0))
section
variable {w v : World} {g : Nat} {t : TypeId} {cs : Array Value}
theorem Row.inside (h : Row w g t cs) : g < w.heap.size := by
  rcases Nat.lt_or_ge g w.heap.size with h1 | h1
  · exact h1
  · exfalso
    unfold Row at h
    rw [Array.getElem?_eq_none h1] at h
    cases h
theorem Row.read (h : Row w g t cs) {i : Nat} {x : Value} (hx : cs[i]? = some x) : w.cell? ⟨g, i, none⟩ = some x := (cell_of_row w g i cs t (0, 0) h).trans hx
theorem Row.free (h : Row w g t cs) (i : Nat) : w.frozen? ⟨g, i, none⟩ = false := by
  unfold Row at h
  simp [World.frozen?, h]
theorem Row.made (w : World) (t : TypeId) (cs : Array Value) : Row (w.alloc (.cells cs t)) w.heap.size t cs := heap_alloc_new w _
theorem Row.later (h : Row w g t cs) (hb : Below w.heap.size w v) : Row v g t cs := (hb.block g h.inside).trans h
theorem Row.more (h : Row w g t cs) (o : Obj) : Row (w.alloc o) g t cs := (Below.heap_alloc w o g h.inside).trans h
theorem Row.drawn (h : Row w g t cs) : Row w.drew g t cs := h
theorem Row.written (h : Row w g t cs) (i : Nat) (x : Value) : Row (w.setCell ⟨g, i, none⟩ x) g t (cs.setIfInBounds i x) := by
  unfold Row at h ⊢
  simp [World.setCell, Array.getElem?_modify, h]
theorem Row.elsewhere (h : Row w g t cs) {p : Addr} (hp : g ≠ p.block) (x : Value) : Row (w.setCell p x) g t cs := (Below.heap_setCell w p x g hp).trans h
end
end Go.Proofs.Ytbcjfdhphpckfaa
namespace Go.Proofs.Ytbcjfdhphpckfaa
open Go.RowKit

/-- from w to v only blocks in S, and new ones, have changed -/
structure Only (S : Nat → Prop) (w v : World) : Prop where
  os : v.os = w.os
  tape : v.tape = w.tape
  output : v.output = w.output
  size : w.heap.size ≤ v.heap.size
  same : ∀ k, k < w.heap.size → ¬ S k → v.heap[k]? = w.heap[k]?

section
variable {S T : Nat → Prop} {w v u : World}
theorem Only.refl (S : Nat → Prop) (w : World) : Only S w w := ⟨rfl, rfl, rfl, Nat.le_refl _, fun _ _ _ => rfl⟩
theorem Only.weaker (h : Only S w v) (hs : ∀ k, k < w.heap.size → S k → T k) : Only T w v :=
  ⟨h.os, h.tape, h.output, h.size, fun k hk hn => h.same k hk fun hk' => hn (hs k hk hk')⟩
theorem Only.andThen (h : Only S w v) (h' : Only T v u) (hs : ∀ k, k < w.heap.size → T k → S k) : Only S w u :=
  ⟨h'.os.trans h.os, h'.tape.trans h.tape, h'.output.trans h.output, Nat.le_trans h.size h'.size, fun k hk hn =>
    (h'.same k (Nat.lt_of_lt_of_le hk h.size) fun hk' => hn (hs k hk hk')).trans (h.same k hk hn)⟩
theorem Only.of_below (h : Below w.heap.size w v) : Only S w v := ⟨h.os, h.tape, h.output, h.size, fun k hk _ => h.block k hk⟩
theorem Only.below (h : Only S w v) {B : Nat} (hB : B ≤ w.heap.size) (hs : ∀ k, k < B → ¬ S k) : Below B w v :=
  ⟨h.os, h.tape, h.output, h.size, fun k hk => h.same k (Nat.lt_of_lt_of_le hk hB) (hs k hk)⟩
theorem Only.alloc (h : Only S w v) (o : Obj) : Only S w (v.alloc o) :=
  h.andThen (T := fun _ => False) (.of_below (bl_alloc (Below.refl _ _) o)) fun _ _ hk => hk.elim
theorem Only.drew (h : Only S w v) : Only S w v.drew := ⟨h.os, h.tape, h.output, h.size, h.same⟩
theorem Only.drewN (h : Only S w v) (n : Nat) : Only S w (v.drewN n) :=
  h.andThen (T := fun _ => False) (.of_below (below_drewN (Below.refl _ _) n)) fun _ _ hk => hk.elim
theorem Only.set (h : Only S w v) {p : Addr} (hp : S p.block ∨ w.heap.size ≤ p.block) (x : Value) : Only S w (v.setCell p x) :=
  ⟨h.os, h.tape, h.output, by rw [show (v.setCell p x).heap.size = v.heap.size by simp [World.setCell]]; exact h.size, fun k hk hn =>
    (Below.heap_setCell v p x k (fun e => by subst e; rcases hp with hp | hp; exact hn hp; omega)).trans (h.same k hk hn)⟩
theorem Only.grown (h : Only S w v) {row : Option Nat} (hg : v.grownBy u row) (hr : ∀ k, row = some k → S k ∨ w.heap.size ≤ k) : Only S w u :=
  ⟨hg.os.trans h.os, hg.tape.trans h.tape, hg.output.trans h.output, Nat.le_trans h.size hg.size, fun k hk hn =>
    (hg.block k (Nat.lt_of_lt_of_le hk h.size) (fun e => by rcases hr k e.symm with h1 | h1; exact hn h1; omega)).trans (h.same k hk hn)⟩

theorem Row.only {g : Nat} {t : TypeId} {cs : Array Value} (h : Row w g t cs) (ho : Only S w v) (hg : ¬ S g) : Row v g t cs := (ho.same g h.inside hg).trans h
theorem own_block {base : Nat} {e : TypeId} {size : Nat} {x : Value} {n : Nat} {xs : List Value} (h : w.ownsRow base e size x n xs) : ∀ k, x.ownBlock = some k → base ≤ k ∧ k < w.heap.size := h.lt
theorem own_only {base : Nat} {e : TypeId} {size : Nat} {x : Value} {n : Nat} {xs : List Value} (h : w.ownsRow base e size x n xs) (ho : Only S w v) (hS : ∀ k, x.ownBlock = some k → ¬ S k) : v.ownsRow base e size x n xs := by
  refine ⟨h.1, ?_⟩
  rcases h.2 with h0 | ⟨g, cap, cur, rfl, hb, hh, h1⟩
  · exact .inl h0
  · refine .inr ⟨g, cap, cur, rfl, hb, ?_, h1⟩
    have hl : g < w.heap.size := (h.lt g rfl).2
    exact (ho.same g hl (hS g rfl)).trans hh
theorem cell_only {g j : Nat} {x : Value} (h : w.cell? ⟨g, j, none⟩ = some x) (ho : Only S w v) (hg : ¬ S g) : v.cell? ⟨g, j, none⟩ = some x := by
  have hl : g < w.heap.size := by
    rcases Nat.lt_or_ge g w.heap.size with h1 | h1
    · exact h1
    · exfalso
      simp [World.cell?, Array.getElem?_eq_none h1] at h
  rw [← h]
  exact World.cell?_of_block (ho.same g hl hg)
/-- rows of different element types lie in different blocks -/
theorem own_apart {base : Nat} {e : TypeId} {size : Nat} {x : Value} {n : Nat} {xs : List Value} {g : Nat} {t : TypeId} {cs : Array Value} (h : w.ownsRow base e size x n xs) (hr : Row w g t cs) (hne : e ≠ t) : x.ownBlock ≠ some g := by
  rcases h.2 with ⟨rfl, _⟩ | ⟨g', cap, cur, rfl, _, hh, _⟩
  · simp [Value.ownBlock]
  · intro he
    have e1 : g' = g := by simpa [Value.ownBlock] using he
    subst e1
    unfold Row at hr
    rw [hh] at hr
    injection hr with hr
    injection hr with _ hr
    exact hne hr
theorem Row.apart {g g' : Nat} {t t' : TypeId} {cs cs' : Array Value} (h : Row w g t cs) (h' : Row w g' t' cs') (hne : t ≠ t') : g ≠ g' := by
  rintro rfl
  unfold Row at h h'
  rw [h] at h'
  injection h' with h'
  injection h' with _ h'
  exact hne h'
end
end Go.Proofs.Ytbcjfdhphpckfaa
namespace Go.Proofs.Ytbcjfdhphpckfaa
open Go.RowKit

theorem wpList_is {P : Program} {ops : Array Oper} {rest : List Oper} {o : Oper} {a : Act} {w : World} {Q : Exit → Act → World → Prop} (hgd : o.guard = none) (s x : Operand) (t : TypeId)
    (ho : o.op = .call { callee := .builtin .append, args := #[s, x], argTypes := #[t, t] }) (v u : Value) (hs : a.eval s = v) (hx : a.eval x = u) {v' : Value} {w' : World}
    (hr : (Builtin.append_ #[t, t] o.type #[v, u]).run P w = .ok v' w') (h : wpList P ops Q rest (a.put o.dst v') w') : wpList P ops Q (o :: rest) a w :=
  wpList_plain hgd fun _ hK => by
    unfold Oper.wp execOp
    simp only [ho, resolve, invoke, builtin, Sem.run_bind, Sem.run_pure, Result.andThen_ok, List.map_toArray, List.map_cons, List.map_nil, hs, hx, hr]
    exact hK _ _ h
theorem add_zero_o (g j : Nat) : (⟨g, 0, none⟩ : Addr).add j = ⟨g, j, none⟩ := by
  unfold Addr.add
  split
  · rename_i h; rw [h]
  · simp
section
variable {m n : Nat} {w v : World} {x u z : Value} {xs : List Value} {T E by' : Nat}
theorem own_next (hT : Try.prog.underlying T = some (.slice E)) (hI : (Try.prog.info? E).map (fun i => (i.zero, i.size, i.bytes)) = some (some z, 1, by')) (hz : z.cells.size = 1) (hby : by' ≤ 24) (hu : u.oneCell' = true) (h : w.ownsRow m E 1 x n xs) (hm : m ≤ w.heap.size) (hn : n ≤ 100000) :
    ∃ A' c' w2, (Builtin.append_ #[T, T] T #[x, .slice (some ⟨w.heap.size, 0, none⟩) 1 1]).run Try.prog (w.alloc (.cells #[u] E)) = .ok (.slice A' (n + 1) c') w2 ∧
      w2.ownsRow m E 1 (.slice A' (n + 1) c') (n + 1) (xs ++ [u]) ∧ Only (fun k => x.ownBlock = some k) w w2 := by
  obtain ⟨i0, hi, hi0, hi1, hi2⟩ := info_parts hI
  have hbA := bl_alloc (Below.refl w.heap.size w) (.cells #[u] E)
  have a4' := own_only h (S := fun _ => False) (.of_below hbA) (fun _ _ hk => hk)
  obtain ⟨v', w2, hrun, hown, hgr, _, hat⟩ := run_append_own_at (P := Try.prog) (w := w.alloc (.cells #[u] E)) m T T E i0 z 1 by' hT hi hi0 hi1 hi2 hz (by omega) x n xs a4' ⟨w.heap.size, 0, none⟩ 1 1 [u] rfl
    (fun j u' hu' => by
      match j, hu' with
      | 0, hu' =>
        simp only [List.getElem?_cons_zero, Option.some.injEq] at hu'
        subst hu'
        rw [add_zero_o]
        exact (Row.made w E #[u]).read rfl
      | j + 1, hu' => simp at hu') (by intro y hy; simp at hy; subst hy; exact hu) (by unfold maxLen; omega) (by have := Nat.mul_le_mul (show n + 1 ≤ 100001 by omega) hby; omega) (by have := hbA.size; omega)
  have hon : Only (fun k => x.ownBlock = some k) w w2 := (Only.of_below hbA).andThen ((Only.refl _ _).grown hgr (fun k hk => .inl hk) : Only (fun k => x.ownBlock = some k) _ _) (fun k _ hk => hk)
  obtain ⟨A', c', rfl⟩ : ∃ A' c', v' = .slice A' (n + 1) c' := by
    rcases hown.2 with ⟨_, e⟩ | ⟨g, cap, cur, e, _⟩
    · omega
    · exact ⟨some ⟨g, 0, none⟩, cap, e⟩
  exact ⟨A', c', w2, hrun, hown, hon⟩
theorem own_shape (h : w.ownsRow m E 1 x n xs) : ∃ A c, x = .slice A n c ∧ n ≤ c ∧ c ≤ 9223372036854775807 := by
  rcases h.2 with ⟨rfl, rfl⟩ | ⟨g, cap, cur, rfl, _, _, h1, h2, _⟩
  · exact ⟨none, 0, rfl, Nat.le_refl _, by decide⟩
  · exact ⟨_, cap, rfl, h1, by unfold maxLen at h2; omega⟩
theorem own_after (h : w.ownsRow m E 1 x n xs) (hb : Below w.heap.size w v) : v.ownsRow m E 1 x n xs := own_only h (S := fun _ => False) (.of_below hb) (fun _ _ hk => hk)
/-- what lies behind a slice: in one block, that is not older than block m -/
def SlAt (m E : Nat) (w : World) (A : Option Addr) (xs : List Value) : Prop :=
  xs ≠ [] → ∃ (g : Nat) (cs : Array Value), A = some ⟨g, 0, none⟩ ∧ m ≤ g ∧ Row w g E cs ∧ ∀ (i : Nat) (u : Value), xs[i]? = some u → cs[i]? = some u
theorem own_at {A : Option Addr} {c : Nat} (h : w.ownsRow m E 1 (.slice A n c) n xs) : SlAt m E w A xs := by
  intro hne
  rcases h.2 with ⟨h1, h2⟩ | ⟨g, cap, cur, h1, h2, h3, h4, h5, h6, h7⟩
  · exfalso
    have := h.1
    rw [h2] at this
    exact hne (List.eq_nil_of_length_eq_zero (by omega))
  · injection h1 with hA _ _
    refine ⟨g, cur, hA, h2, h3, fun i u hu => ?_⟩
    have hi := (List.getElem?_eq_some_iff.1 hu).1
    have hl := h.1
    rw [← h7, List.getElem?_take] at hu
    split at hu
    · simpa using hu
    · cases hu
theorem SlAt.only {S : Nat → Prop} {A : Option Addr} (h : SlAt m E w A xs) (ho : Only S w v) (hS : ∀ g cs, Row w g E cs → m ≤ g → ¬ S g) : SlAt m E v A xs := by
  intro hne
  obtain ⟨g, cs, h1, h2, h3, h4⟩ := h hne
  exact ⟨g, cs, h1, h2, h3.only ho (hS g cs h3 h2), h4⟩
theorem SlAt.later {A : Option Addr} (h : SlAt m E w A xs) (hb : Below w.heap.size w v) : SlAt m E v A xs := h.only (S := fun _ => False) (.of_below hb) (fun _ _ _ _ hk => hk)
theorem SlAt.cell {A : Option Addr} (h : SlAt m E w A xs) {i : Nat} {u : Value} (hu : xs[i]? = some u) : ∃ g, A = some ⟨g, 0, none⟩ ∧ w.cell? ⟨g, i, none⟩ = some u := by
  obtain ⟨g, cs, h1, h2, h3, h4⟩ := h (by rintro rfl; simp at hu)
  exact ⟨g, h1, h3.read (h4 i u hu)⟩
end
end Go.Proofs.Ytbcjfdhphpckfaa
namespace Go.Proofs.Ytbcjfdhphpckfaa
open Go.RowKit

structure Ent where
  g : Nat
  c : Nat
  bs : List Nat
  tk : Nat
  gone : Bool
def eL (E : List Ent) : List Value := E.map fun e => .slice (some ⟨e.g, 0, none⟩) e.bs.length e.c
def eT (E : List Ent) : List Value := E.map fun e => .int .i64 (e.tk : Int)
def eG (E : List Ent) : List Value := E.map fun e => .bool e.gone
def Ent.ok (B : Nat) (w : World) (e : Ent) : Prop :=
  0 < e.bs.length ∧ e.bs.length ≤ 1000 ∧ e.tk ≤ e.bs.length ∧ (e.gone = false → e.tk < e.bs.length) ∧ e.bs.length ≤ e.c ∧ e.c ≤ 9223372036854775807 ∧ B ≤ e.g ∧
    ∃ cs, Row w e.g 5 cs ∧ ∀ (j b : Nat), e.bs[j]? = some b → cs[j]? = some (.int .u8 b)
/-- the three lists of a queue of the document's -/
structure RL (w : World) (B : Nat) (E : List Ent) (AL AT AG : Option Addr) (cL cT cG : Nat) : Prop where
  l : w.ownsRow B 34 1 (.slice AL E.length cL) E.length (eL E)
  t : w.ownsRow B 3 1 (.slice AT E.length cT) E.length (eT E)
  g : w.ownsRow B 4 1 (.slice AG E.length cG) E.length (eG E)
structure RQ (w : World) (y B : Nat) (room : Int) (E : List Ent) : Prop where
  row : ∃ AL cL AT cT AG cG, Row w y 33 #[.int .i64 room, .slice AL E.length cL, .slice AT E.length cT, .slice AG E.length cG] ∧ RL w B E AL AT AG cL cT cG
  ent : ∀ e ∈ E, e.ok B w
  many : E.length ≤ 200
section
variable {w v : World} {y B : Nat} {room : Int} {E : List Ent} {AL AT AG : Option Addr} {cL cT cG : Nat}
theorem Ent.ok.only {S : Nat → Prop} {e : Ent} (h : e.ok B w) (ho : Only S w v) (hS : ∀ g cs, Row w g 5 cs → ¬ S g) : e.ok B v := by
  obtain ⟨h1, h2, h3, h4, h5, h6, h7, cs, h8, h9⟩ := h
  exact ⟨h1, h2, h3, h4, h5, h6, h7, cs, h8.only ho (hS _ _ h8), h9⟩
theorem own_typed {m E' n : Nat} {x : Value} {xs : List Value} {S : Nat → Prop} (h : w.ownsRow m E' 1 x n xs) (ho : Only S w v) (hS : ∀ g cs, Row w g E' cs → ¬ S g) : v.ownsRow m E' 1 x n xs :=
  own_only h ho fun k hk => by
    rcases h.2 with ⟨rfl, _⟩ | ⟨g, cap, cur, rfl, _, hh, _⟩
    · simp [Value.ownBlock] at hk
    · have e1 : g = k := by simpa [Value.ownBlock] using hk
      subst e1
      exact hS _ _ hh
theorem RQ.only {S : Nat → Prop} (h : RQ w y B room E) (ho : Only S w v) (hy : ¬ S y) (hS : ∀ g t cs, Row w g t cs → t = 3 ∨ t = 4 ∨ t = 5 ∨ t = 34 → ¬ S g) : RQ v y B room E := by
  obtain ⟨AL, cL, AT, cT, AG, cG, h1, h2⟩ := h.row
  exact ⟨⟨AL, cL, AT, cT, AG, cG, h1.only ho hy, ⟨own_typed h2.l ho fun g cs hr => hS g _ cs hr (by simp), own_typed h2.t ho fun g cs hr => hS g _ cs hr (by simp), own_typed h2.g ho fun g cs hr => hS g _ cs hr (by simp)⟩⟩, fun e he => (h.ent e he).only ho fun g cs hr => hS g _ cs hr (by simp), h.many⟩
theorem RQ.later (h : RQ w y B room E) (hb : Below w.heap.size w v) : RQ v y B room E := h.only (S := fun _ => False) (.of_below hb) (fun hk => hk) (fun _ _ _ _ _ hk => hk)
theorem eG_at {i : Nat} {e : Ent} (h : E[i]? = some e) : (eG E)[i]? = some (.bool e.gone) := by unfold eG; rw [List.getElem?_map, h]; rfl
theorem eT_at {i : Nat} {e : Ent} (h : E[i]? = some e) : (eT E)[i]? = some (.int .i64 (e.tk : Int)) := by unfold eT; rw [List.getElem?_map, h]; rfl
theorem eL_at {i : Nat} {e : Ent} (h : E[i]? = some e) : (eL E)[i]? = some (.slice (some ⟨e.g, 0, none⟩) e.bs.length e.c) := by unfold eL; rw [List.getElem?_map, h]; rfl
theorem qcells {n : Nat} (hr : Row w y 33 #[.int .i64 room, .slice AL n cL, .slice AT n cT, .slice AG n cG]) : w.cell? ⟨y, 0, none⟩ = some (.int .i64 room) ∧ w.cell? ⟨y, 1, none⟩ = some (.slice AL n cL) ∧ w.cell? ⟨y, 2, none⟩ = some (.slice AT n cT) ∧ w.cell? ⟨y, 3, none⟩ = some (.slice AG n cG) := ⟨hr.read rfl, hr.read rfl, hr.read rfl, hr.read rfl⟩
/-- the place of the first text that is not gone -/
def fE (E : List Ent) : Nat := E.findIdx fun e => !e.gone
def fEi (E : List Ent) : Int := if fE E < E.length then (fE E : Int) else -1
theorem fE_before {i : Nat} {e : Ent} (h : E[i]? = some e) (hi : i < fE E) : e.gone = true := by
  have hl := (List.getElem?_eq_some_iff.1 h).1
  have he := (List.getElem?_eq_some_iff.1 h).2
  have := List.not_of_lt_findIdx hi
  rw [he] at this
  simpa using this
theorem fE_at {e : Ent} (h : E[fE E]? = some e) : e.gone = false := by
  have hl := (List.getElem?_eq_some_iff.1 h).1
  have he := (List.getElem?_eq_some_iff.1 h).2
  have := List.findIdx_getElem (w := hl)
  rw [← he]
  simp only [Bool.not_eq_true'] at this
  exact this
theorem fE_le : fE E ≤ E.length := List.findIdx_le_length
set_option maxRecDepth 100000 in
set_option maxHeartbeats 1600000 in
theorem rq_first (h : RQ w y B room E) : Calls Try.prog 112 #[.pointer (some ⟨y, 0, none⟩)] w fun e w' => e = .returned (.int .i64 (fEi E)) ∧ w = w' := by
  obtain ⟨AL, cL, AT, cT, AG, cG, hr, hl⟩ := h.row
  have HG := Lib.hid (own_at hl.g)
  have HB := Lib.hid (fun i e (h : E[i]? = some e) (hi : i < fE E) => fE_before h hi)
  have HA := Lib.hid (fun e (h : E[fE E]? = some e) => fE_at h)
  have hle := fE_le (E := E)
  have HF := Lib.hid (show fEi E = if fE E < E.length then (fE E : Int) else -1 from rfl)
  have HN := Lib.hid (fun i (hi : i < E.length) => (⟨_, List.getElem?_eq_getElem hi⟩ : ∃ e, E[i]? = some e))
  have hm := h.many
  generalize hf : fE E = f at *
  generalize hn : E.length = n at *
  obtain ⟨c0, c1, c2, c3⟩ := qcells hr
  clear h hr hl hn hf
  go_enter Try.func112, Try.ntmps112
  go_wp2
  go_loopw [3] (fun s3 wr => ∃ i : Nat, i ≤ f ∧ s3 = .int .i64 i ∧ w = wr) (fun s3 _ => f - (intOf s3).toNat)
  case atStart => exact ⟨0, by omega, rfl, rfl⟩
  case round =>
    obtain ⟨i, hi, rfl, rfl⟩ := hrel
    by_cases hlt : i < n
    · obtain ⟨e, he⟩ := HN.out i hlt
      obtain ⟨g, rfl, z⟩ := HG.out.cell (eG_at he)
      have h1 : (i : Int) < n := by omega
      have h0 : (0 : Int) ≤ i := by omega
      by_cases hif : i < f
      · have hg := HB.out i e he hif
        rw [hg] at z
        have HIF := Lib.hid hif
        clear he hg hlt hif
        go_wp2
        go_roundw
        case rel => exact ⟨i + 1, by have := HIF.out; omega, by go_num, trivial⟩
        case measure => have := HIF.out; simp [intOf]; omega
      · obtain rfl : i = f := by omega
        have hg := HA.out e he
        rw [hg] at z
        have HR := Lib.hid (show fEi E = (i : Int) by rw [HF.out, if_pos hlt])
        clear he hg hlt hif
        go_wp2
        go_ret
        exact ⟨ret_int HR.out.symm, rfl⟩
    · have h1 : ¬ (i : Int) < n := by omega
      have HR := Lib.hid (show fEi E = -1 by rw [HF.out, if_neg (by omega)])
      clear hlt
      go_wp2
      go_ret
      exact ⟨ret_int HR.out.symm, rfl⟩
def idk (E : List Ent) (k : Nat) : List Nat := ((List.range k).filter fun i => !((E[i]?.map Ent.gone).getD true)).map fun i => i + 1
def u64v (l : List Nat) : List Value := l.map fun b : Nat => .int .u64 (b : Int)
theorem idk_succ {k : Nat} {e : Ent} (h : E[k]? = some e) : idk E (k + 1) = idk E k ++ (if e.gone = true then [] else [k + 1]) := by
  unfold idk
  rw [List.range_succ, List.filter_append, List.map_append]
  congr 1
  by_cases hg : e.gone = true
  · rw [if_pos hg, List.filter_cons_of_neg (by rw [h]; simp [hg])]; rfl
  · rw [if_neg hg, List.filter_cons_of_pos (by rw [h]; simpa using hg)]; rfl
theorem idk_le (E : List Ent) (k : Nat) : (idk E k).length ≤ k := by
  unfold idk
  rw [List.length_map]
  exact Nat.le_trans (List.length_filter_le _ _) (by simp)
theorem u64v_app (l k : List Nat) : u64v (l ++ k) = u64v l ++ u64v k := by unfold u64v; simp
set_option maxRecDepth 100000 in
set_option maxHeartbeats 3200000 in
theorem rq_ids (h : RQ w y B room E) : Calls Try.prog 29 #[.pointer (some ⟨y, 0, none⟩)] w fun e w' => ∃ A c, e = .returned (.slice A (idk E E.length).length c) ∧ SlAt w.heap.size 37 w' A (u64v (idk E E.length)) ∧ Below w.heap.size w w' := by
  obtain ⟨AL, cL, AT, cT, AG, cG, hr, hl⟩ := h.row
  have HG := Lib.hid (own_at hl.g)
  have HR := Lib.hid hr
  have HN := Lib.hid (fun i (hi : i < E.length) => (⟨_, List.getElem?_eq_getElem hi⟩ : ∃ e, E[i]? = some e))
  have HS := Lib.hid (fun k e (h : E[k]? = some e) => idk_succ h)
  have HL := Lib.hid (idk_le E)
  have HZ0 : ∀ wr : World, wr.ownsRow w.heap.size 37 1 (.slice none 0 0) (idk E 0).length (u64v (idk E 0)) := fun wr => World.ownsRow_nil _ _ _ _
  have HZ := Lib.hid HZ0
  clear HZ0
  have hm := h.many
  generalize idk E = id at *
  generalize hn : E.length = n at *
  clear h hr hl hn
  go_enter Try.func29, Try.ntmps29
  go_wp2
  go_loopw [3, 4] (fun s3 s4 wr => ∃ i : Nat, i ≤ n ∧ s4 = .int .i64 i ∧ Hid (wr.ownsRow w.heap.size 37 1 s3 (id i).length (u64v (id i))) ∧ Hid (Below w.heap.size w wr)) (fun _ s4 _ => n - (intOf s4).toNat)
  case atStart => exact ⟨0, by omega, rfl, Lib.hid (HZ.out _), Lib.hid (Below.refl _ _)⟩
  case round =>
    obtain ⟨i, hi, rfl, HOW, HBr⟩ := hrel
    obtain ⟨A3, c3', rfl, hc3, hc3m⟩ := own_shape HOW.out
    obtain ⟨c0, c1, c2, c3⟩ := qcells (HR.out.later HBr.out)
    by_cases hlt : i < n
    · obtain ⟨e, he⟩ := HN.out i hlt
      obtain ⟨g, rfl, z⟩ := (HG.out.later HBr.out).cell (eG_at he)
      have h1 : (i : Int) < n := by omega
      have h0 : (0 : Int) ≤ i := by omega
      have HSI := Lib.hid (HS.out i e he)
      have HLT := Lib.hid hlt
      have hu : IntKind.u64.wrap ((i : Int) + 1) = ((i + 1 : Nat) : Int) := by rw [IntKind.wrap_u64]; omega
      have hu0 : IntKind.u64.wrap (i : Int) = (i : Int) := by rw [IntKind.wrap_u64]; omega
      clear he hlt
      cases hg : e.gone
      · rw [hg] at z HSI
        simp only [Bool.false_eq_true, if_false] at HSI
        obtain ⟨A', c', w3, hrun, hown, hon⟩ := own_next (T := 44) (E := 37) (u := .int .u64 ((i + 1 : Nat) : Int)) (by kernel_rfl) (show (Try.prog.info? 37).map (fun i => (i.zero, i.size, i.bytes)) = some (some (.int .u64 0), 1, 8) by kernel_rfl) rfl (by omega) rfl HOW.out HBr.out.size (by have := HL.out i; omega)
        have HRUN := Lib.hid hrun
        have HOWN := Lib.hid hown
        have HON := Lib.hid (hon.below HBr.out.size (fun j hj hk => by have := (own_block HOW.out j hk).1; omega))
        clear hrun hown hon hg
        go_wp2_with (first
          | (at_builtin; refine wpList_is rfl (.tmp 22) (.tmp 26) 44 rfl _ _ (by rfl) (by rfl) HRUN.out ?_)
          | go_in)
        go_roundw
        case rel => exact ⟨i + 1, by have := HLT.out; omega, by go_num, Lib.hid (by rw [HSI.out, List.length_append, u64v_app]; exact HOWN.out), Lib.hid (HBr.out.trans HON.out)⟩
        case measure => have := HLT.out; simp [intOf]; omega
      · rw [hg] at z HSI
        simp only [if_true, List.append_nil] at HSI
        clear hg
        go_wp2
        go_roundw
        case rel => exact ⟨i + 1, by have := HLT.out; omega, by go_num, Lib.hid (by rw [HSI.out]; exact HOW.out), HBr⟩
        case measure => have := HLT.out; simp [intOf]; omega
    · have h1 : ¬ (i : Int) < n := by omega
      obtain rfl : i = n := by omega
      clear hlt
      go_wp2
      go_ret
      refine ⟨A3, ⟨c3', rfl⟩, own_at HOW.out, HBr.out⟩
/-- how many bytes wait of the first k texts -/
def byk (E : List Ent) (k : Nat) : Nat := ((E.take k).map fun e => if e.gone then 0 else e.bs.length - e.tk).sum
theorem byk_succ {k : Nat} {e : Ent} (h : E[k]? = some e) : byk E (k + 1) = byk E k + (if e.gone = true then 0 else e.bs.length - e.tk) := by
  unfold byk
  rw [List.take_add_one, h]
  simp
theorem byk_le (he : ∀ e ∈ E, e.bs.length ≤ 1000) (k : Nat) : byk E k ≤ 1000 * k := by
  induction k with
  | zero => simp [byk]
  | succ k ih =>
    by_cases hk : k < E.length
    · rw [byk_succ (List.getElem?_eq_getElem hk)]
      have := he _ (List.getElem_mem hk)
      split <;> omega
    · have : byk E (k + 1) = byk E k := by
        unfold byk
        rw [List.take_of_length_le (by omega), List.take_of_length_le (by omega)]
      omega
set_option maxRecDepth 100000 in
set_option maxHeartbeats 3200000 in
theorem rq_bytes (h : RQ w y B room E) : Calls Try.prog 27 #[.pointer (some ⟨y, 0, none⟩)] w fun e w' => e = .returned (.int .i64 (byk E E.length : Nat)) ∧ Below w.heap.size w w' := by
  obtain ⟨AL, cL, AT, cT, AG, cG, hr, hl⟩ := h.row
  have HG := Lib.hid (own_at hl.g)
  have HT := Lib.hid (own_at hl.t)
  have HLL := Lib.hid (own_at hl.l)
  have HR := Lib.hid hr
  have HE := Lib.hid h.ent
  have HN := Lib.hid (fun i (hi : i < E.length) => (⟨_, List.getElem?_eq_getElem hi⟩ : ∃ e, E[i]? = some e))
  have HS := Lib.hid (fun k e (h : E[k]? = some e) => byk_succ h)
  have HL := Lib.hid (byk_le (E := E) fun e he => (h.ent e he).2.1)
  have HZ := Lib.hid (show byk E 0 = 0 from rfl)
  have hm := h.many
  generalize byk E = by' at *
  generalize hn : E.length = n at *
  clear h hr hl hn
  go_enter Try.func27, Try.ntmps27
  go_wp2
  go_loopw [3, 4] (fun s3 s4 wr => ∃ i q : Nat, i ≤ n ∧ s4 = .int .i64 i ∧ s3 = .int .i64 (q : Int) ∧ Hid (by' i = q) ∧ q ≤ 200000 ∧ Hid (Below w.heap.size w wr)) (fun _ s4 _ => n - (intOf s4).toNat)
  case atStart => exact ⟨0, 0, by omega, rfl, rfl, HZ, by omega, Lib.hid (Below.refl _ _)⟩
  case round =>
    obtain ⟨i, q, hi, rfl, rfl, HQ, hq, HBr⟩ := hrel
    obtain ⟨c0, c1, c2, c3⟩ := qcells (HR.out.later HBr.out)
    by_cases hlt : i < n
    · obtain ⟨e, he⟩ := HN.out i hlt
      obtain ⟨g, rfl, z⟩ := (HG.out.later HBr.out).cell (eG_at he)
      have h1 : (i : Int) < n := by omega
      have h0 : (0 : Int) ≤ i := by omega
      have HSI := Lib.hid (HS.out i e he)
      have HLT := Lib.hid hlt
      have hbd := HL.out (i + 1)
      cases hg : e.gone
      · rw [hg] at z HSI
        simp only [Bool.false_eq_true, if_false] at HSI
        obtain ⟨g1, rfl, z1⟩ := (HT.out.later HBr.out).cell (eT_at he)
        obtain ⟨g2, rfl, z2⟩ := (HLL.out.later HBr.out).cell (eL_at he)
        obtain ⟨e1, e2, e3, _⟩ := HE.out e (List.mem_of_getElem? he)
        have HSJ := Lib.hid (show ((q : Int) + (e.bs.length : Int) - (e.tk : Int)) = ((by' (i + 1) : Nat) : Int) by rw [HSI.out, HQ.out]; omega)
        have HBD := Lib.hid (show by' (i + 1) ≤ 200000 by omega)
        generalize e.bs.length = bl at *
        generalize e.tk = tk at *
        clear he hg hlt e1 hbd
        have w1 : IntKind.i64.wrap ((q : Int) + (bl : Int)) = (q : Int) + bl := IntWalk.i64_in _ (by omega)
        have w2 : IntKind.i64.wrap ((q : Int) + (bl : Int) - (tk : Int)) = (q : Int) + bl - tk := IntWalk.i64_in _ (by omega)
        go_wp2
        go_quiet (fail)
        go_wp2
        go_roundw
        case rel => exact ⟨i + 1, by' (i + 1), by have := HLT.out; omega, by go_num, by rw [HSJ.out], Lib.hid rfl, HBD.out, Lib.hid (below_drewN HBr.out _)⟩
        case measure => have := HLT.out; simp [intOf]; omega
      · rw [hg] at z HSI
        simp only [if_true, Nat.add_zero] at HSI
        clear hg
        go_wp2
        go_roundw
        case rel => exact ⟨i + 1, q, by have := HLT.out; omega, by go_num, rfl, Lib.hid (by rw [HSI.out]; exact HQ.out), hq, HBr⟩
        case measure => have := HLT.out; simp [intOf]; omega
    · have h1 : ¬ (i : Int) < n := by omega
      obtain rfl : i = n := by omega
      clear hlt
      go_wp2
      go_ret
      exact ⟨ret_int (by rw [HQ.out]), HBr.out⟩
end
end Go.Proofs.Ytbcjfdhphpckfaa
