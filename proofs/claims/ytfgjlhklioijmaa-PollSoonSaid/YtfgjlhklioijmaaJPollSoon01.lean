/-
  Small plain lemmas: frames with holes at a jump, memory below a block, a row's last step. What one call may change in memory: some blocks alone; and what stays. poll: a poller in memory; its calls. A list of the call's own of one-cell elements: one more (append); how it looks. poll: the document's poller in memory; its calls; the fixed calls. poll: a poller's life: what each call makes of it; the fixed calls.
-/
import Derived.Test.YtfgjlhklioijmaaProg
import Derived.WalkKit
import Derived.WalkSpells
import Derived.WalkLawsBesides
import Derived.Deep.QuietTactic
import Derived.BigQuiet
import Derived.Lib.Hide
import Derived.Deep.RegionHeld3
import Derived.Deep.RegionWith
import Derived.WalkMore
import Derived.ScopeJumps
import Derived.Deep.AppendLies
import Derived.Maps.AppendAt
namespace Go.Proofs.Ytfgjlhklioijmaa
open Go.RowKit

/-- a list of values, some of them known -/
def Holes : List (Option Value) → (List Value → Prop) → Prop
  | [], k => k []
  | some v :: r, k => Holes r fun l => k (v :: l)
  | none :: r, k => ∃ u, Holes r fun l => k (u :: l)
/-- the frame at a jump -/
def Fr (xs : List (Option Value)) (a : Act) : Prop := Holes xs fun l => a = { tmps := l.toArray, defers := [] }

theorem ret_bool {a b : Bool} (h : a = b) : Ending.returned (.bool a) = .returned (.bool b) := by rw [h]
theorem ret_int {k : IntKind} {a b : Int} (h : a = b) : Ending.returned (.int k a) = .returned (.int k b) := by rw [h]
theorem ret_ints {k l : IntKind} {a b c d : Int} (h : a = b) (h' : c = d) : Ending.returned (.tuple #[.int k a, .int l c]) = .returned (.tuple #[.int k b, .int l d]) := by rw [h, h']

theorem bcell {W w1 : World} (hb : Below W.heap.size W w1) : (∀ b o, b < W.heap.size → w1.cell? ⟨b, o, none⟩ = W.cell? ⟨b, o, none⟩) ∧ (∀ b o, b < W.heap.size → w1.frozen? ⟨b, o, none⟩ = W.frozen? ⟨b, o, none⟩) :=
  ⟨fun b o h => hb.cell (p := ⟨b, o, none⟩) h, fun b o h => hb.frozen (p := ⟨b, o, none⟩) h⟩
theorem bl_step {w a b : World} (h : Below w.heap.size w a) (k : Below a.heap.size a b) : Below w.heap.size w b := h.trans (k.mono h.size)
theorem bl_alloc {w a : World} (h : Below w.heap.size w a) (o : Obj) : Below w.heap.size w (a.alloc o) := h.alloc h.size o
theorem bl_drew {w a : World} (h : Below w.heap.size w a) : Below w.heap.size w a.drew := h.drew

/-- a cell known in a world is known in one that is alike below -/
theorem kept_box {w v : World} {g j : Nat} {x : Value} (hb : Below v.heap.size v w) (h : v.cell? ⟨g, j, none⟩ = some x) : w.cell? ⟨g, j, none⟩ = some x :=
  (hb.cell (p := ⟨g, j, none⟩) (by
    rcases Nat.lt_or_ge g v.heap.size with h1 | h1
    · exact h1
    · exfalso
      simp [World.cell?, Array.getElem?_eq_none h1] at h)).trans h

/-- block g holds just these cells, none of them frozen -/
def Row (w : World) (g : Nat) (t : TypeId) (cs : Array Value) : Prop := w.heap[g]? = some (.cells cs t (0, 0))
section
variable {w v : World} {g : Nat} {t : TypeId} {cs : Array Value}
theorem Row.inside (h : Row w g t cs) : g < w.heap.size := by
  rcases Nat.lt_or_ge g w.heap.size with h1 | h1
  · exact h1
  · exfalso
    unfold Row at h
    rw [Array.getElem?_eq_none h1] at h
    cases h
theorem Row.read (h : Row w g t cs) {i : Nat} {x : Value} (hx : cs[i]? = some x) : w.cell? ⟨g, i, none⟩ = some x := (cell_of_row w g i cs t (0, 0) h).trans hx
theorem Row.free (h : Row w g t cs) (i : Nat) : w.frozen? ⟨g, i, none⟩ = false := by
  unfold Row at h
  simp [World.frozen?, h]
theorem Row.made (w : World) (t : TypeId) (cs : Array Value) : Row (w.alloc (.cells cs t)) w.heap.size t cs := heap_alloc_new w _
theorem Row.later (h : Row w g t cs) (hb : Below w.heap.size w v) : Row v g t cs := (hb.block g h.inside).trans h
theorem Row.more (h : Row w g t cs) (o : Obj) : Row (w.alloc o) g t cs := (Below.heap_alloc w o g h.inside).trans h
theorem Row.drawn (h : Row w g t cs) : Row w.drew g t cs := h
theorem Row.written (h : Row w g t cs) (i : Nat) (x : Value) : Row (w.setCell ⟨g, i, none⟩ x) g t (cs.setIfInBounds i x) := by
  unfold Row at h ⊢
  simp [World.setCell, Array.getElem?_modify, h]
theorem Row.elsewhere (h : Row w g t cs) {p : Addr} (hp : g ≠ p.block) (x : Value) : Row (w.setCell p x) g t cs := (Below.heap_setCell w p x g hp).trans h
end
end Go.Proofs.Ytfgjlhklioijmaa
namespace Go.Proofs.Ytfgjlhklioijmaa
open Go.RowKit

/-- from w to v only blocks in S, and new ones, have changed -/
structure Only (S : Nat → Prop) (w v : World) : Prop where
  os : v.os = w.os
  tape : v.tape = w.tape
  output : v.output = w.output
  size : w.heap.size ≤ v.heap.size
  same : ∀ k, k < w.heap.size → ¬ S k → v.heap[k]? = w.heap[k]?

section
variable {S T : Nat → Prop} {w v u : World}
theorem Only.refl (S : Nat → Prop) (w : World) : Only S w w := ⟨rfl, rfl, rfl, Nat.le_refl _, fun _ _ _ => rfl⟩
theorem Only.weaker (h : Only S w v) (hs : ∀ k, k < w.heap.size → S k → T k) : Only T w v :=
  ⟨h.os, h.tape, h.output, h.size, fun k hk hn => h.same k hk fun hk' => hn (hs k hk hk')⟩
theorem Only.andThen (h : Only S w v) (h' : Only T v u) (hs : ∀ k, k < w.heap.size → T k → S k) : Only S w u :=
  ⟨h'.os.trans h.os, h'.tape.trans h.tape, h'.output.trans h.output, Nat.le_trans h.size h'.size, fun k hk hn =>
    (h'.same k (Nat.lt_of_lt_of_le hk h.size) fun hk' => hn (hs k hk hk')).trans (h.same k hk hn)⟩
theorem Only.of_below (h : Below w.heap.size w v) : Only S w v := ⟨h.os, h.tape, h.output, h.size, fun k hk _ => h.block k hk⟩
theorem Only.below (h : Only S w v) {B : Nat} (hB : B ≤ w.heap.size) (hs : ∀ k, k < B → ¬ S k) : Below B w v :=
  ⟨h.os, h.tape, h.output, h.size, fun k hk => h.same k (Nat.lt_of_lt_of_le hk hB) (hs k hk)⟩
theorem Only.alloc (h : Only S w v) (o : Obj) : Only S w (v.alloc o) :=
  h.andThen (T := fun _ => False) (.of_below (bl_alloc (Below.refl _ _) o)) fun _ _ hk => hk.elim
theorem Only.drew (h : Only S w v) : Only S w v.drew := ⟨h.os, h.tape, h.output, h.size, h.same⟩
theorem Only.drewN (h : Only S w v) (n : Nat) : Only S w (v.drewN n) :=
  h.andThen (T := fun _ => False) (.of_below (below_drewN (Below.refl _ _) n)) fun _ _ hk => hk.elim
theorem Only.set (h : Only S w v) {p : Addr} (hp : S p.block ∨ w.heap.size ≤ p.block) (x : Value) : Only S w (v.setCell p x) :=
  ⟨h.os, h.tape, h.output, by rw [show (v.setCell p x).heap.size = v.heap.size by simp [World.setCell]]; exact h.size, fun k hk hn =>
    (Below.heap_setCell v p x k (fun e => by subst e; rcases hp with hp | hp; exact hn hp; omega)).trans (h.same k hk hn)⟩
theorem Only.grown (h : Only S w v) {row : Option Nat} (hg : v.grownBy u row) (hr : ∀ k, row = some k → S k ∨ w.heap.size ≤ k) : Only S w u :=
  ⟨hg.os.trans h.os, hg.tape.trans h.tape, hg.output.trans h.output, Nat.le_trans h.size hg.size, fun k hk hn =>
    (hg.block k (Nat.lt_of_lt_of_le hk h.size) (fun e => by rcases hr k e.symm with h1 | h1; exact hn h1; omega)).trans (h.same k hk hn)⟩

theorem Row.only {g : Nat} {t : TypeId} {cs : Array Value} (h : Row w g t cs) (ho : Only S w v) (hg : ¬ S g) : Row v g t cs := (ho.same g h.inside hg).trans h
theorem own_block {base : Nat} {e : TypeId} {size : Nat} {x : Value} {n : Nat} {xs : List Value} (h : w.ownsRow base e size x n xs) : ∀ k, x.ownBlock = some k → base ≤ k ∧ k < w.heap.size := h.lt
theorem own_only {base : Nat} {e : TypeId} {size : Nat} {x : Value} {n : Nat} {xs : List Value} (h : w.ownsRow base e size x n xs) (ho : Only S w v) (hS : ∀ k, x.ownBlock = some k → ¬ S k) : v.ownsRow base e size x n xs := by
  refine ⟨h.1, ?_⟩
  rcases h.2 with h0 | ⟨g, cap, cur, rfl, hb, hh, h1⟩
  · exact .inl h0
  · refine .inr ⟨g, cap, cur, rfl, hb, ?_, h1⟩
    have hl : g < w.heap.size := (h.lt g rfl).2
    exact (ho.same g hl (hS g rfl)).trans hh
theorem cell_only {g j : Nat} {x : Value} (h : w.cell? ⟨g, j, none⟩ = some x) (ho : Only S w v) (hg : ¬ S g) : v.cell? ⟨g, j, none⟩ = some x := by
  have hl : g < w.heap.size := by
    rcases Nat.lt_or_ge g w.heap.size with h1 | h1
    · exact h1
    · exfalso
      simp [World.cell?, Array.getElem?_eq_none h1] at h
  rw [← h]
  exact World.cell?_of_block (ho.same g hl hg)
/-- rows of different element types lie in different blocks -/
theorem own_apart {base : Nat} {e : TypeId} {size : Nat} {x : Value} {n : Nat} {xs : List Value} {g : Nat} {t : TypeId} {cs : Array Value} (h : w.ownsRow base e size x n xs) (hr : Row w g t cs) (hne : e ≠ t) : x.ownBlock ≠ some g := by
  rcases h.2 with ⟨rfl, _⟩ | ⟨g', cap, cur, rfl, _, hh, _⟩
  · simp [Value.ownBlock]
  · intro he
    have e1 : g' = g := by simpa [Value.ownBlock] using he
    subst e1
    unfold Row at hr
    rw [hh] at hr
    injection hr with hr
    injection hr with _ hr
    exact hne hr
theorem Row.apart {g g' : Nat} {t t' : TypeId} {cs cs' : Array Value} (h : Row w g t cs) (h' : Row w g' t' cs') (hne : t ≠ t') : g ≠ g' := by
  rintro rfl
  unfold Row at h h'
  rw [h] at h'
  injection h' with h'
  injection h' with _ h'
  exact hne h'
end
end Go.Proofs.Ytfgjlhklioijmaa
namespace Go.Proofs.Ytfgjlhklioijmaa
open Go.RowKit

def PC (P B n m : Int) (t : Bool) : Array Value := #[.int .i64 P, .int .i64 B, .int .i64 n, .int .i64 m, .bool t]
section
variable {w : World} {x : Nat} {P B n m : Int} {t : Bool}
theorem pcells (h : Row w x 202 (PC P B n m t)) : w.cell? ⟨x, 0, none⟩ = some (.int .i64 P) ∧ w.cell? ⟨x, 1, none⟩ = some (.int .i64 B) ∧ w.cell? ⟨x, 2, none⟩ = some (.int .i64 n) ∧ w.cell? ⟨x, 3, none⟩ = some (.int .i64 m) ∧ w.cell? ⟨x, 4, none⟩ = some (.bool t) :=
  ⟨h.read rfl, h.read rfl, h.read rfl, h.read rfl, h.read rfl⟩
theorem pnone_nil (w : World) : Calls Try.prog 217 #[.pointer none] w fun e w' => e = .returned (.bool true) ∧ w = w' := by
  go_enter Try.func217, Try.ntmps217
  go_wp2
  go_ret
  exact ⟨rfl, rfl⟩
set_option maxRecDepth 100000 in
set_option maxHeartbeats 800000 in
theorem pnone_made (h : Row w x 202 (PC P B n m t)) (hP : 1 ≤ P) : Calls Try.prog 217 #[.pointer (some ⟨x, 0, none⟩)] w fun e w' => e = .returned (.bool false) ∧ w = w' := by
  obtain ⟨c0, c1, c2, c3, c4⟩ := pcells h
  have h0 : (P == 0) = false := by simp; omega
  clear h hP
  go_enter Try.func217, Try.ntmps217
  go_wp2
  go_ret
  exact ⟨rfl, rfl⟩
set_option maxRecDepth 100000 in
set_option maxHeartbeats 800000 in
theorem pnone_zero (h : Row w x 202 (PC 0 0 0 0 false)) : Calls Try.prog 217 #[.pointer (some ⟨x, 0, none⟩)] w fun e w' => e = .returned (.bool true) ∧ w = w' := by
  obtain ⟨c0, c1, c2, c3, c4⟩ := pcells h
  clear h
  go_enter Try.func217, Try.ntmps217
  go_wp2
  go_ret
  exact ⟨rfl, rfl⟩
set_option maxRecDepth 100000 in
set_option maxHeartbeats 800000 in
theorem pnew_ok (w : World) (h1 : 1 ≤ P) (h2 : P ≤ 1000) (h3 : 1 ≤ B) (h4 : B ≤ 20000) : Calls Try.prog 121 #[.int .i64 P, .int .i64 B] w fun e w' => ∃ x : Nat, e = .returned (.tuple #[.pointer (some ⟨x, 0, none⟩), .int .i64 0]) ∧ Row w' x 202 (PC P B 0 0 false) ∧ Below w.heap.size w w' ∧ w.heap.size ≤ x := by
  have g1 : decide (P < 1) = false := by simp; omega
  have g2 : decide (1000 < P) = false := by simp; omega
  have g3 : decide (B < 1) = false := by simp; omega
  have g4 : decide (20000 < B) = false := by simp; omega
  clear h1 h2 h3 h4
  go_enter Try.func121, Try.ntmps121
  go_wp2
  go_ret2
  exact ⟨_, rfl, Row.made w _ _, bl_alloc (Below.refl _ _) _, Nat.le_refl _⟩
theorem pnew_bad (w : World) (h : ¬ (1 ≤ P ∧ P ≤ 1000 ∧ 1 ≤ B ∧ B ≤ 20000)) : Calls Try.prog 121 #[.int .i64 P, .int .i64 B] w fun e w' => e = .returned (.tuple #[.pointer none, .int .i64 1]) ∧ w = w' := by
  by_cases h1 : P < 1
  · clear h
    go_enter Try.func121, Try.ntmps121
    go_wp2
    go_ret2
    exact ⟨rfl, rfl⟩
  · by_cases h2 : 1000 < P
    · clear h
      go_enter Try.func121, Try.ntmps121
      go_wp2
      go_ret2
      exact ⟨rfl, rfl⟩
    · by_cases h3 : B < 1
      · clear h
        go_enter Try.func121, Try.ntmps121
        go_wp2
        go_ret2
        exact ⟨rfl, rfl⟩
      · have h4 : 20000 < B := by omega
        clear h
        go_enter Try.func121, Try.ntmps121
        go_wp2
        go_ret2
        exact ⟨rfl, rfl⟩
def PO (x k : Nat) : Prop := k = x
set_option maxRecDepth 100000 in
set_option maxHeartbeats 800000 in
theorem psent_ok {k : Int} (h : Row w x 202 (PC P B n m t)) (hP : 1 ≤ P) (h0 : 0 ≤ k) (h4 : k ≤ 4000) (hn : 0 ≤ n ∧ n ≤ 1000000) (hm : 0 ≤ m ∧ m ≤ 10000000) : Calls Try.prog 123 #[.pointer (some ⟨x, 0, none⟩), .int .i64 k] w fun e w' => e = .returned (.int .i64 0) ∧ Row w' x 202 (PC P B (n + 1) (m + k) t) ∧ Only (PO x) w w' := by
  have HN := Lib.hid (pnone_made h hP)
  have HR := Lib.hid h
  obtain ⟨c0, c1, c2, c3, c4⟩ := pcells h
  have f2 := h.free 2
  have f3 := h.free 3
  have hx := h.inside
  have g1 : decide (k < 0) = false := by simp; omega
  have g2 : decide (4000 < k) = false := by simp; omega
  have e1 : IntKind.i64.wrap (n + 1) = n + 1 := IntWalk.i64_in _ (by omega)
  have e2 : IntKind.i64.wrap (m + k) = m + k := IntWalk.i64_in _ (by omega)
  clear h hP h0 h4 hn hm
  go_enter Try.func123, Try.ntmps123
  go_wp2_with (go_at_call 217; (with_reducible refine HN.out.mono ?_); rintro e w1 ⟨rfl, rfl⟩)
  go_ret
  refine ⟨rfl, ?_, ((Only.refl _ _).set (.inl (show PO x x from rfl)) _).set (.inl (show PO x x from rfl)) _⟩
  exact (HR.out.written 2 (.int .i64 (n + 1))).written 3 (.int .i64 (m + k))
set_option maxRecDepth 100000 in
set_option maxHeartbeats 800000 in
theorem psent_bad {k : Int} (h : Row w x 202 (PC P B n m t)) (hP : 1 ≤ P) (h0 : k < 0 ∨ 4000 < k) : Calls Try.prog 123 #[.pointer (some ⟨x, 0, none⟩), .int .i64 k] w fun e w' => e = .returned (.int .i64 1) ∧ w = w' := by
  have HN := Lib.hid (pnone_made h hP)
  clear h hP
  by_cases h1 : k < 0
  · clear h0
    go_enter Try.func123, Try.ntmps123
    go_wp2_with (go_at_call 217; (with_reducible refine HN.out.mono ?_); rintro e w1 ⟨rfl, rfl⟩)
    go_ret
    exact ⟨rfl, rfl⟩
  · have h2 : 4000 < k := by omega
    clear h0
    go_enter Try.func123, Try.ntmps123
    go_wp2_with (go_at_call 217; (with_reducible refine HN.out.mono ?_); rintro e w1 ⟨rfl, rfl⟩)
    go_ret
    exact ⟨rfl, rfl⟩
/-- no poller: nil, or one that no call made -/
def NoP (w : World) (v : Option Addr) : Prop := v = none ∨ ∃ x, v = some ⟨x, 0, none⟩ ∧ Row w x 202 (PC 0 0 0 0 false)
theorem NoP.none {v : Option Addr} (h : NoP w v) : Calls Try.prog 217 #[.pointer v] w fun e w' => e = .returned (.bool true) ∧ w = w' := by
  rcases h with rfl | ⟨x, rfl, h⟩
  · exact pnone_nil w
  · exact pnone_zero h
theorem psent_no {v : Option Addr} {k : Int} (h : NoP w v) : Calls Try.prog 123 #[.pointer v, .int .i64 k] w fun e w' => e = .returned (.int .i64 6) ∧ w = w' := by
  have HN := Lib.hid h.none
  clear h
  go_enter Try.func123, Try.ntmps123
  go_wp2_with (go_at_call 217; (with_reducible refine HN.out.mono ?_); rintro e w1 ⟨rfl, rfl⟩)
  go_ret
  exact ⟨rfl, rfl⟩
theorem pwant_no {v : Option Addr} (h : NoP w v) : Calls Try.prog 124 #[.pointer v] w fun e w' => e = .returned (.int .i64 6) ∧ w = w' := by
  have HN := Lib.hid h.none
  clear h
  go_enter Try.func124, Try.ntmps124
  go_wp2_with (go_at_call 217; (with_reducible refine HN.out.mono ?_); rintro e w1 ⟨rfl, rfl⟩)
  go_ret
  exact ⟨rfl, rfl⟩
theorem psince_no {v : Option Addr} (h : NoP w v) : Calls Try.prog 128 #[.pointer v] w fun e w' => e = .returned (.tuple #[.int .i64 0, .int .i64 0]) ∧ w = w' := by
  have HN := Lib.hid h.none
  clear h
  go_enter Try.func128, Try.ntmps128
  go_wp2_with (go_at_call 217; (with_reducible refine HN.out.mono ?_); rintro e w1 ⟨rfl, rfl⟩)
  go_ret2
  exact ⟨rfl, rfl⟩
theorem preset_no {v : Option Addr} (h : NoP w v) : Calls Try.prog 127 #[.pointer v] w fun e w' => e = .returned (.tuple #[]) ∧ w = w' := by
  have HN := Lib.hid h.none
  clear h
  go_enter Try.func127, Try.ntmps127
  go_wp2_with (go_at_call 217; (with_reducible refine HN.out.mono ?_); rintro e w1 ⟨rfl, rfl⟩)
  refine bodyPost_end (results_none rfl _ _ _) rfl ?_
  exact ⟨rfl, rfl⟩
theorem pask_no {v : Option Addr} {a b : Bool} (h : NoP w v) : Calls Try.prog 125 #[.pointer v, .bool a, .bool b] w fun e w' => e = .returned (.bool false) ∧ w = w' := by
  have HN := Lib.hid h.none
  clear h
  go_enter Try.func125, Try.ntmps125
  go_wp2_with (go_at_call 217; (with_reducible refine HN.out.mono ?_); rintro e w1 ⟨rfl, rfl⟩)
  go_ret
  exact ⟨rfl, rfl⟩
set_option maxRecDepth 100000 in
set_option maxHeartbeats 800000 in
theorem pwant_ok (h : Row w x 202 (PC P B n m t)) (hP : 1 ≤ P) : Calls Try.prog 124 #[.pointer (some ⟨x, 0, none⟩)] w fun e w' => e = .returned (.int .i64 0) ∧ Row w' x 202 (PC P B n m true) ∧ Only (PO x) w w' := by
  have HN := Lib.hid (pnone_made h hP)
  have HR := Lib.hid h
  obtain ⟨c0, c1, c2, c3, c4⟩ := pcells h
  have f4 := h.free 4
  have hx := h.inside
  clear h hP
  go_enter Try.func124, Try.ntmps124
  go_wp2_with (go_at_call 217; (with_reducible refine HN.out.mono ?_); rintro e w1 ⟨rfl, rfl⟩)
  go_ret
  exact ⟨rfl, HR.out.written 4 (.bool true), (Only.refl _ _).set (.inl (show PO x x from rfl)) _⟩
set_option maxRecDepth 100000 in
set_option maxHeartbeats 800000 in
theorem psince_ok (h : Row w x 202 (PC P B n m t)) (hP : 1 ≤ P) : Calls Try.prog 128 #[.pointer (some ⟨x, 0, none⟩)] w fun e w' => e = .returned (.tuple #[.int .i64 n, .int .i64 m]) ∧ Below w.heap.size w w' := by
  have HN := Lib.hid (pnone_made h hP)
  obtain ⟨c0, c1, c2, c3, c4⟩ := pcells h
  have hx := h.inside
  clear h hP
  go_enter Try.func128, Try.ntmps128
  go_wp2_with (go_at_call 217; (with_reducible refine HN.out.mono ?_); rintro e w1 ⟨rfl, rfl⟩)
  go_quiet (fail)
  go_wp2
  go_ret2
  exact ⟨rfl, below_drewN (Below.refl _ _) _⟩
set_option maxRecDepth 100000 in
set_option maxHeartbeats 800000 in
theorem preached (h : Row w x 202 (PC P B n m t)) : Calls Try.prog 218 #[.pointer (some ⟨x, 0, none⟩)] w fun e w' => e = .returned (.bool (decide (P ≤ n) || decide (B ≤ m))) ∧ Below w.heap.size w w' := by
  obtain ⟨c0, c1, c2, c3, c4⟩ := pcells h
  have hx := h.inside
  clear h
  cases g1 : decide (P ≤ n)
  · cases g2 : decide (B ≤ m)
    · go_enter Try.func218, Try.ntmps218
      go_wp2
      go_quiet (fail)
      go_wp2
      go_ret
      exact ⟨rfl, below_drewN (Below.refl _ _) _⟩
    · go_enter Try.func218, Try.ntmps218
      go_wp2
      go_quiet (fail)
      go_wp2
      go_ret
      exact ⟨rfl, below_drewN (Below.refl _ _) _⟩
  · go_enter Try.func218, Try.ntmps218
    go_wp2
    go_quiet (fail)
    go_wp2
    go_ret
    exact ⟨rfl, below_drewN (Below.refl _ _) _⟩
set_option maxRecDepth 100000 in
set_option maxHeartbeats 800000 in
theorem preset_ok (h : Row w x 202 (PC P B n m t)) (hP : 1 ≤ P) : Calls Try.prog 127 #[.pointer (some ⟨x, 0, none⟩)] w fun e w' => e = .returned (.tuple #[]) ∧ Row w' x 202 (PC P B 0 0 false) ∧ Only (PO x) w w' := by
  have HN := Lib.hid (pnone_made h hP)
  have HR := Lib.hid h
  obtain ⟨c0, c1, c2, c3, c4⟩ := pcells h
  have f0 := h.free 0
  have f1 := h.free 1
  have f2 := h.free 2
  have f3 := h.free 3
  have f4 := h.free 4
  have hx := h.inside
  clear h hP
  go_enter Try.func127, Try.ntmps127
  go_wp2_with (go_at_call 217; (with_reducible refine HN.out.mono ?_); rintro e w1 ⟨rfl, rfl⟩)
  refine bodyPost_end (results_none rfl _ _ _) rfl ?_
  refine ⟨rfl, ?_, by repeat (first | exact Only.refl _ _ | refine Only.set ?_ (.inl (show PO x x from rfl)) _)⟩
  exact ((((HR.out.written 0 (.int .i64 P)).written 1 (.int .i64 B)).written 2 (.int .i64 0)).written 3 (.int .i64 0)).written 4 (.bool false)
def askP (P B n m : Int) (t a b : Bool) : Bool := a || b || t || decide (P ≤ n) || decide (B ≤ m)
set_option maxRecDepth 100000 in
set_option maxHeartbeats 800000 in
theorem pask_yes {a b : Bool} (h : Row w x 202 (PC P B n m t)) (hP : 1 ≤ P) (hq : askP P B n m t a b = true) : Calls Try.prog 125 #[.pointer (some ⟨x, 0, none⟩), .bool a, .bool b] w fun e w' => e = .returned (.bool true) ∧ Row w' x 202 (PC P B 0 0 false) ∧ Only (PO x) w w' := by
  have HN := Lib.hid (pnone_made h hP)
  have HR := Lib.hid (preached h)
  have HS := Lib.hid (fun W (hb : Below w.heap.size w W) => preset_ok (h.later hb) hP)
  obtain ⟨c0, c1, c2, c3, c4⟩ := pcells h
  have hx := h.inside
  have hw := Lib.hid (Below.refl w.heap.size w)
  unfold askP at hq
  clear h hP
  cases a
  · cases b
    · cases t
      · simp only [Bool.false_or] at hq
        rw [hq] at HR
        clear hq
        go_enter Try.func125, Try.ntmps125
        go_wp2_with (first
          | (go_at_call 217; (with_reducible refine HN.out.mono ?_); rintro e w1 ⟨rfl, rfl⟩)
          | (go_at_call 218; (with_reducible refine HR.out.mono ?_); rintro e w1 ⟨rfl, hb⟩; have hw := Lib.hid hb; clear hb)
          | (go_at_call 127; (with_reducible refine (HS.out _ hw.out).mono ?_); rintro e w2 ⟨rfl, hr, ho⟩; have HR2 := Lib.hid hr; have HO2 := Lib.hid ((Only.of_below hw.out).andThen ho fun _ _ h => h); clear hr ho))
        go_ret
        exact ⟨rfl, HR2.out, HO2.out⟩
      · clear hq HR
        go_enter Try.func125, Try.ntmps125
        go_wp2_with (first
          | (go_at_call 217; (with_reducible refine HN.out.mono ?_); rintro e w1 ⟨rfl, rfl⟩)
          | (go_at_call 127; (with_reducible refine (HS.out _ hw.out).mono ?_); rintro e w2 ⟨rfl, hr, ho⟩; have HR2 := Lib.hid hr; have HO2 := Lib.hid ho; clear hr ho))
        go_ret
        exact ⟨rfl, HR2.out, HO2.out⟩
    · clear hq HR
      go_enter Try.func125, Try.ntmps125
      go_wp2_with (first
        | (go_at_call 217; (with_reducible refine HN.out.mono ?_); rintro e w1 ⟨rfl, rfl⟩)
        | (go_at_call 127; (with_reducible refine (HS.out _ hw.out).mono ?_); rintro e w2 ⟨rfl, hr, ho⟩; have HR2 := Lib.hid hr; have HO2 := Lib.hid ho; clear hr ho))
      go_ret
      exact ⟨rfl, HR2.out, HO2.out⟩
  · clear hq HR
    go_enter Try.func125, Try.ntmps125
    go_wp2_with (first
      | (go_at_call 217; (with_reducible refine HN.out.mono ?_); rintro e w1 ⟨rfl, rfl⟩)
      | (go_at_call 127; (with_reducible refine (HS.out _ hw.out).mono ?_); rintro e w2 ⟨rfl, hr, ho⟩; have HR2 := Lib.hid hr; have HO2 := Lib.hid ho; clear hr ho))
    go_ret
    exact ⟨rfl, HR2.out, HO2.out⟩
set_option maxRecDepth 100000 in
set_option maxHeartbeats 800000 in
theorem pask_not {a b : Bool} (h : Row w x 202 (PC P B n m t)) (hP : 1 ≤ P) (hq : askP P B n m t a b = false) : Calls Try.prog 125 #[.pointer (some ⟨x, 0, none⟩), .bool a, .bool b] w fun e w' => e = .returned (.bool false) ∧ Below w.heap.size w w' := by
  have HN := Lib.hid (pnone_made h hP)
  have HR := Lib.hid (preached h)
  obtain ⟨c0, c1, c2, c3, c4⟩ := pcells h
  have hx := h.inside
  unfold askP at hq
  clear h hP
  cases a
  · cases b
    · cases t
      · simp only [Bool.false_or] at hq
        rw [hq] at HR
        clear hq
        go_enter Try.func125, Try.ntmps125
        go_wp2_with (first
          | (go_at_call 217; (with_reducible refine HN.out.mono ?_); rintro e w1 ⟨rfl, rfl⟩)
          | (go_at_call 218; (with_reducible refine HR.out.mono ?_); rintro e w1 ⟨rfl, hb⟩; have hw := Lib.hid hb; clear hb))
        go_ret
        exact ⟨rfl, hw.out⟩
      · simp at hq
    · simp at hq
  · simp at hq
end
end Go.Proofs.Ytfgjlhklioijmaa
namespace Go.Proofs.Ytfgjlhklioijmaa
open Go.RowKit

theorem wpList_is {P : Program} {ops : Array Oper} {rest : List Oper} {o : Oper} {a : Act} {w : World} {Q : Exit → Act → World → Prop} (hgd : o.guard = none) (s x : Operand) (t : TypeId)
    (ho : o.op = .call { callee := .builtin .append, args := #[s, x], argTypes := #[t, t] }) (v u : Value) (hs : a.eval s = v) (hx : a.eval x = u) {v' : Value} {w' : World}
    (hr : (Builtin.append_ #[t, t] o.type #[v, u]).run P w = .ok v' w') (h : wpList P ops Q rest (a.put o.dst v') w') : wpList P ops Q (o :: rest) a w :=
  wpList_plain hgd fun _ hK => by
    unfold Oper.wp execOp
    simp only [ho, resolve, invoke, builtin, Sem.run_bind, Sem.run_pure, Result.andThen_ok, List.map_toArray, List.map_cons, List.map_nil, hs, hx, hr]
    exact hK _ _ h
theorem add_zero_o (g j : Nat) : (⟨g, 0, none⟩ : Addr).add j = ⟨g, j, none⟩ := by
  unfold Addr.add
  split
  · rename_i h; rw [h]
  · simp
section
variable {m n : Nat} {w v : World} {x u z : Value} {xs : List Value} {T E by' : Nat}
theorem own_next (hT : Try.prog.underlying T = some (.slice E)) (hI : (Try.prog.info? E).map (fun i => (i.zero, i.size, i.bytes)) = some (some z, 1, by')) (hz : z.cells.size = 1) (hby : by' ≤ 24) (hu : u.oneCell' = true) (h : w.ownsRow m E 1 x n xs) (hm : m ≤ w.heap.size) (hn : n ≤ 100000) :
    ∃ A' c' w2, (Builtin.append_ #[T, T] T #[x, .slice (some ⟨w.heap.size, 0, none⟩) 1 1]).run Try.prog (w.alloc (.cells #[u] E)) = .ok (.slice A' (n + 1) c') w2 ∧
      w2.ownsRow m E 1 (.slice A' (n + 1) c') (n + 1) (xs ++ [u]) ∧ Only (fun k => x.ownBlock = some k) w w2 := by
  obtain ⟨i0, hi, hi0, hi1, hi2⟩ := info_parts hI
  have hbA := bl_alloc (Below.refl w.heap.size w) (.cells #[u] E)
  have a4' := own_only h (S := fun _ => False) (.of_below hbA) (fun _ _ hk => hk)
  obtain ⟨v', w2, hrun, hown, hgr, _, hat⟩ := run_append_own_at (P := Try.prog) (w := w.alloc (.cells #[u] E)) m T T E i0 z 1 by' hT hi hi0 hi1 hi2 hz (by omega) x n xs a4' ⟨w.heap.size, 0, none⟩ 1 1 [u] rfl
    (fun j u' hu' => by
      match j, hu' with
      | 0, hu' =>
        simp only [List.getElem?_cons_zero, Option.some.injEq] at hu'
        subst hu'
        rw [add_zero_o]
        exact (Row.made w E #[u]).read rfl
      | j + 1, hu' => simp at hu') (by intro y hy; simp at hy; subst hy; exact hu) (by unfold maxLen; omega) (by have := Nat.mul_le_mul (show n + 1 ≤ 100001 by omega) hby; omega) (by have := hbA.size; omega)
  have hon : Only (fun k => x.ownBlock = some k) w w2 := (Only.of_below hbA).andThen ((Only.refl _ _).grown hgr (fun k hk => .inl hk) : Only (fun k => x.ownBlock = some k) _ _) (fun k _ hk => hk)
  obtain ⟨A', c', rfl⟩ : ∃ A' c', v' = .slice A' (n + 1) c' := by
    rcases hown.2 with ⟨_, e⟩ | ⟨g, cap, cur, e, _⟩
    · omega
    · exact ⟨some ⟨g, 0, none⟩, cap, e⟩
  exact ⟨A', c', w2, hrun, hown, hon⟩
theorem own_shape (h : w.ownsRow m E 1 x n xs) : ∃ A c, x = .slice A n c ∧ n ≤ c ∧ c ≤ 9223372036854775807 := by
  rcases h.2 with ⟨rfl, rfl⟩ | ⟨g, cap, cur, rfl, _, _, h1, h2, _⟩
  · exact ⟨none, 0, rfl, Nat.le_refl _, by decide⟩
  · exact ⟨_, cap, rfl, h1, by unfold maxLen at h2; omega⟩
theorem own_after (h : w.ownsRow m E 1 x n xs) (hb : Below w.heap.size w v) : v.ownsRow m E 1 x n xs := own_only h (S := fun _ => False) (.of_below hb) (fun _ _ hk => hk)
/-- what lies behind a slice: in one block, that is not older than block m -/
def SlAt (m E : Nat) (w : World) (A : Option Addr) (xs : List Value) : Prop :=
  xs ≠ [] → ∃ (g : Nat) (cs : Array Value), A = some ⟨g, 0, none⟩ ∧ m ≤ g ∧ Row w g E cs ∧ ∀ (i : Nat) (u : Value), xs[i]? = some u → cs[i]? = some u
theorem own_at {A : Option Addr} {c : Nat} (h : w.ownsRow m E 1 (.slice A n c) n xs) : SlAt m E w A xs := by
  intro hne
  rcases h.2 with ⟨h1, h2⟩ | ⟨g, cap, cur, h1, h2, h3, h4, h5, h6, h7⟩
  · exfalso
    have := h.1
    rw [h2] at this
    exact hne (List.eq_nil_of_length_eq_zero (by omega))
  · injection h1 with hA _ _
    refine ⟨g, cur, hA, h2, h3, fun i u hu => ?_⟩
    have hi := (List.getElem?_eq_some_iff.1 hu).1
    have hl := h.1
    rw [← h7, List.getElem?_take] at hu
    split at hu
    · simpa using hu
    · cases hu
theorem SlAt.only {S : Nat → Prop} {A : Option Addr} (h : SlAt m E w A xs) (ho : Only S w v) (hS : ∀ g cs, Row w g E cs → m ≤ g → ¬ S g) : SlAt m E v A xs := by
  intro hne
  obtain ⟨g, cs, h1, h2, h3, h4⟩ := h hne
  exact ⟨g, cs, h1, h2, h3.only ho (hS g cs h3 h2), h4⟩
theorem SlAt.later {A : Option Addr} (h : SlAt m E w A xs) (hb : Below w.heap.size w v) : SlAt m E v A xs := h.only (S := fun _ => False) (.of_below hb) (fun _ _ _ _ hk => hk)
theorem SlAt.cell {A : Option Addr} (h : SlAt m E w A xs) {i : Nat} {u : Value} (hu : xs[i]? = some u) : ∃ g, A = some ⟨g, 0, none⟩ ∧ w.cell? ⟨g, i, none⟩ = some u := by
  obtain ⟨g, cs, h1, h2, h3, h4⟩ := h (by rintro rfl; simp at hu)
  exact ⟨g, h1, h3.read (h4 i u hu)⟩
end
end Go.Proofs.Ytfgjlhklioijmaa
namespace Go.Proofs.Ytfgjlhklioijmaa
open Go.RowKit

def iV (l : List Nat) : List Value := l.map fun b : Nat => .int .i64 (b : Int)
theorem iV_at {l : List Nat} {i v : Nat} (h : l[i]? = some v) : (iV l)[i]? = some (.int .i64 (v : Int)) := by unfold iV; simp [h]
theorem iV_snoc (l : List Nat) (v : Nat) : iV l ++ [.int .i64 (v : Int)] = iV (l ++ [v]) := by unfold iV; simp
theorem iV_len (l : List Nat) : (iV l).length = l.length := by unfold iV; simp
/-- the document's poller: two limits, what was sent, whether it was told -/
structure RP (w : World) (y b : Nat) (P B : Int) (l : List Nat) (t : Bool) : Prop where
  row : ∃ A c, Row w y 192 #[.int .i64 P, .int .i64 B, .slice A l.length c, .bool t] ∧ w.ownsRow b 3 1 (.slice A l.length c) l.length (iV l)
  small : ∀ v ∈ l, v ≤ 4000
  few : l.length ≤ 1000
theorem sum_small {l : List Nat} (h : ∀ v ∈ l, v ≤ 4000) : l.sum ≤ 4000 * l.length := by
  induction l with
  | nil => simp
  | cons a r ih =>
    have h1 := h a (by simp)
    have h2 := ih (fun v hv => h v (by simp [hv]))
    simp
    omega
theorem take_small {l : List Nat} (h : ∀ v ∈ l, v ≤ 4000) (k : Nat) : (l.take k).sum ≤ 4000 * l.length := by
  have := sum_small (l := l.take k) (fun v hv => h v (List.mem_of_mem_take hv))
  have h2 : (l.take k).length ≤ l.length := by simp; omega
  omega
section
variable {w v : World} {y b : Nat} {P B : Int} {l : List Nat} {t : Bool} {A : Option Addr} {c n : Nat}
theorem RP.later (h : RP w y b P B l t) (hb : Below w.heap.size w v) : RP v y b P B l t := by
  obtain ⟨A, c, hr, ho⟩ := h.row
  exact ⟨⟨A, c, hr.later hb, own_after ho hb⟩, h.small, h.few⟩
theorem rpcells (h : Row w y 192 #[.int .i64 P, .int .i64 B, .slice A n c, .bool t]) : w.cell? ⟨y, 0, none⟩ = some (.int .i64 P) ∧ w.cell? ⟨y, 1, none⟩ = some (.int .i64 B) ∧ w.cell? ⟨y, 2, none⟩ = some (.slice A n c) ∧ w.cell? ⟨y, 3, none⟩ = some (.bool t) :=
  ⟨h.read rfl, h.read rfl, h.read rfl, h.read rfl⟩
set_option maxRecDepth 100000 in
set_option maxHeartbeats 800000 in
theorem rpsum (h : RP w y b P B l t) : Calls Try.prog 129 #[.pointer (some ⟨y, 0, none⟩)] w fun e w' => e = .returned (.int .i64 (l.sum : Nat)) ∧ w = w' := by
  obtain ⟨A, c, hr, ho⟩ := h.row
  obtain ⟨c0, c1, c2, c3⟩ := rpcells hr
  have HL := Lib.hid (own_at ho)
  have HT := Lib.hid (take_small h.small)
  have HN := Lib.hid (fun i (hi : i < l.length) => (⟨_, List.getElem?_eq_getElem hi⟩ : ∃ e, l[i]? = some e))
  have HZ := Lib.hid (show (l.take l.length).sum = l.sum by rw [List.take_of_length_le (Nat.le_refl _)])
  have HS := Lib.hid (fun i e (he : l[i]? = some e) => (by rw [List.take_add_one, he]; simp : (l.take (i + 1)).sum = (l.take i).sum + e))
  have hf := h.few
  have hy := hr.inside
  have H4 := Lib.hid (fun i e (he : l[i]? = some e) => h.small e (List.mem_of_getElem? he))
  generalize hn : l.length = n at *
  clear h hr ho hn
  go_enter Try.func129, Try.ntmps129
  go_wp2
  go_loopw [3, 4] (fun s3 s4 wr => ∃ i q : Nat, i ≤ n ∧ s4 = .int .i64 i ∧ s3 = .int .i64 (q : Int) ∧ Hid ((l.take i).sum = q) ∧ wr = w) (fun _ s4 _ => n - (intOf s4).toNat)
  case atStart => exact ⟨0, 0, by omega, rfl, rfl, Lib.hid (by simp), rfl⟩
  case round =>
    obtain ⟨i, q, hi, rfl, rfl, HQ, rfl⟩ := hrel
    by_cases hlt : i < n
    · obtain ⟨e, he⟩ := HN.out i hlt
      obtain ⟨g, rfl, z⟩ := HL.out.cell (iV_at he)
      have h1 : (i : Int) < n := by omega
      have h0 : (0 : Int) ≤ i := by omega
      have HX := Lib.hid (HS.out i e he)
      have h4 := H4.out i e he
      have hq := HT.out i
      have hQ := HQ.out
      have e1 : IntKind.i64.wrap ((q : Int) + e) = (q : Int) + e := IntWalk.i64_in _ (by omega)
      have HLT := Lib.hid hlt
      clear hQ hq h4 he hlt
      go_wp2
      go_roundw
      case rel => exact ⟨i + 1, q + e, by have := HLT.out; omega, by go_num, by go_num, Lib.hid (by rw [HX.out, HQ.out]), trivial⟩
      case measure => have := HLT.out; simp [intOf]; omega
    · have h1 : ¬ (i : Int) < n := by omega
      obtain rfl : i = n := by omega
      clear hlt
      go_wp2
      go_ret
      exact ⟨ret_int (by rw [← HQ.out, HZ.out]), rfl⟩
set_option maxRecDepth 100000 in
set_option maxHeartbeats 1600000 in
theorem rpask_yes {a d : Bool} (h : RP w y b P B l t) (hq : askP P B l.length (l.sum : Nat) t a d = true) : Calls Try.prog 126 #[.pointer (some ⟨y, 0, none⟩), .bool a, .bool d] w fun e w' => e = .returned (.bool true) ∧ RP w' y b P B [] false ∧ Only (PO y) w w' := by
  have HS := Lib.hid (fun W (hb : Below w.heap.size w W) => rpsum (h.later hb))
  obtain ⟨A, c, hr, ho⟩ := h.row
  obtain ⟨c0, c1, c2, c3⟩ := rpcells hr
  have f2 := hr.free 2
  have f3 := hr.free 3
  have hy := hr.inside
  have HR := Lib.hid hr
  have HE : ∀ W' : World, Only (PO y) w W' → Row W' y 192 #[.int .i64 P, .int .i64 B, .slice none 0 0, .bool false] → RP W' y b P B [] false := fun W' _ hR => ⟨⟨none, 0, hR, World.ownsRow_nil _ _ _ _⟩, by simp, by simp⟩
  have HEH := Lib.hid HE
  unfold askP at hq
  generalize l.sum = s at *
  generalize hn : l.length = n at *
  clear h ho hr hn HE
  cases a
  · cases d
    · cases t
      · cases g1 : decide (P ≤ (n : Int))
        · cases g2 : decide (B ≤ (s : Int))
          · simp [g1, g2] at hq
          · clear hq
            go_enter Try.func126, Try.ntmps126
            go_wp2
            go_quiet ((go_at_call 129; exact Calls.quiet_of_same ((HS.out _ (below_drewN (Below.refl _ _) _)).mono fun e w' h => ⟨h.1, h.2.symm⟩)))
            go_wp2
            go_ret
            have HR3 := Lib.hid (((HR.out.later (below_drewN (Below.refl _ _) nq)).written 2 (.slice none 0 0)).written 3 (.bool false))
            exact ⟨rfl, HEH.out _ (((Only.of_below (below_drewN (Below.refl _ _) nq)).set (.inl (show PO y y from rfl)) _).set (.inl (show PO y y from rfl)) _) HR3.out, ((Only.of_below (below_drewN (Below.refl _ _) nq)).set (.inl (show PO y y from rfl)) _).set (.inl (show PO y y from rfl)) _⟩
        · clear hq
          go_enter Try.func126, Try.ntmps126
          go_wp2
          go_quiet (fail)
          go_wp2
          go_ret
          have HR3 := Lib.hid (((HR.out.later (below_drewN (Below.refl _ _) nq)).written 2 (.slice none 0 0)).written 3 (.bool false))
          exact ⟨rfl, HEH.out _ (((Only.of_below (below_drewN (Below.refl _ _) nq)).set (.inl (show PO y y from rfl)) _).set (.inl (show PO y y from rfl)) _) HR3.out, ((Only.of_below (below_drewN (Below.refl _ _) nq)).set (.inl (show PO y y from rfl)) _).set (.inl (show PO y y from rfl)) _⟩
      · clear hq
        go_enter Try.func126, Try.ntmps126
        go_wp2
        go_quiet (fail)
        go_wp2
        go_ret
        have HR3 := Lib.hid (((HR.out.later (below_drewN (Below.refl _ _) nq)).written 2 (.slice none 0 0)).written 3 (.bool false))
        exact ⟨rfl, HEH.out _ (((Only.of_below (below_drewN (Below.refl _ _) nq)).set (.inl (show PO y y from rfl)) _).set (.inl (show PO y y from rfl)) _) HR3.out, ((Only.of_below (below_drewN (Below.refl _ _) nq)).set (.inl (show PO y y from rfl)) _).set (.inl (show PO y y from rfl)) _⟩
    · clear hq
      go_enter Try.func126, Try.ntmps126
      go_wp2
      go_quiet (fail)
      go_wp2
      go_ret
      have HR3 := Lib.hid (((HR.out.later (below_drewN (Below.refl _ _) nq)).written 2 (.slice none 0 0)).written 3 (.bool false))
      exact ⟨rfl, HEH.out _ (((Only.of_below (below_drewN (Below.refl _ _) nq)).set (.inl (show PO y y from rfl)) _).set (.inl (show PO y y from rfl)) _) HR3.out, ((Only.of_below (below_drewN (Below.refl _ _) nq)).set (.inl (show PO y y from rfl)) _).set (.inl (show PO y y from rfl)) _⟩
  · clear hq
    go_enter Try.func126, Try.ntmps126
    go_wp2
    go_quiet (fail)
    go_wp2
    go_ret
    have HR3 := Lib.hid (((HR.out.later (below_drewN (Below.refl _ _) nq)).written 2 (.slice none 0 0)).written 3 (.bool false))
    exact ⟨rfl, HEH.out _ (((Only.of_below (below_drewN (Below.refl _ _) nq)).set (.inl (show PO y y from rfl)) _).set (.inl (show PO y y from rfl)) _) HR3.out, ((Only.of_below (below_drewN (Below.refl _ _) nq)).set (.inl (show PO y y from rfl)) _).set (.inl (show PO y y from rfl)) _⟩
set_option maxRecDepth 100000 in
set_option maxHeartbeats 1600000 in
theorem rpask_not {a d : Bool} (h : RP w y b P B l t) (hq : askP P B l.length (l.sum : Nat) t a d = false) : Calls Try.prog 126 #[.pointer (some ⟨y, 0, none⟩), .bool a, .bool d] w fun e w' => e = .returned (.bool false) ∧ Below w.heap.size w w' := by
  have HS := Lib.hid (fun W (hb : Below w.heap.size w W) => rpsum (h.later hb))
  obtain ⟨A, c, hr, ho⟩ := h.row
  obtain ⟨c0, c1, c2, c3⟩ := rpcells hr
  have f2 := hr.free 2
  have f3 := hr.free 3
  have hy := hr.inside
  have HR := Lib.hid hr
  have HE : ∀ W' : World, Only (PO y) w W' → Row W' y 192 #[.int .i64 P, .int .i64 B, .slice none 0 0, .bool false] → RP W' y b P B [] false := fun W' _ hR => ⟨⟨none, 0, hR, World.ownsRow_nil _ _ _ _⟩, by simp, by simp⟩
  have HEH := Lib.hid HE
  unfold askP at hq
  generalize l.sum = s at *
  generalize hn : l.length = n at *
  clear h ho hr hn HE
  cases a
  · cases d
    · cases t
      · cases g1 : decide (P ≤ (n : Int))
        · cases g2 : decide (B ≤ (s : Int))
          · clear hq
            go_enter Try.func126, Try.ntmps126
            go_wp2
            go_quiet ((go_at_call 129; exact Calls.quiet_of_same ((HS.out _ (below_drewN (Below.refl _ _) _)).mono fun e w' h => ⟨h.1, h.2.symm⟩)))
            go_wp2
            go_ret
            exact ⟨rfl, below_drewN (Below.refl _ _) _⟩
          · simp [g1, g2] at hq
        · simp [g1] at hq
      · simp at hq
    · simp at hq
  · simp at hq
end
end Go.Proofs.Ytfgjlhklioijmaa
namespace Go.Proofs.Ytfgjlhklioijmaa
open Go.RowKit

/-- a poller that was made since a world -/
structure PS (w0 w : World) (x : Nat) (P B n m : Int) (t : Bool) : Prop where
  row : Row w x 202 (PC P B n m t)
  old : w0.heap.size ≤ x
  bl : Below w0.heap.size w0 w
  hP : 1 ≤ P
section
variable {w0 w v : World} {x : Nat} {P B n m k : Int} {t a b : Bool}
theorem PS.next {n' m' : Int} {t' : Bool} (h : PS w0 w x P B n m t) (hr : Row v x 202 (PC P B n' m' t')) (ho : Only (PO x) w v) : PS w0 v x P B n' m' t' :=
  ⟨hr, h.old, h.bl.trans (ho.below h.bl.size fun j hj e => by have := h.old; unfold PO at e; omega), h.hP⟩
theorem PS.later (h : PS w0 w x P B n m t) (hb : Below w.heap.size w v) : PS w0 v x P B n m t := ⟨h.row.later hb, h.old, bl_step h.bl hb, h.hP⟩
theorem PS.sent (h : PS w0 w x P B n m t) (h0 : 0 ≤ k) (h4 : k ≤ 4000) (hn : 0 ≤ n ∧ n ≤ 1000000) (hm : 0 ≤ m ∧ m ≤ 10000000) : Calls Try.prog 123 #[.pointer (some ⟨x, 0, none⟩), .int .i64 k] w fun e w' => e = .returned (.int .i64 0) ∧ PS w0 w' x P B (n + 1) (m + k) t ∧ Only (PO x) w w' :=
  (psent_ok h.row h.hP h0 h4 hn hm).mono fun _ _ ⟨h1, h2, h3⟩ => ⟨h1, h.next h2 h3, h3⟩
theorem PS.sent_bad (h : PS w0 w x P B n m t) (h0 : k < 0 ∨ 4000 < k) : Calls Try.prog 123 #[.pointer (some ⟨x, 0, none⟩), .int .i64 k] w fun e w' => e = .returned (.int .i64 1) ∧ w = w' := psent_bad h.row h.hP h0
theorem PS.want (h : PS w0 w x P B n m t) : Calls Try.prog 124 #[.pointer (some ⟨x, 0, none⟩)] w fun e w' => e = .returned (.int .i64 0) ∧ PS w0 w' x P B n m true ∧ Only (PO x) w w' :=
  (pwant_ok h.row h.hP).mono fun _ _ ⟨h1, h2, h3⟩ => ⟨h1, h.next h2 h3, h3⟩
theorem PS.reset (h : PS w0 w x P B n m t) : Calls Try.prog 127 #[.pointer (some ⟨x, 0, none⟩)] w fun e w' => e = .returned (.tuple #[]) ∧ PS w0 w' x P B 0 0 false ∧ Only (PO x) w w' :=
  (preset_ok h.row h.hP).mono fun _ _ ⟨h1, h2, h3⟩ => ⟨h1, h.next h2 h3, h3⟩
theorem PS.yes (h : PS w0 w x P B n m t) (hq : askP P B n m t a b = true) : Calls Try.prog 125 #[.pointer (some ⟨x, 0, none⟩), .bool a, .bool b] w fun e w' => e = .returned (.bool true) ∧ PS w0 w' x P B 0 0 false ∧ Only (PO x) w w' :=
  (pask_yes h.row h.hP hq).mono fun _ _ ⟨h1, h2, h3⟩ => ⟨h1, h.next h2 h3, h3⟩
theorem PS.not (h : PS w0 w x P B n m t) (hq : askP P B n m t a b = false) : Calls Try.prog 125 #[.pointer (some ⟨x, 0, none⟩), .bool a, .bool b] w fun e w' => e = .returned (.bool false) ∧ PS w0 w' x P B n m t ∧ Only (PO x) w w' :=
  (pask_not h.row h.hP hq).mono fun _ _ ⟨h1, h2⟩ => ⟨h1, h.later h2, .of_below h2⟩
theorem PS.since (h : PS w0 w x P B n m t) : Calls Try.prog 128 #[.pointer (some ⟨x, 0, none⟩)] w fun e w' => e = .returned (.tuple #[.int .i64 n, .int .i64 m]) ∧ PS w0 w' x P B n m t ∧ Only (PO x) w w' :=
  (psince_ok h.row h.hP).mono fun _ _ ⟨h1, h2⟩ => ⟨h1, h.later h2, .of_below h2⟩
theorem PS.new (w : World) (h1 : 1 ≤ P) (h2 : P ≤ 1000) (h3 : 1 ≤ B) (h4 : B ≤ 20000) : Calls Try.prog 121 #[.int .i64 P, .int .i64 B] w fun e w' => ∃ x : Nat, e = .returned (.tuple #[.pointer (some ⟨x, 0, none⟩), .int .i64 0]) ∧ PS w w' x P B 0 0 false :=
  (pnew_ok w h1 h2 h3 h4).mono fun _ _ ⟨x, e1, e2, e3, e4⟩ => ⟨x, e1, e2, e4, e3, h1⟩
set_option maxRecDepth 100000 in
set_option maxHeartbeats 1600000 in
theorem polalive_any (w : World) : Calls Try.prog 122 #[] w fun e w' => e = .returned (.bool true) ∧ Below w.heap.size w w' := by
  have A1 := Lib.hid (show askP 2 100 (0 + 1) (0 + 60) false false false = false from by rfl)
  have A2 := Lib.hid (show askP 2 100 (0 + 1 + 1) (0 + 60 + 30) false false false = true from by rfl)
  have A3 := Lib.hid (show askP 2 100 (0) (0) false false false = false from by rfl)
  have A4 := Lib.hid (show askP 2 100 (0) (0) true false false = true from by rfl)
  have A5 := Lib.hid (show askP 2 100 (0) (0) false true false = true from by rfl)
  go_enter Try.func122, Try.ntmps122
  go_wp2_with (first
    | (go_at_call 121; (with_reducible refine (PS.new (P := 2) (B := 100) w (by omega) (by omega) (by omega) (by omega)).mono ?_); rintro e w1 ⟨x, rfl, h1⟩; have H1 := Lib.hid h1; clear h1)
    | (go_at_call 123; (with_reducible refine (H1.out.sent (k := 60) (by omega) (by omega) (by omega) (by omega)).mono ?_); rintro e w2 ⟨rfl, h1, _⟩; have H2 := Lib.hid h1; clear h1 H1)
    | (go_at_call 125; (with_reducible refine (H2.out.not A1.out).mono ?_); rintro e w3 ⟨rfl, h1, _⟩; have H3 := Lib.hid h1; clear h1 H2)
    | (go_at_call 123; (with_reducible refine (H3.out.sent (k := 30) (by omega) (by omega) (by omega) (by omega)).mono ?_); rintro e w4 ⟨rfl, h1, _⟩; have H4 := Lib.hid h1; clear h1 H3)
    | (go_at_call 125; (with_reducible refine (H4.out.yes A2.out).mono ?_); rintro e w5 ⟨rfl, h1, _⟩; have H5 := Lib.hid h1; clear h1 H4)
    | (go_at_call 125; (with_reducible refine (H5.out.not A3.out).mono ?_); rintro e w6 ⟨rfl, h1, _⟩; have H6 := Lib.hid h1; clear h1 H5)
    | (go_at_call 124; (with_reducible refine H6.out.want.mono ?_); rintro e w7 ⟨rfl, h1, _⟩; have H7 := Lib.hid h1; clear h1 H6)
    | (go_at_call 125; (with_reducible refine (H7.out.yes A4.out).mono ?_); rintro e w8 ⟨rfl, h1, _⟩; have H8 := Lib.hid h1; clear h1 H7)
    | (go_at_call 121; (with_reducible refine (pnew_bad (P := 0) (B := 5) _ (by omega)).mono ?_); rintro e w9 ⟨rfl, rfl⟩)
    | (go_at_call 125; (with_reducible refine (H8.out.yes A5.out).mono ?_); rintro e w10 ⟨rfl, h1, _⟩; have H10 := Lib.hid h1; clear h1 H8))
  go_ret
  exact ⟨rfl, H10.out.bl⟩
end
end Go.Proofs.Ytfgjlhklioijmaa
