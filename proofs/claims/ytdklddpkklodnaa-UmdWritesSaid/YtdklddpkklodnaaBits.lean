/-
  What the small functions of package bits do to memory: a copy, a new writer, its length.
-/
import Derived.Test.YtdklddpkklodnaaMem
import Derived.Test.YtdklddpkklodnaaBitMath
import Derived.Laws.CopyOwn
namespace Go.Proofs.Ytdklddpkklodnaa
open Go.RowKit

theorem Try.info5 : (Try.prog.info? 5).map (fun i => (i.zero, i.size, i.bytes)) = some (some (.int .u8 0), 1, 1) := by kernel_rfl
theorem info5_parts : ∃ i, Try.prog.info? 5 = some i ∧ i.zero = some (.int .u8 0) ∧ i.size = 1 ∧ i.bytes = 1 := info_parts Try.info5

/-- bytes as values -/
def bts (l : List Nat) : List Value := l.map fun b : Nat => .int .u8 b
theorem length_bts (l : List Nat) : (bts l).length = l.length := by simp [bts]
theorem bts_one (l : List Nat) : ∀ v ∈ bts l, v.oneCell' = true := by
  intro v hv
  simp only [bts, List.mem_map] at hv
  obtain ⟨b, _, rfl⟩ := hv
  rfl
theorem bts_at {l : List Nat} {i b : Nat} (h : l[i]? = some b) : (bts l)[i]? = some (.int .u8 b) := by simp [bts, h]

def zeros (n : Nat) : List Value := List.replicate n (.int .u8 0)
theorem length_zeros (n : Nat) : (zeros n).length = n := by simp [zeros]
theorem made_zeros (n : Nat) : madeCells #[.int .u8 0] n = (zeros n).toArray := by
  apply Array.toList_inj.1
  rw [toList_madeCells_one]
  simp [zeros]
theorem splice_all (n : Nat) (cs : List Value) (h : cs.length = n) : splice (zeros n) 0 cs = cs := by
  simp [splice, h, zeros]
theorem make_bytes (n : Nat) (h : n ≤ 8192) (w : World) :
    (Instr.makeSlice 30 (.int .i64 (n : Int)) (.int .i64 (n : Int))).run Try.prog w = .ok (.slice (some ⟨w.heap.size, 0, none⟩) n n) (w.alloc (.cells (zeros n).toArray 5)) := by
  obtain ⟨i, hi, hz, hs, hb⟩ := info5_parts
  have h := run_make (P := Try.prog) w 30 5 i _ Try.underlying30 hi hz .i64 .i64 n n (by omega) (Int.le_refl _) (by rw [hb]; omega) (by omega)
  rw [h, hs, Nat.mul_one, Int.toNat_natCast, ← made_zeros]
  rfl

/-- where a slice's elements lie -/
def Src (w : World) (A : Option Addr) (xs : List Value) : Prop := 0 < xs.length → ∃ ad, A = some ad ∧ ∀ j u, xs[j]? = some u → w.cell? (ad.add j) = some u

set_option maxHeartbeats 800000 in
theorem copied_any (A : Option Addr) (cap : Nat) (l : List Nat) (w : World) (hn : l.length ≤ 8192) (hs : Src w A (bts l)) :
    Calls Try.prog 76 #[.slice A l.length cap] w fun e w' => ∃ g, e = .returned (.slice (some ⟨g, 0, none⟩) l.length l.length) ∧ w.heap.size ≤ g ∧ Row w' g 5 (bts l).toArray ∧ Below w.heap.size w w' := by
  have hmk := make_bytes l.length hn
  have hlen := length_bts l
  generalize hnn : l.length = n at *
  have hsz : (Try.prog.info? 5).map (·.size) = some 1 := by
    obtain ⟨i, hi, _, h1, _⟩ := info5_parts
    rw [hi]
    simp [h1]
  have HS := Lib.hid hs
  have HL := Lib.hid hlen
  have HN := Lib.hid hnn
  clear hs hlen hnn
  go_enter Try.func76, Try.ntmps76
  go_wp2_with (with_reducible refine wpList_copy_splice rfl _ _ 30 30 rfl 5 Try.underlying30 hsz (some ⟨w.heap.size, 0, none⟩) A n n n cap rfl rfl w.heap.size 0 (zeros n) 5 ?h1 (bts l) ?h2 ?h3 ?h4 ?h5 w.heap.size w ?h6 (Nat.le_refl _) ?_)
  case h1 => exact heap_alloc_new _ _
  case h2 => rw [HL.out]; exact (Nat.min_self n).symm
  case h3 =>
    intro h0
    obtain ⟨ad, hA, hc⟩ := HS.out h0
    refine ⟨ad, hA, fun j v hv => ?_⟩
    have hx := hc j v hv
    exact (World.cell?_alloc_some w _ _ (by rw [hx]; rfl)).trans hx
  case h4 => rw [HL.out, length_zeros]; omega
  case h5 => exact bts_one l
  case h6 => exact bl_alloc (Below.refl _ _) _
  intro w1 hrow hb
  go_wp2
  go_ret
  refine ⟨w.heap.size, rfl, Nat.le_refl _, ?_, hb⟩
  have h := hrow.out
  rw [splice_all n _ HL.out] at h
  exact h

def mayB (n : Int) : Bool := decide (0 ≤ n ∧ n ≤ 64)
theorem mayB_true {n : Int} (h : mayB n = true) : 0 ≤ n ∧ n ≤ 64 := of_decide_eq_true h
theorem mayB_of {n : Int} (h1 : 0 ≤ n) (h2 : n ≤ 64) : mayB n = true := decide_eq_true ⟨h1, h2⟩
theorem mayB_not {n : Int} (h : n < 0 ∨ 64 < n) : mayB n = false := decide_eq_false (by omega)

set_option maxHeartbeats 400000 in
theorem mayBe_any (n : Int) (w : World) :
    Calls Try.prog 71 #[.int .i64 n] w fun e w' => e = .returned (.bool (mayB n)) ∧ w = w' := by
  by_cases h1 : 0 ≤ n
  · by_cases h2 : n ≤ 64
    · have HD := Lib.hid (mayB_of h1 h2)
      go_enter Try.func71, Try.ntmps71
      go_wp2
      go_ret
      exact ⟨ret_bool HD.out.symm, rfl⟩
    · have HD := Lib.hid (mayB_not (n := n) (by omega))
      go_enter Try.func71, Try.ntmps71
      go_wp2
      go_ret
      exact ⟨ret_bool (by rw [HD.out]), rfl⟩
  · have HD := Lib.hid (mayB_not (n := n) (by omega))
    go_enter Try.func71, Try.ntmps71
    go_wp2
    go_ret
    exact ⟨ret_bool (by rw [HD.out]), rfl⟩

/-- a writer at block p, whose slice value is sv, has these bits; it lies above block B -/
def WRep (B : Nat) (w : World) (p : Nat) (sv : Value) (bl : List Bool) : Prop :=
  B ≤ p ∧ Row w p 110 #[sv, .int .i64 bl.length] ∧ w.ownsRow B 5 1 sv (packLen bl.length) (bts (pack bl))

theorem WRep.only {B : Nat} {w v : World} {p : Nat} {sv : Value} {bl : List Bool} {S : Nat → Prop} (h : WRep B w p sv bl) (ho : Only S w v) (h1 : ¬ S p) (h2 : ∀ k, sv.ownBlock = some k → ¬ S k) : WRep B v p sv bl :=
  ⟨h.1, h.2.1.only ho h1, own_only h.2.2 ho h2⟩
theorem WRep.later {B : Nat} {w v : World} {p : Nat} {sv : Value} {bl : List Bool} (h : WRep B w p sv bl) (hb : Below w.heap.size w v) : WRep B v p sv bl :=
  h.only (S := fun _ => False) (.of_below hb) (fun h => h) (fun _ _ h => h)

set_option maxHeartbeats 400000 in
theorem new_any (B : Nat) (w : World) (hB : B ≤ w.heap.size) :
    Calls Try.prog 41 #[] w fun e w' => e = .returned (.pointer (some ⟨w.heap.size, 0, none⟩)) ∧ WRep B w' w.heap.size (.slice none 0 0) [] ∧ Below w.heap.size w w' := by
  go_enter Try.func41, Try.ntmps41
  go_wp2
  go_ret
  exact ⟨rfl, ⟨hB, Row.made _ _ _, World.ownsRow_nil _ _ _ _⟩, bl_alloc (Below.refl _ _) _⟩

theorem src_own {w : World} {B : Nat} {A : Option Addr} {n cap : Nat} {xs : List Value} (h : w.ownsRow B 5 1 (.slice A n cap) n xs) : Src w A xs := by
  intro h0
  have hn : xs.length = n := by have := h.1; omega
  obtain ⟨g, cap', hv, _, _⟩ := h.form (by omega)
  injection hv with hA _ _
  subst hA
  exact ⟨_, rfl, h.cells (g := g) rfl⟩

set_option maxHeartbeats 400000 in
theorem bytes_any {B : Nat} {w : World} {p : Nat} {sv : Value} {bl : List Bool} (h : WRep B w p sv bl) (hn : bl.length ≤ 65536) :
    Calls Try.prog 45 #[.pointer (some ⟨p, 0, none⟩)] w fun e w' => ∃ g, e = .returned (.slice (some ⟨g, 0, none⟩) (packLen bl.length) (packLen bl.length)) ∧ w.heap.size ≤ g ∧ Row w' g 5 (bts (pack bl)).toArray ∧ Below w.heap.size w w' := by
  obtain ⟨_, hr, ho⟩ := h
  have hc : w.cell? ⟨p, 0, none⟩ = some sv := hr.read rfl
  obtain ⟨A, cap, rfl⟩ : ∃ A cap, sv = .slice A (packLen bl.length) cap := by
    rcases ho.2 with ⟨rfl, h0⟩ | ⟨g, cap, cur, rfl, _⟩
    · exact ⟨none, 0, by rw [h0]⟩
    · exact ⟨_, cap, rfl⟩
  have hs := src_own ho
  have hcop := fun W => copied_any A cap (pack bl) W (by rw [length_pack]; unfold packLen; omega)
  rw [length_pack] at hcop
  have HC := Lib.hid hcop
  have HS := Lib.hid hs
  clear hcop hs ho hr
  generalize packLen bl.length = n at *
  go_enter Try.func45, Try.ntmps45
  go_wp2_with (go_at_call 76; refine (HC.out _ ?_).mono ?_; exact HS.out; rintro e w1 ⟨g, rfl, hg, hrow, hb⟩)
  go_ret
  exact ⟨g, rfl, hg, hrow, hb⟩
set_option maxHeartbeats 400000 in
theorem bytes_nil (w : World) : Calls Try.prog 45 #[.pointer none] w fun e w' => e = .returned (.slice none 0 0) ∧ w = w' := by
  go_enter Try.func45, Try.ntmps45
  go_wp2
  go_ret
  exact ⟨rfl, rfl⟩
end Go.Proofs.Ytdklddpkklodnaa
