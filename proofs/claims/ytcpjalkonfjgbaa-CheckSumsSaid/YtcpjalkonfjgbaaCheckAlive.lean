/-
  The fixed calls at the end of each statement of check come out as they should.
-/
import Derived.Test.YtcpjalkonfjgbaaCheckC
import Derived.Test.YtcpjalkonfjgbaaBitsAlive
import Derived.Lib.SlBytesConst
namespace Go.Proofs.Ytcpjalkonfjgbaa
open Go.RowKit

theorem row_src' {w : World} {g : Nat} {cs : List Value} {l : List Nat} (h : Row w g 5 cs.toArray) (e : cs = bts l) : Src w (some ⟨g, 0, none⟩) (bts l) := by
  subst e
  exact row_src h

theorem al_abc {w : World} {g : Nat} (h : Row w g 5 (bts [97, 98, 99, 81, 74]).toArray) :
    Calls Try.prog 11 #[.slice (some ⟨g, 0, none⟩) 5 5] w fun e w' => ∃ g', e = .returned (.tuple #[.slice (some ⟨g', 0, none⟩) 3 3, .int .i64 0]) ∧ w.heap.size ≤ g' ∧ Row w' g' 5 (bts [97, 98, 99]).toArray ∧ Below w.heap.size w w' :=
  open_right (l := [97, 98, 99]) 3 81 74 rfl (by omega) (by omega) w (row_src h) (by decide) (by omega) (by omega) (by decide +kernel)
theorem al_123 {w : World} {g : Nat} (h : Row w g 5 (bts [1, 2, 3]).toArray) :
    Calls Try.prog 11 #[.slice (some ⟨g, 0, none⟩) 3 3] w fun e w' => e = .returned (.tuple #[.slice none 0 0, .int .i64 13]) ∧ Below w.heap.size w w' :=
  open_wrong (l := [1]) 1 2 3 rfl (by omega) (by omega) w (row_src h) (by decide) (by omega) (by omega) (by decide +kernel)
theorem src_marked (w1 : World) (l : List Nat) (fr : Nat × Nat) : Src (w1.alloc (.cells (bts l).toArray 5 fr)) (some ⟨w1.heap.size, 0, none⟩) (bts l) := by
  intro _
  have hnew : (w1.alloc (.cells (bts l).toArray 5 fr)).heap[w1.heap.size]? = some (.cells (bts l).toArray 5 fr) := heap_alloc_new w1 _
  refine ⟨_, rfl, fun j u hu => ?_⟩
  rw [add_zero_addr, cell_of_row _ w1.heap.size j _ 5 fr hnew]
  simpa using hu
theorem al_of (w1 : World) :
    Calls Try.prog 13 #[.slice (some ⟨w1.heap.size, 0, none⟩) 9 9] (w1.alloc (.cells (bts [49, 50, 51, 52, 53, 54, 55, 56, 57]).toArray 5 (9, 10))) fun e w' => e = .returned (.int .u16 10673) ∧ (w1.alloc (.cells (bts [49, 50, 51, 52, 53, 54, 55, 56, 57]).toArray 5 (9, 10))) = w' := by
  have h1 := of_any (cap := 9) (l := [49, 50, 51, 52, 53, 54, 55, 56, 57]) 9 rfl (by unfold maxLen; omega) _ (src_marked w1 [49, 50, 51, 52, 53, 54, 55, 56, 57] (9, 10)) (by decide)
  rw [show more 65535 [49, 50, 51, 52, 53, 54, 55, 56, 57] = 10673 by decide +kernel] at h1
  exact h1

set_option maxRecDepth 100000 in
set_option maxHeartbeats 1600000 in
theorem calive_any (w : World) : Calls Try.prog 10 #[] w fun e w' => e = .returned (.bool true) ∧ Below w.heap.size w w' := by
  have kc := fun w => Lib.run_convert_bytes_const (P := Try.prog) w 23 5 #[.int .u8 49, .int .u8 50, .int .u8 51, .int .u8 52, .int .u8 53, .int .u8 54, .int .u8 55, .int .u8 56, .int .u8 57] 9 9 Try.underlying23 Try.underlying5
  go_enter Try.func10, Try.ntmps10
  go_wp2_with (first
    | (go_at_call 11; (with_reducible refine (al_abc ?_).mono ?_); rotate_left 1; rintro e w1 ⟨g1, rfl, hg1, hr1, hb1⟩)
    | (go_at_call 11; (with_reducible refine (open_short _ 1 1 (by omega) _).mono ?_); rintro e w2 ⟨rfl, rfl⟩)
    | (go_at_call 11; (with_reducible refine (al_123 ?_).mono ?_); rotate_left 1; rintro e w3 ⟨rfl, hb3⟩)
    | (go_at_call 13; refine (al_of w3).mono ?_; rintro e w4 ⟨rfl, rfl⟩; have cv : (convert 23 9 (.slice (some ⟨g1, 0, none⟩) 3 3)).run Try.prog (w3.alloc (.cells (bts [49, 50, 51, 52, 53, 54, 55, 56, 57]).toArray 5 (9, 10))) = .ok (.string ⟨#[97, 98, 99]⟩) (w3.alloc (.cells (bts [49, 50, 51, 52, 53, 54, 55, 56, 57]).toArray 5 (9, 10))) := conv_str (l := [97, 98, 99]) ((((hr1.more _).more _).later hb3).more _) (by decide)))
  · go_ret
    refine ⟨rfl, ?_⟩
    have h1 := bl_step (bl_alloc (Below.refl w.heap.size w) _) hb1
    exact bl_alloc (bl_step (bl_alloc (bl_alloc h1 _) _) hb3) _
  · have h := Row.made (w1.alloc (.cells #[.int .u8 1] 5)) 5 (bts [1, 2, 3]).toArray
    have e : (w1.alloc (.cells #[.int .u8 1] 5)).heap.size = w1.heap.size + 1 := by simp
    rw [e] at h
    exact h
  · exact Row.made _ _ _
end Go.Proofs.Ytcpjalkonfjgbaa
