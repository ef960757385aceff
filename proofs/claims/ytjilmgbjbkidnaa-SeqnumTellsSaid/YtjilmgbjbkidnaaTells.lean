/-
  SeqnumTells: which spaces and numbers may be, where one comes to, how far numbers are, and what is in a window, is as the document has it.
-/
import Derived.Test.YtjilmgbjbkidnaaSeqAlive
import Derived.Test.YtjilmgbjbkidnaaSeqRefs
namespace Go.Proofs.Ytjilmgbjbkidnaa
open Go.RowKit

set_option maxRecDepth 100000 in
set_option maxHeartbeats 1600000 in
theorem tells_walk (b a c d size : Int) (w : World) :
    Calls Try.prog 8 #[.int .i64 b, .int .i64 a, .int .i64 c, .int .i64 d, .int .i64 size] w fun e w' => e = .returned (.bool true) ∧ Below w.heap.size w w' := by
  cases hr : rt b
  · rcases rt_false hr with h1 | h1
    · go_enter Try.func8, Try.ntmps8
      go_wp2_with (first
        | (go_at_call 33; refine (alive2_any _).mono ?_; rintro e w1 ⟨rfl, hb1⟩; have hx1 : w1.cell? ⟨w.heap.size, 0, none⟩ = some (.int .i64 b) := kept_box hb1 (by first | assumption | simp))
        | (go_at_call 27; refine (Go_any _ _ _ _).mono ?_; rintro e w1 ⟨rfl, hb1⟩; have hx1 : w1.cell? ⟨w.heap.size, 0, none⟩ = some (.int .i64 b) := kept_box hb1 (by first | assumption | simp))
        | (go_at_call 28; refine (rgo_any _ _ _ _).mono ?_; rintro e w1 ⟨rfl, rfl⟩)
        | (go_at_call 29; refine (Far_any _ _ _ _).mono ?_; rintro e w1 ⟨rfl, hb1⟩; have hx1 : w1.cell? ⟨w.heap.size, 0, none⟩ = some (.int .i64 b) := kept_box hb1 (by first | assumption | simp))
        | (go_at_call 30; refine (rfar_any _ _ _ _).mono ?_; rintro e w1 ⟨rfl, rfl⟩)
        | (go_at_call 31; refine (In_any _ _ _ _ _).mono ?_; rintro e w1 ⟨rfl, hb1⟩; have hx1 : w1.cell? ⟨w.heap.size, 0, none⟩ = some (.int .i64 b) := kept_box hb1 (by first | assumption | simp))
        | (go_at_call 32; refine (rin_any _ _ _ _ _).mono ?_; rintro e w1 ⟨rfl, rfl⟩)
        | (go_at_call 34; refine (right_any _ _).mono ?_; rintro e w1 ⟨rfl, hb1⟩; have hx1 : w1.cell? ⟨w.heap.size, 0, none⟩ = some (.int .i64 b) := kept_box hb1 (by first | assumption | simp))
        | (go_at_call 35; refine (size_any _ _).mono ?_; rintro e w1 ⟨rfl, hb1⟩; have hx1 : w1.cell? ⟨w.heap.size, 0, none⟩ = some (.int .i64 b) := kept_box hb1 (by first | assumption | simp))
        | (go_at_call 36; refine (rsize_any _ _).mono ?_; rintro e w1 ⟨rfl, rfl⟩)
        | (go_at_call 37; refine (is_any _ _ _).mono ?_; rintro e w1 ⟨rfl, hb1⟩; have hx1 : w1.cell? ⟨w.heap.size, 0, none⟩ = some (.int .i64 b) := kept_box hb1 (by first | assumption | simp))
        | (go_at_call 38; refine (ris_any _ _ _).mono ?_; rintro e w1 ⟨rfl, rfl⟩))
      go_ret
      exact ⟨by first | rfl | exact ret_bool (by simp; omega), by repeat (first | exact Below.refl _ _ | refine bl_alloc ?_ _ | refine bl_drew ?_ | refine bl_step ?_ (by assumption))⟩
    · go_enter Try.func8, Try.ntmps8
      go_wp2_with (first
        | (go_at_call 33; refine (alive2_any _).mono ?_; rintro e w1 ⟨rfl, hb1⟩; have hx1 : w1.cell? ⟨w.heap.size, 0, none⟩ = some (.int .i64 b) := kept_box hb1 (by first | assumption | simp))
        | (go_at_call 27; refine (Go_any _ _ _ _).mono ?_; rintro e w1 ⟨rfl, hb1⟩; have hx1 : w1.cell? ⟨w.heap.size, 0, none⟩ = some (.int .i64 b) := kept_box hb1 (by first | assumption | simp))
        | (go_at_call 28; refine (rgo_any _ _ _ _).mono ?_; rintro e w1 ⟨rfl, rfl⟩)
        | (go_at_call 29; refine (Far_any _ _ _ _).mono ?_; rintro e w1 ⟨rfl, hb1⟩; have hx1 : w1.cell? ⟨w.heap.size, 0, none⟩ = some (.int .i64 b) := kept_box hb1 (by first | assumption | simp))
        | (go_at_call 30; refine (rfar_any _ _ _ _).mono ?_; rintro e w1 ⟨rfl, rfl⟩)
        | (go_at_call 31; refine (In_any _ _ _ _ _).mono ?_; rintro e w1 ⟨rfl, hb1⟩; have hx1 : w1.cell? ⟨w.heap.size, 0, none⟩ = some (.int .i64 b) := kept_box hb1 (by first | assumption | simp))
        | (go_at_call 32; refine (rin_any _ _ _ _ _).mono ?_; rintro e w1 ⟨rfl, rfl⟩)
        | (go_at_call 34; refine (right_any _ _).mono ?_; rintro e w1 ⟨rfl, hb1⟩; have hx1 : w1.cell? ⟨w.heap.size, 0, none⟩ = some (.int .i64 b) := kept_box hb1 (by first | assumption | simp))
        | (go_at_call 35; refine (size_any _ _).mono ?_; rintro e w1 ⟨rfl, hb1⟩; have hx1 : w1.cell? ⟨w.heap.size, 0, none⟩ = some (.int .i64 b) := kept_box hb1 (by first | assumption | simp))
        | (go_at_call 36; refine (rsize_any _ _).mono ?_; rintro e w1 ⟨rfl, rfl⟩)
        | (go_at_call 37; refine (is_any _ _ _).mono ?_; rintro e w1 ⟨rfl, hb1⟩; have hx1 : w1.cell? ⟨w.heap.size, 0, none⟩ = some (.int .i64 b) := kept_box hb1 (by first | assumption | simp))
        | (go_at_call 38; refine (ris_any _ _ _).mono ?_; rintro e w1 ⟨rfl, rfl⟩))
      go_ret
      exact ⟨by first | rfl | exact ret_bool (by simp; omega), by repeat (first | exact Below.refl _ _ | refine bl_alloc ?_ _ | refine bl_drew ?_ | refine bl_step ?_ (by assumption))⟩
  · obtain ⟨h1, h2⟩ := rt_true hr
    go_enter Try.func8, Try.ntmps8
    go_wp2_with (first
      | (go_at_call 33; refine (alive2_any _).mono ?_; rintro e w1 ⟨rfl, hb1⟩; have hx1 : w1.cell? ⟨w.heap.size, 0, none⟩ = some (.int .i64 b) := kept_box hb1 (by first | assumption | simp))
      | (go_at_call 27; refine (Go_any _ _ _ _).mono ?_; rintro e w1 ⟨rfl, hb1⟩; have hx1 : w1.cell? ⟨w.heap.size, 0, none⟩ = some (.int .i64 b) := kept_box hb1 (by first | assumption | simp))
      | (go_at_call 28; refine (rgo_any _ _ _ _).mono ?_; rintro e w1 ⟨rfl, rfl⟩)
      | (go_at_call 29; refine (Far_any _ _ _ _).mono ?_; rintro e w1 ⟨rfl, hb1⟩; have hx1 : w1.cell? ⟨w.heap.size, 0, none⟩ = some (.int .i64 b) := kept_box hb1 (by first | assumption | simp))
      | (go_at_call 30; refine (rfar_any _ _ _ _).mono ?_; rintro e w1 ⟨rfl, rfl⟩)
      | (go_at_call 31; refine (In_any _ _ _ _ _).mono ?_; rintro e w1 ⟨rfl, hb1⟩; have hx1 : w1.cell? ⟨w.heap.size, 0, none⟩ = some (.int .i64 b) := kept_box hb1 (by first | assumption | simp))
      | (go_at_call 32; refine (rin_any _ _ _ _ _).mono ?_; rintro e w1 ⟨rfl, rfl⟩)
      | (go_at_call 34; refine (right_any _ _).mono ?_; rintro e w1 ⟨rfl, hb1⟩; have hx1 : w1.cell? ⟨w.heap.size, 0, none⟩ = some (.int .i64 b) := kept_box hb1 (by first | assumption | simp))
      | (go_at_call 35; refine (size_any _ _).mono ?_; rintro e w1 ⟨rfl, hb1⟩; have hx1 : w1.cell? ⟨w.heap.size, 0, none⟩ = some (.int .i64 b) := kept_box hb1 (by first | assumption | simp))
      | (go_at_call 36; refine (rsize_any _ _).mono ?_; rintro e w1 ⟨rfl, rfl⟩)
      | (go_at_call 37; refine (is_any _ _ _).mono ?_; rintro e w1 ⟨rfl, hb1⟩; have hx1 : w1.cell? ⟨w.heap.size, 0, none⟩ = some (.int .i64 b) := kept_box hb1 (by first | assumption | simp))
      | (go_at_call 38; refine (ris_any _ _ _).mono ?_; rintro e w1 ⟨rfl, rfl⟩))
    go_ret
    exact ⟨by first | rfl | exact ret_bool (by simp; omega), by repeat (first | exact Below.refl _ _ | refine bl_alloc ?_ _ | refine bl_drew ?_ | refine bl_step ?_ (by assumption))⟩
end Go.Proofs.Ytjilmgbjbkidnaa
