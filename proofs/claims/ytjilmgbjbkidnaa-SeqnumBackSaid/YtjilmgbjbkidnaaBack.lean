/-
  SeqnumBack: going there and back comes back, whatever the space, the number and the steps.
-/
import Derived.Test.YtjilmgbjbkidnaaSeqAlive
import Derived.Test.YtjilmgbjbkidnaaSeqMath
namespace Go.Proofs.Ytjilmgbjbkidnaa
open Go.RowKit

set_option maxRecDepth 100000 in
set_option maxHeartbeats 1600000 in
theorem back_walk (b a c : Int) (w : World) :
    Calls Try.prog 10 #[.int .i64 b, .int .i64 a, .int .i64 c] w fun e w' => e = .returned (.bool true) ∧ Below w.heap.size w w' := by
  by_cases h : GoE b a c = 0
  · obtain ⟨m, x, y, e1, e2, e3, e4, e5, e6, e7, e8, e9, e10, x0, x1, y0, y1, hxy⟩ := back_math h
    obtain ⟨_, _, c1, c2⟩ := go_ok h
    rcases hxy with hxy | ⟨rfl, rfl, rfl, hz⟩
    · have hxy' : (x + y == sz b) = true := by simpa using hxy
      clear hxy
      go_enter Try.func10, Try.ntmps10
      go_wp2_with (first
        | (go_at_call 33; refine (alive2_any _).mono ?_; rintro e wa ⟨rfl, hba⟩; have hxa : wa.cell? ⟨w.heap.size, 0, none⟩ = some (.int .i64 b) := kept_box hba (by assumption))
        | (go_at_call 27; refine (Go_any _ _ _ _).mono ?_; rintro e w1 ⟨rfl, hb1⟩; have hx1 : w1.cell? ⟨w.heap.size, 0, none⟩ = some (.int .i64 b) := kept_box hb1 (by first | assumption | simp))
        | (go_at_call 29; refine (Far_any _ _ _ _).mono ?_; rintro e w1 ⟨rfl, hb1⟩; have hx1 : w1.cell? ⟨w.heap.size, 0, none⟩ = some (.int .i64 b) := kept_box hb1 (by assumption))
        | (go_at_call 35; refine (size_any _ _).mono ?_; rintro e w1 ⟨rfl, hb1⟩; have hx1 : w1.cell? ⟨w.heap.size, 0, none⟩ = some (.int .i64 b) := kept_box hb1 (by assumption))
        | (go_at_call 37; refine (is_any _ _ _).mono ?_; rintro e w1 ⟨rfl, hb1⟩; have hx1 : w1.cell? ⟨w.heap.size, 0, none⟩ = some (.int .i64 b) := kept_box hb1 (by assumption)))
      go_ret
      exact ⟨rfl, by repeat (first | exact Below.refl _ _ | refine bl_alloc ?_ _ | refine bl_drew ?_ | refine bl_step ?_ (by assumption))⟩
    · have hz' : ((0 : Int) == sz b) = false := by simp; omega
      clear hz
      go_enter Try.func10, Try.ntmps10
      go_wp2_with (first
        | (go_at_call 33; refine (alive2_any _).mono ?_; rintro e wa ⟨rfl, hba⟩; have hxa : wa.cell? ⟨w.heap.size, 0, none⟩ = some (.int .i64 b) := kept_box hba (by assumption))
        | (go_at_call 27; refine (Go_any _ _ _ _).mono ?_; rintro e w1 ⟨rfl, hb1⟩; have hx1 : w1.cell? ⟨w.heap.size, 0, none⟩ = some (.int .i64 b) := kept_box hb1 (by first | assumption | simp))
        | (go_at_call 29; refine (Far_any _ _ _ _).mono ?_; rintro e w1 ⟨rfl, hb1⟩; have hx1 : w1.cell? ⟨w.heap.size, 0, none⟩ = some (.int .i64 b) := kept_box hb1 (by assumption))
        | (go_at_call 35; refine (size_any _ _).mono ?_; rintro e w1 ⟨rfl, hb1⟩; have hx1 : w1.cell? ⟨w.heap.size, 0, none⟩ = some (.int .i64 b) := kept_box hb1 (by assumption))
        | (go_at_call 37; refine (is_any _ _ _).mono ?_; rintro e w1 ⟨rfl, hb1⟩; have hx1 : w1.cell? ⟨w.heap.size, 0, none⟩ = some (.int .i64 b) := kept_box hb1 (by assumption)))
      go_ret
      exact ⟨rfl, by repeat (first | exact Below.refl _ _ | refine bl_alloc ?_ _ | refine bl_drew ?_ | refine bl_step ?_ (by assumption))⟩
  · have h' : (GoE b a c != 0) = true := by simpa using h
    have hv := go_zero h
    clear h
    go_enter Try.func10, Try.ntmps10
    go_wp2_with (first
      | (go_at_call 33; refine (alive2_any _).mono ?_; rintro e wa ⟨rfl, hba⟩; have hxa : wa.cell? ⟨w.heap.size, 0, none⟩ = some (.int .i64 b) := kept_box hba (by assumption))
      | (go_at_call 27; refine (Go_any _ _ _ _).mono ?_; rintro e w1 ⟨rfl, hb1⟩; have hx1 : w1.cell? ⟨w.heap.size, 0, none⟩ = some (.int .i64 b) := kept_box hb1 (by first | assumption | simp))
      | (go_at_call 29; refine (Far_any _ _ _ _).mono ?_; rintro e w1 ⟨rfl, hb1⟩; have hx1 : w1.cell? ⟨w.heap.size, 0, none⟩ = some (.int .i64 b) := kept_box hb1 (by assumption))
      | (go_at_call 35; refine (size_any _ _).mono ?_; rintro e w1 ⟨rfl, hb1⟩; have hx1 : w1.cell? ⟨w.heap.size, 0, none⟩ = some (.int .i64 b) := kept_box hb1 (by assumption))
      | (go_at_call 37; refine (is_any _ _ _).mono ?_; rintro e w1 ⟨rfl, hb1⟩; have hx1 : w1.cell? ⟨w.heap.size, 0, none⟩ = some (.int .i64 b) := kept_box hb1 (by assumption)))
    go_ret
    exact ⟨rfl, by repeat (first | exact Below.refl _ _ | refine bl_alloc ?_ _ | refine bl_drew ?_ | refine bl_step ?_ (by assumption))⟩
end Go.Proofs.Ytjilmgbjbkidnaa
