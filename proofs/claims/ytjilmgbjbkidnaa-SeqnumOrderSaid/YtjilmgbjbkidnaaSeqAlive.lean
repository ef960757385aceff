/-
  The fixed calls at the end of each statement of seqnum come out as they should.
-/
import Derived.Test.YtjilmgbjbkidnaaSeqBet
namespace Go.Proofs.Ytjilmgbjbkidnaa
open Go.RowKit

theorem bet_alive {v : Value} {w : World} (h : BetL 5 31 1 v w) : ∃ g, v = .slice (some ⟨g, 0, none⟩) 2 2 ∧ w.cell? ⟨g, 1, none⟩ = some (.int .i64 0) := by
  unfold BetL at h
  rw [if_pos (by decide), if_neg (by decide)] at h
  obtain ⟨g, cs, hv, hr, _, hc⟩ := h
  have e : (farV 5 31 1).toNat = 2 := by decide
  rw [e] at hv hc
  exact ⟨g, hv, hr.read (hc 1 (by omega))⟩

set_option maxRecDepth 100000 in
set_option maxHeartbeats 800000 in
theorem alive2_any (w : World) :
    Calls Try.prog 33 #[] w fun e w' => e = .returned (.bool true) ∧ Below w.heap.size w w' := by
  have f1 : GoV 5 31 2 = 1 := by decide
  have f2 : GoE 5 31 2 = 0 := by decide
  have f3 : FarV 5 30 1 = 3 := by decide
  have f4 : flt 5 [30, 1] = 0 := by decide
  have f5 : InV 5 30 4 1 = true := by decide
  have f6 : InE 5 30 4 1 = 0 := by decide
  have f7 : flt 5 [32, 1] = 1 := by decide
  have f8 : BetE 5 31 1 = 0 := by decide
  go_enter Try.func33, Try.ntmps33
  go_wp2_with (first
    | (go_at_call 27; refine (Go_any _ _ _ _).mono ?_; rintro e w1 ⟨rfl, hb1⟩; have hx1 := kept_box (g := w.heap.size) (j := 0) (x := .int .i64 5) hb1 (by simp))
    | (go_at_call_of 29 (Value.int .i64 30); refine (Far_any _ _ _ _).mono ?_; rintro e w2 ⟨rfl, hb2⟩; have hx2 := kept_box hb2 hx1)
    | (go_at_call 31; refine (In_any _ _ _ _ _).mono ?_; rintro e w3 ⟨rfl, hb3⟩; have hx3 := kept_box hb3 hx2)
    | (go_at_call 29; refine (Far_any _ _ _ _).mono ?_; rintro e w4 ⟨rfl, hb4⟩; have hx4 := kept_box hb4 hx3)
    | (go_at_call 39; refine (Between_any _ _ _ _).mono ?_; rintro e w5 ⟨v, rfl, hv, hb5⟩; obtain ⟨g, rfl, hx5⟩ := bet_alive hv))
  go_ret
  exact ⟨rfl, by repeat (first | exact Below.refl _ _ | refine bl_alloc ?_ _ | refine bl_drew ?_ | refine bl_step ?_ (by assumption))⟩
end Go.Proofs.Ytjilmgbjbkidnaa
