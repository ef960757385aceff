/-
  What the calls of package seqnum answer: Less.
-/
import Derived.Test.YtjilmgbjbkidnaaSeqCalls
namespace Go.Proofs.Ytjilmgbjbkidnaa
open Go.RowKit

def LessV (b base a c : Int) : Bool := if rt b && [base, a, c].all (okn b) then decide (farV b base a < farV b base c) else false

set_option maxHeartbeats 800000 in
theorem Less_any (b base a c : Int) (w : World) :
    Calls Try.prog 41 #[.agg #[.int .i64 b], .int .i64 base, .int .i64 a, .int .i64 c] w fun e w' => e = .returned (.tuple #[.bool (LessV b base a c), .int .i64 (flt b [base, a, c])]) ∧ Below w.heap.size w w' := by
  cases hq : rt b && [base, a, c].all (okn b)
  · have hv : LessV b base a c = false := by unfold LessV; rw [hq]; rfl
    have hn' : (flt b [base, a, c] != 0) = true := by have := flt_ne hq; simp; omega
    have HV := Lib.hid hv
    clear hv hq
    rw [HV.out]
    go_enter Try.func41, Try.ntmps41
    go_wp2_with (go_at_call 47; refine (fault3 b base a c _ _ ?_).mono ?_; simp; rintro e w1 ⟨rfl, hb1⟩)
    go_ret2
    exact ⟨rfl, by repeat (first | exact Below.refl _ _ | refine bl_alloc ?_ _ | refine bl_drew ?_ | refine bl_step ?_ (by assumption))⟩
  · have hv : LessV b base a c = decide (farV b base a < farV b base c) := by unfold LessV; rw [hq]; rfl
    rw [all3, Bool.and_eq_true, Bool.and_eq_true, Bool.and_eq_true] at hq
    obtain ⟨hr, h1, h2, h3⟩ := hq
    have hf : flt b [base, a, c] = 0 := flt_ok hr (by rw [all3, h1, h2, h3]; rfl)
    have HV := Lib.hid hv
    have HF := Lib.hid hf
    have HR := Lib.hid hr
    have H1 := Lib.hid h1
    have H2 := Lib.hid h2
    have H3 := Lib.hid h3
    clear hv hf hr h1 h2 h3
    rw [HV.out, HF.out]
    go_enter Try.func41, Try.ntmps41
    go_wp2_with (go_at_call 47; refine (fault3 b base a c _ _ ?_).mono ?_; simp; rintro e w1 ⟨rfl, hb1⟩; have hx1 : w1.cell? ⟨w.heap.size, 0, none⟩ = some (.int .i64 b) := kept_box hb1 (by simp); rw [HF.out])
    go_region_held3 (fun w' => w'.cell? ⟨w.heap.size, 0, none⟩ = some (.int .i64 b)) (first | go_keep | (exact kept_box (by assumption) (by assumption))) (first
      | (go_at_call_of 49 a; refine (far_any _ _ _ _ HR.out H1.out H2.out).mono ?_; rintro e w3 ⟨rfl, hb3⟩)
      | (go_at_call_of 49 c; refine (far_any _ _ _ _ HR.out H1.out H3.out).mono ?_; rintro e w4 ⟨rfl, hb4⟩))
    all_goals go_wp2
    all_goals go_ret2
    all_goals exact ⟨rfl, by repeat (first | exact Below.refl _ _ | refine bl_alloc ?_ _ | refine bl_drew ?_ | refine bl_step ?_ (by assumption))⟩
end Go.Proofs.Ytjilmgbjbkidnaa
