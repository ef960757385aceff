/-
  SeqnumOrder: less far, seen from a base, is an order.
-/
import Derived.Test.YtjilmgbjbkidnaaSeqAlive
import Derived.Test.YtjilmgbjbkidnaaSeqMath
namespace Go.Proofs.Ytjilmgbjbkidnaa
open Go.RowKit

theorem flt3_val {b x a c : Int} (hr : rt b = true) (h0 : okn b x = true) (h1 : okn b a = true) (h2 : okn b c = true) : flt b [x, a, c] = 0 ∧ LessV b x a c = decide (farV b x a < farV b x c) := by
  have hq : [x, a, c].all (okn b) = true := by rw [all3, h0, h1, h2]; rfl
  refine ⟨flt_ok hr hq, ?_⟩
  unfold LessV
  rw [hr, hq]
  rfl
theorem flt3_ok {b x a c : Int} (h : flt b [x, a, c] = 0) : rt b = true ∧ okn b x = true ∧ okn b a = true ∧ okn b c = true := by
  cases hq : rt b && [x, a, c].all (okn b)
  · have := flt_ne hq
    omega
  · rw [all3, Bool.and_eq_true, Bool.and_eq_true, Bool.and_eq_true] at hq
    exact ⟨hq.1, hq.2.1, hq.2.2.1, hq.2.2.2⟩
theorem less_zero {b x a c : Int} (h : flt b [x, a, c] ≠ 0) : LessV b x a c = false := by
  unfold LessV
  by_cases hq : (rt b && [x, a, c].all (okn b)) = true
  · have hq' := hq
    rw [Bool.and_eq_true] at hq'
    exact absurd (flt_ok hq'.1 hq'.2) h
  · rw [if_neg hq]
theorem far_inj {b x a c : Int} (hr : rt b = true) (h0 : okn b x = true) (h1 : okn b a = true) (h2 : okn b c = true) (h : farV b x a = farV b x c) : a = c := by
  obtain ⟨hz1, hz2⟩ := rt_pos hr
  obtain ⟨a0, b0⟩ := okn_true h0
  obtain ⟨a1, b1⟩ := okn_true h1
  obtain ⟨a2, b2⟩ := okn_true h2
  unfold farV at h
  rw [mod_near (M := sz b) (x := a - x) (by omega) (by omega), mod_near (M := sz b) (x := c - x) (by omega) (by omega)] at h
  split at h <;> split at h <;> omega
theorem flt3_bool {b x a c : Int} (hr : rt b = true) (h0 : okn b x = true) (h1 : okn b a = true) (h2 : okn b c = false) : (flt b [x, a, c] != 0) = true := by
  have hq : (rt b && [x, a, c].all (okn b)) = false := by rw [all3, hr, h0, h1, h2]; rfl
  have := flt_ne hq
  simp
  omega

set_option maxRecDepth 100000 in
set_option maxHeartbeats 3200000 in
theorem order_walk (b x a c d : Int) (w : World) :
    Calls Try.prog 12 #[.int .i64 b, .int .i64 x, .int .i64 a, .int .i64 c, .int .i64 d] w fun e w' => e = .returned (.bool true) ∧ Below w.heap.size w w' := by
  by_cases e1 : flt b [x, a, c] = 0
  · obtain ⟨hr, h0, h1, h2⟩ := flt3_ok e1
    obtain ⟨_, l1⟩ := flt3_val hr h0 h1 h2
    obtain ⟨e2, l2⟩ := flt3_val hr h0 h2 h1
    obtain ⟨e5, l5⟩ := flt3_val hr h0 h1 h1
    cases h3 : okn b d
    · have e3 := flt3_bool (c := d) hr h0 h2 h3
      clear hr h0 h1 h2 h3 l1 l2 l5
      go_enter Try.func12, Try.ntmps12
      go_wp2_with (first
        | (go_at_call 33; refine (alive2_any _).mono ?_; rintro e wa ⟨rfl, hba⟩)
        | (go_at_call 41; refine (Less_any _ _ _ _ _).mono ?_; rintro e w1 ⟨rfl, hb1⟩; have hx1 : w1.cell? ⟨w.heap.size, 0, none⟩ = some (.int .i64 b) := kept_box hb1 (by first | assumption | simp)))
      go_ret
      exact ⟨by first | rfl | exact ret_bool (by simp; omega), by repeat (first | exact Below.refl _ _ | refine bl_alloc ?_ _ | refine bl_drew ?_ | refine bl_step ?_ (by assumption))⟩
    · obtain ⟨e3, l3⟩ := flt3_val hr h0 h2 h3
      obtain ⟨e4, l4⟩ := flt3_val hr h0 h1 h3
      have hinj : farV b x a = farV b x c → a = c := far_inj hr h0 h1 h2
      have hsame : a = c → farV b x a = farV b x c := fun h => by rw [h]
      clear hr h0 h1 h2 h3
      generalize farV b x a = p at *
      generalize farV b x c = q at *
      generalize farV b x d = r at *
      have l5' : LessV b x a a = false := by rw [l5]; simp
      clear l5
      rcases Int.lt_trichotomy p q with hpq | hpq | hpq
      · have hac : (a != c) = true := by simp; intro h; have := hsame h; omega
        rw [decide_eq_true hpq] at l1
        rw [decide_eq_false (by omega)] at l2
        by_cases hqr : q < r
        · rw [decide_eq_true hqr] at l3
          rw [decide_eq_true (by omega)] at l4
          clear hinj hsame hpq hqr
          go_enter Try.func12, Try.ntmps12
          go_wp2_with (first
            | (go_at_call 33; refine (alive2_any _).mono ?_; rintro e wa ⟨rfl, hba⟩)
            | (go_at_call 41; refine (Less_any _ _ _ _ _).mono ?_; rintro e w1 ⟨rfl, hb1⟩; have hx1 : w1.cell? ⟨w.heap.size, 0, none⟩ = some (.int .i64 b) := kept_box hb1 (by first | assumption | simp)))
          go_ret
          exact ⟨by first | rfl | exact ret_bool (by simp; omega), by repeat (first | exact Below.refl _ _ | refine bl_alloc ?_ _ | refine bl_drew ?_ | refine bl_step ?_ (by assumption))⟩
        · rw [decide_eq_false hqr] at l3
          clear hinj hsame hpq hqr l4
          go_enter Try.func12, Try.ntmps12
          go_wp2_with (first
            | (go_at_call 33; refine (alive2_any _).mono ?_; rintro e wa ⟨rfl, hba⟩)
            | (go_at_call 41; refine (Less_any _ _ _ _ _).mono ?_; rintro e w1 ⟨rfl, hb1⟩; have hx1 : w1.cell? ⟨w.heap.size, 0, none⟩ = some (.int .i64 b) := kept_box hb1 (by first | assumption | simp)))
          go_ret
          exact ⟨by first | rfl | exact ret_bool (by simp; omega), by repeat (first | exact Below.refl _ _ | refine bl_alloc ?_ _ | refine bl_drew ?_ | refine bl_step ?_ (by assumption))⟩
      · have hac : (a != c) = false := by simp; exact hinj hpq
        rw [decide_eq_false (by omega)] at l1
        rw [decide_eq_false (by omega)] at l2
        clear hinj hsame hpq l3 l4
        go_enter Try.func12, Try.ntmps12
        go_wp2_with (first
          | (go_at_call 33; refine (alive2_any _).mono ?_; rintro e wa ⟨rfl, hba⟩)
          | (go_at_call 41; refine (Less_any _ _ _ _ _).mono ?_; rintro e w1 ⟨rfl, hb1⟩; have hx1 : w1.cell? ⟨w.heap.size, 0, none⟩ = some (.int .i64 b) := kept_box hb1 (by first | assumption | simp)))
        go_ret
        exact ⟨by first | rfl | exact ret_bool (by simp; omega), by repeat (first | exact Below.refl _ _ | refine bl_alloc ?_ _ | refine bl_drew ?_ | refine bl_step ?_ (by assumption))⟩
      · have hac : (a != c) = true := by simp; intro h; have := hsame h; omega
        rw [decide_eq_false (by omega)] at l1
        rw [decide_eq_true hpq] at l2
        clear hinj hsame hpq l3 l4
        go_enter Try.func12, Try.ntmps12
        go_wp2_with (first
          | (go_at_call 33; refine (alive2_any _).mono ?_; rintro e wa ⟨rfl, hba⟩)
          | (go_at_call 41; refine (Less_any _ _ _ _ _).mono ?_; rintro e w1 ⟨rfl, hb1⟩; have hx1 : w1.cell? ⟨w.heap.size, 0, none⟩ = some (.int .i64 b) := kept_box hb1 (by first | assumption | simp)))
        go_ret
        exact ⟨by first | rfl | exact ret_bool (by simp; omega), by repeat (first | exact Below.refl _ _ | refine bl_alloc ?_ _ | refine bl_drew ?_ | refine bl_step ?_ (by assumption))⟩
  · have hl := less_zero e1
    have e1' : (flt b [x, a, c] != 0) = true := by simpa using e1
    have e1'' : (flt b [x, a, c] == 0) = false := by simpa using e1
    clear e1
    go_enter Try.func12, Try.ntmps12
    go_wp2_with (first
      | (go_at_call 33; refine (alive2_any _).mono ?_; rintro e wa ⟨rfl, hba⟩)
      | (go_at_call 41; refine (Less_any _ _ _ _ _).mono ?_; rintro e w1 ⟨rfl, hb1⟩; have hx1 : w1.cell? ⟨w.heap.size, 0, none⟩ = some (.int .i64 b) := kept_box hb1 (by first | assumption | simp)))
    go_ret
    exact ⟨by first | rfl | exact ret_bool (by simp; omega), by repeat (first | exact Below.refl _ _ | refine bl_alloc ?_ _ | refine bl_drew ?_ | refine bl_step ?_ (by assumption))⟩
end Go.Proofs.Ytjilmgbjbkidnaa
