/-
  Points of whole parts; what the small calls of package points answer.
-/
import Derived.Test.YtieokmmejdngcaaMem
import Derived.Test.YtieokmmejdngcaaFloatInt
import Derived.IntWalk
namespace Go.Proofs.Ytieokmmejdngcaa
open Go.RowKit

/-- a whole number's float, under a name that no rule opens -/
def fl (n : Int) : Nat := floatOfInt .f64 n
theorem fl_zero : fl 0 = 0 := F_zero
theorem fl_one : fl 1 = 4607182418800017408 := by decide +kernel
theorem fl_mone : fl (-1) = 13830554455654793216 := by decide +kernel
theorem fl_two : fl 2 = 4611686018427387904 := by decide +kernel
def cpx (p : Int × Int) : Value := .complex .f64 (fl p.1) (fl p.2)
def sg (n : Int) : Int := if n < 0 then -1 else 1
def sml (n : Int) : Prop := -1000000 ≤ n ∧ n ≤ 1000000
theorem sml_abs {n : Int} (h : sml n) : n.natAbs < 9007199254740992 := by unfold sml at h; omega
theorem fl_order {a b : Int} (ha : sml a) (hb : sml b) : FloatKind.f64.format.order (fl a) (fl b) = some (compare a b) := F_order (sml_abs ha) (sml_abs hb)
theorem fl_lt {a b : Int} (ha : sml a) (hb : sml b) : (FloatKind.f64.format.order (fl a) (fl b) == some .lt) = decide (a < b) := by
  rw [fl_order ha hb]
  simp only [compare, compareOfLessAndEq]
  by_cases h : a < b
  · rw [if_pos h, decide_eq_true h]; rfl
  · rw [if_neg h, decide_eq_false h]; split <;> rfl
theorem fl_eq {a b : Int} (ha : sml a) (hb : sml b) : (FloatKind.f64.format.order (fl a) (fl b) == some .eq) = decide (a = b) := by
  rw [fl_order ha hb]
  simp only [compare, compareOfLessAndEq]
  by_cases h : a < b
  · rw [if_pos h, decide_eq_false (by omega)]; rfl
  · rw [if_neg h]
    by_cases h2 : a = b
    · rw [if_pos h2, decide_eq_true h2]; rfl
    · rw [if_neg h2, decide_eq_false h2]; rfl
theorem fl_gt {a b : Int} (ha : sml a) (hb : sml b) : (FloatKind.f64.format.order (fl a) (fl b) == some .gt) = decide (b < a) := by
  rw [fl_order ha hb]
  simp only [compare, compareOfLessAndEq]
  by_cases h : a < b
  · rw [if_pos h, decide_eq_false (by omega)]; rfl
  · rw [if_neg h]
    by_cases h2 : a = b
    · rw [if_pos h2, decide_eq_false (by omega)]; rfl
    · rw [if_neg h2, decide_eq_true (by omega)]; rfl
theorem sml0 : sml 0 := by unfold sml; omega

theorem part_mul (b : Int) (hb : b = 0 ∨ b = 1) : floatBits .mul .f64 4611686018427387904 (floatOfInt .f64 b) = some (fl (2 * b)) := by
  rcases hb with rfl | rfl <;> decide +kernel
theorem part_sub (b : Int) (hb : b = 0 ∨ b = 1) : floatBits .sub .f64 4607182418800017408 (fl (2 * b)) = some (fl (1 - 2 * b)) := by
  rcases hb with rfl | rfl <;> decide +kernel

theorem part_t (b : Int) (hb : b = 0 ∨ b = 1) (w : World) : Calls Try.prog 39 #[.int .u8 b] w fun e w' => e = .returned (.float .f64 (fl (1 - 2 * b))) ∧ w = w' := by
  have h1 : ∀ t w, (binOp .mul t (.float .f64 4611686018427387904) (.float .f64 (floatOfInt .f64 b))).run Try.prog w = .ok (.float .f64 (fl (2 * b))) w := fun t w => run_float_arith w .mul t .f64 _ _ _ (part_mul b hb)
  have h2 : ∀ t w, (binOp .sub t (.float .f64 4607182418800017408) (.float .f64 (fl (2 * b)))).run Try.prog w = .ok (.float .f64 (fl (1 - 2 * b))) w := fun t w => run_float_arith w .sub t .f64 _ _ _ (part_sub b hb)
  clear hb
  go_enter Try.func39, Try.ntmps39
  go_wp2
  go_ret
  exact ⟨rfl, rfl⟩
def ngb (n : Int) : Int := if n < 0 then 1 else 0
theorem bit_t (n : Int) (hn : sml n) (w : World) : Calls Try.prog 41 #[.float .f64 (fl n)] w fun e w' => e = .returned (.int .u8 (ngb n)) ∧ w = w' := by
  have h1 := fl_lt hn sml0
  rw [fl_zero] at h1
  by_cases h : n < 0
  · rw [decide_eq_true h] at h1
    have h2 : ngb n = 1 := if_pos h
    rw [h2]
    clear h hn h2
    go_enter Try.func41, Try.ntmps41
    go_wp2
    go_ret
    exact ⟨rfl, rfl⟩
  · rw [decide_eq_false h] at h1
    have h2 : ngb n = 0 := if_neg h
    rw [h2]
    clear h hn h2
    go_enter Try.func41, Try.ntmps41
    go_wp2
    go_ret
    exact ⟨rfl, rfl⟩
theorem sg_ngb (n : Int) : 1 - 2 * ngb n = sg n := by
  unfold ngb sg
  split <;> rfl
theorem ngb_01 (n : Int) : ngb n = 0 ∨ ngb n = 1 := by
  unfold ngb
  split
  · exact .inr rfl
  · exact .inl rfl
theorem partg_t (n : Int) (w : World) : Calls Try.prog 39 #[.int .u8 (ngb n)] w fun e w' => e = .returned (.float .f64 (fl (sg n))) ∧ w = w' := by
  have := part_t (ngb n) (ngb_01 n) w
  rw [sg_ngb] at this
  exact this
theorem near_t (p : Int × Int) (h0 : sml p.1) (h1 : sml p.2) (w : World) : Calls Try.prog 30 #[cpx p] w fun e w' => e = .returned (cpx (sg p.1, sg p.2)) ∧ w = w' := by
  obtain ⟨a, b⟩ := p
  show Calls Try.prog 30 #[.complex .f64 (fl a) (fl b)] w fun e w' => e = .returned (.complex .f64 (fl (sg a)) (fl (sg b))) ∧ w = w'
  simp only at h0 h1
  go_enter Try.func30, Try.ntmps30
  go_wp2_with fail
  refine (bit_t a h0 _).mono ?_
  rintro e w1 ⟨rfl, rfl⟩
  go_wp2_with fail
  refine (partg_t a _).mono ?_
  rintro e w1 ⟨rfl, rfl⟩
  go_wp2_with fail
  refine (bit_t b h1 _).mono ?_
  rintro e w1 ⟨rfl, rfl⟩
  go_wp2_with fail
  refine (partg_t b _).mono ?_
  rintro e w1 ⟨rfl, rfl⟩
  go_wp2
  go_ret
  exact ⟨rfl, rfl⟩
end Go.Proofs.Ytieokmmejdngcaa
