/-
  Whole numbers as floats: they are read, added, held against each other and cut exactly.
-/
import Derived.Laws.FloatArith
namespace Go.Proofs.Ytieokmmejdngcaa
open Ieee

/-- how far a whole number's word shifts its digits up -/
def shf (n : Nat) : Nat := if n = 0 then 1074 else 52 - n.log2

theorem log2_mul_pow {m : Nat} (hm : m ≠ 0) (k : Nat) : (m * 2 ^ k).log2 = m.log2 + k := by
  have h0 : m * 2 ^ k ≠ 0 := Nat.mul_ne_zero hm (by have := Nat.two_pow_pos k; omega)
  rw [Nat.log2_eq_iff h0]
  have h1 := Nat.log2_self_le hm
  have h2 := @Nat.lt_log2_self m
  constructor
  · rw [Nat.pow_add]
    exact Nat.mul_le_mul_right _ h1
  · rw [show m.log2 + k + 1 = (m.log2 + 1) + k by omega, Nat.pow_add]
    exact Nat.mul_lt_mul_of_pos_right h2 (Nat.two_pow_pos k)
theorem log2_le {m : Nat} (hm : m ≠ 0) (h : m < 9007199254740992) : m.log2 ≤ 52 := by
  have : m.log2 < 53 := (Nat.log2_lt hm).2 (by simpa using h)
  omega

theorem cut_exact (neg : Bool) (m d : Nat) (hd : d ≤ (m * 2 ^ d).log2 + 2) : Toward.even.cut neg (m * 2 ^ d) d = m := by
  unfold Toward.cut
  simp only [Nat.min_eq_left hd, Nat.one_shiftLeft]
  have hp := Nat.two_pow_pos d
  rw [Nat.mul_div_cancel _ hp, Nat.mul_mod_left]
  have : ¬ 2 ^ d < 0 := by omega
  have h2 : (2 ^ d == 0) = false := by simp
  simp [h2]

theorem leastPlace_is : double.leastPlace = -1074 := by decide
theorem fractionBits_is : double.fractionBits = 52 := rfl
theorem binade_is : double.binade = 4503599627370496 := by decide

/-- the rung of a whole number -/
def rungN (m : Nat) : Nat := (m.log2 + 1022) * 4503599627370496 + m * 2 ^ (52 - m.log2)

theorem sig_bd {m : Nat} (hm : m ≠ 0) (h : m < 9007199254740992) : 4503599627370496 ≤ m * 2 ^ (52 - m.log2) ∧ m * 2 ^ (52 - m.log2) < 9007199254740992 := by
  have hl := log2_le hm h
  have h1 := Nat.log2_self_le hm
  have h2 := @Nat.lt_log2_self m
  constructor
  · calc 4503599627370496 = 2 ^ (m.log2 + (52 - m.log2)) := by rw [show m.log2 + (52 - m.log2) = 52 by omega]
      _ = 2 ^ m.log2 * 2 ^ (52 - m.log2) := Nat.pow_add ..
      _ ≤ _ := Nat.mul_le_mul_right _ h1
  · calc m * 2 ^ (52 - m.log2) < 2 ^ (m.log2 + 1) * 2 ^ (52 - m.log2) := Nat.mul_lt_mul_of_pos_right h2 (Nat.two_pow_pos _)
      _ = 2 ^ (m.log2 + 1 + (52 - m.log2)) := (Nat.pow_add ..).symm
      _ = 9007199254740992 := by rw [show m.log2 + 1 + (52 - m.log2) = 53 by omega]

/-- a whole number's word, whatever power of two is written out of it -/
theorem nearest_scale (neg : Bool) {m : Nat} (hm : m ≠ 0) (h : m < 9007199254740992) (k : Nat) : double.nearest neg (m * 2 ^ k) (-(k : Int)) = double.word neg (min (rungN m) double.infRung) := by
  have hl := log2_le hm h
  have h0 : m * 2 ^ k ≠ 0 := Nat.mul_ne_zero hm (by have := Nat.two_pow_pos k; omega)
  unfold Format.nearest
  rw [if_neg h0, log2_mul_pow hm, leastPlace_is, fractionBits_is]
  have hlast : max (-(k : Int) + ((m.log2 + k : Nat) : Int) - ((52 : Nat) : Int)) (-1074) = (m.log2 : Int) - 52 := by omega
  simp only [hlast]
  have hkept : Toward.even.cut neg ((m * 2 ^ k) <<< (-(k : Int) - ((m.log2 : Int) - 52)).toNat) ((m.log2 : Int) - 52 - -(k : Int)).toNat = m * 2 ^ (52 - m.log2) := by
    rcases Nat.lt_or_ge (52 - m.log2) k with hk | hk
    · have e1 : (-(k : Int) - ((m.log2 : Int) - 52)).toNat = 0 := by omega
      have e2 : ((m.log2 : Int) - 52 - -(k : Int)).toNat = k - (52 - m.log2) := by omega
      rw [e1, e2, Nat.shiftLeft_eq, Nat.pow_zero, Nat.mul_one]
      have e3 : m * 2 ^ k = (m * 2 ^ (52 - m.log2)) * 2 ^ (k - (52 - m.log2)) := by
        rw [Nat.mul_assoc, ← Nat.pow_add, show 52 - m.log2 + (k - (52 - m.log2)) = k by omega]
      rw [e3]
      refine cut_exact neg _ _ ?_
      rw [← e3, log2_mul_pow hm]
      omega
    · have e1 : (-(k : Int) - ((m.log2 : Int) - 52)).toNat = (52 - m.log2) - k := by omega
      have e2 : ((m.log2 : Int) - 52 - -(k : Int)).toNat = 0 := by omega
      rw [e1, e2, Nat.shiftLeft_eq]
      have e3 : m * 2 ^ k * 2 ^ (52 - m.log2 - k) = m * 2 ^ (52 - m.log2) := by
        rw [Nat.mul_assoc, ← Nat.pow_add, show k + (52 - m.log2 - k) = 52 - m.log2 by omega]
      rw [e3]
      have := cut_exact neg (m * 2 ^ (52 - m.log2)) 0 (by omega)
      rw [Nat.pow_zero, Nat.mul_one] at this
      exact this
  rw [hkept, binade_is]
  have e : ((m.log2 : Int) - 52 - -1074).toNat = m.log2 + 1022 := by omega
  rw [e]
  rfl

theorem rung_lt {m : Nat} (hm : m ≠ 0) (h : m < 9007199254740992) : rungN m < double.infRung := by
  have hl := log2_le hm h
  have hs := sig_bd hm h
  have : double.infRung = 2047 * 4503599627370496 := by decide
  rw [this]
  unfold rungN
  have : (m.log2 + 1022) * 4503599627370496 ≤ 1074 * 4503599627370496 := Nat.mul_le_mul_right _ (by omega)
  omega
theorem nearest_word (neg : Bool) {m : Nat} (hm : m ≠ 0) (h : m < 9007199254740992) (k : Nat) : double.nearest neg (m * 2 ^ k) (-(k : Int)) = double.word neg (rungN m) := by
  rw [nearest_scale neg hm h, Nat.min_eq_left (Nat.le_of_lt (rung_lt hm h))]

theorem read_word (neg : Bool) {m : Nat} (hm : m ≠ 0) (h : m < 9007199254740992) : double.read (double.word neg (rungN m)) = .number neg (m * 2 ^ (52 - m.log2)) (-((52 - m.log2 : Nat) : Int)) := by
  have hl := log2_le hm h
  have hs := sig_bd hm h
  have hi := rung_lt hm h
  have hw : double.signWeight = 9223372036854775808 := by decide
  have hinf : double.infRung = 2047 * 4503599627370496 := by decide
  have hr : rungN m < 9223372036854775808 := by rw [hinf] at hi; omega
  have hneg : (double.word neg (rungN m) / double.signWeight % 2 == 1) = neg := by
    unfold Format.word
    rw [hw]
    cases neg
    · rw [if_neg (by simp)]
      rw [Nat.div_eq_of_lt hr]
      rfl
    · rw [if_pos rfl]
      rw [Nat.add_div_left _ (by omega), Nat.div_eq_of_lt hr]
      rfl
  have hrung : double.word neg (rungN m) % double.signWeight = rungN m := by
    unfold Format.word
    rw [hw]
    cases neg
    · rw [if_neg (by simp)]
      exact Nat.mod_eq_of_lt hr
    · rw [if_pos rfl, Nat.add_mod_left]
      exact Nat.mod_eq_of_lt hr
  unfold Format.read
  rw [hneg, hrung, binade_is, leastPlace_is]
  have hb : ¬ rungN m < 4503599627370496 := by unfold rungN; omega
  simp only []
  rw [if_neg hb, if_pos hi]
  have e1 : rungN m = (m * 2 ^ (52 - m.log2) - 4503599627370496) + 4503599627370496 * (m.log2 + 1023) := by unfold rungN; omega
  have e2 : rungN m % 4503599627370496 = m * 2 ^ (52 - m.log2) - 4503599627370496 := by
    rw [e1, Nat.add_mul_mod_self_left]
    exact Nat.mod_eq_of_lt (by omega)
  have e3 : rungN m / 4503599627370496 = m.log2 + 1023 := by
    rw [e1, Nat.add_mul_div_left _ _ (by omega), Nat.div_eq_of_lt (by omega)]
    omega
  have e4 : 4503599627370496 + (m * 2 ^ (52 - m.log2) - 4503599627370496) = m * 2 ^ (52 - m.log2) := by omega
  have e5 : (-1074 : Int) + ((m.log2 + 1023 - 1 : Nat) : Int) = -((52 - m.log2 : Nat) : Int) := by omega
  rw [e2, e3, e4, e5]

/-- a whole number's float -/
theorem F_def (n : Int) : floatOfInt .f64 n = double.nearest (n < 0) n.natAbs 0 := rfl
theorem F_zero : floatOfInt .f64 0 = 0 := by decide
theorem F_word {n : Int} (h0 : n ≠ 0) (h : n.natAbs < 9007199254740992) : floatOfInt .f64 n = double.word (n < 0) (rungN n.natAbs) := by
  have := nearest_word (n < 0) (m := n.natAbs) (by omega) h 0
  rw [Nat.pow_zero, Nat.mul_one] at this
  exact (F_def n).trans this
theorem read_F {n : Int} (h : n.natAbs < 9007199254740992) : double.read (floatOfInt .f64 n) = .number (n < 0) (n.natAbs * 2 ^ shf n.natAbs) (-((shf n.natAbs : Nat) : Int)) := by
  by_cases h0 : n = 0
  · subst h0
    rw [F_zero, Int.natAbs_zero, Nat.zero_mul]
    rfl
  · rw [F_word h0 h, read_word _ (by omega) h]
    unfold shf
    rw [if_neg (by omega)]

theorem signed_F {n : Int} {s d : Nat} : signed (n < 0) (n.natAbs * 2 ^ s) d = n * 2 ^ (s + d) := by
  unfold signed
  rw [Nat.shiftLeft_eq, Nat.mul_assoc, ← Nat.pow_add]
  by_cases h : n < 0
  · rw [if_pos (by simpa using h)]
    rw [Int.natCast_mul, Int.natCast_pow]
    have : ((n.natAbs : Nat) : Int) = -n := by omega
    rw [this, Int.neg_mul, Int.neg_neg]
    rfl
  · rw [if_neg (by simpa using h)]
    rw [Int.natCast_mul, Int.natCast_pow]
    have : ((n.natAbs : Nat) : Int) = n := by omega
    rw [this]
    rfl

theorem base_up {a b : Nat} : (-(a : Int) - min (-(a : Int)) (-(b : Int))).toNat = max a b - a ∧ (-(b : Int) - min (-(a : Int)) (-(b : Int))).toNat = max a b - b ∧ min (-(a : Int)) (-(b : Int)) = -((max a b : Nat) : Int) := by
  omega

/-- whole numbers' floats add as they do -/
theorem F_add {a b : Int} (ha : a.natAbs < 9007199254740992) (hb : b.natAbs < 9007199254740992) (hab : (a + b).natAbs < 9007199254740992) : floatBits .add .f64 (floatOfInt .f64 a) (floatOfInt .f64 b) = some (floatOfInt .f64 (a + b)) := by
  show double.add _ _ = _
  unfold Format.add
  rw [read_F ha, read_F hb]
  simp only [Datum.sum, Option.map_some]
  obtain ⟨e1, e2, e3⟩ := @base_up (shf a.natAbs) (shf b.natAbs)
  rw [e1, e2, e3, signed_F, signed_F]
  rw [show shf a.natAbs + (max (shf a.natAbs) (shf b.natAbs) - shf a.natAbs) = max (shf a.natAbs) (shf b.natAbs) by omega,
    show shf b.natAbs + (max (shf a.natAbs) (shf b.natAbs) - shf b.natAbs) = max (shf a.natAbs) (shf b.natAbs) by omega]
  generalize max (shf a.natAbs) (shf b.natAbs) = k
  rw [← Int.add_mul]
  have hp : (0 : Int) < 2 ^ k := by exact_mod_cast Nat.two_pow_pos k
  congr 1
  show double.nearest _ _ _ = _
  by_cases h0 : a + b = 0
  · rw [h0, Int.zero_mul, if_pos rfl, F_zero]
    have : (decide (a < 0) && decide (b < 0)) = false := by
      rw [Bool.and_eq_false_iff, decide_eq_false_iff_not, decide_eq_false_iff_not]
      omega
    rw [this]
    rfl
  · have hne : ¬ (a + b) * 2 ^ k = 0 := by
      intro h
      rcases Int.mul_eq_zero.1 h with h | h
      · exact h0 h
      · omega
    rw [if_neg hne]
    have hs : decide ((a + b) * 2 ^ k < 0) = decide (a + b < 0) := by
      rw [decide_eq_decide]
      constructor
      · intro h
        rcases Int.lt_or_le (a + b) 0 with h1 | h1
        · exact h1
        · have := Int.mul_nonneg h1 (Int.le_of_lt hp)
          omega
      · intro h
        exact Int.mul_neg_of_neg_of_pos h hp
    rw [hs, Int.natAbs_mul, F_word h0 hab]
    have : ((2 : Int) ^ k).natAbs = 2 ^ k := by rw [Int.natAbs_pow]; rfl
    rw [this]
    exact nearest_word _ (by omega) hab k

theorem F_order {a b : Int} (ha : a.natAbs < 9007199254740992) (hb : b.natAbs < 9007199254740992) : FloatKind.f64.format.order (floatOfInt .f64 a) (floatOfInt .f64 b) = some (compare a b) := by
  show double.order _ _ = _
  unfold Format.order
  rw [read_F ha, read_F hb]
  simp only [Datum.order]
  obtain ⟨e1, e2, e3⟩ := @base_up (shf a.natAbs) (shf b.natAbs)
  rw [e1, e2, signed_F, signed_F]
  rw [show shf a.natAbs + (max (shf a.natAbs) (shf b.natAbs) - shf a.natAbs) = max (shf a.natAbs) (shf b.natAbs) by omega,
    show shf b.natAbs + (max (shf a.natAbs) (shf b.natAbs) - shf b.natAbs) = max (shf a.natAbs) (shf b.natAbs) by omega]
  generalize max (shf a.natAbs) (shf b.natAbs) = k
  have hp : (0 : Int) < 2 ^ k := by exact_mod_cast Nat.two_pow_pos k
  congr 1
  simp only [compare, compareOfLessAndEq]
  have h1 : a * 2 ^ k < b * 2 ^ k ↔ a < b := Int.mul_lt_mul_right hp
  have h2 : a * 2 ^ k = b * 2 ^ k ↔ a = b := Int.mul_eq_mul_right_iff (by omega)
  simp only [h1, h2]
theorem F_toInt {n : Int} (h : n.natAbs < 9007199254740992) : floatToIntVal .f64 (floatOfInt .f64 n) .i64 = some n := by
  unfold floatToIntVal
  have h1 : FloatKind.f64.decode (floatOfInt .f64 n) = .number (n < 0) (n.natAbs * 2 ^ shf n.natAbs) (-((shf n.natAbs : Nat) : Int)) := read_F h
  rw [h1]
  have h2 : (Datum.number (n < 0) (n.natAbs * 2 ^ shf n.natAbs) (-((shf n.natAbs : Nat) : Int))).toInt .zero = some n := by
    unfold Datum.toInt Datum.integral
    have e1 : (-((shf n.natAbs : Nat) : Int)).toNat = 0 := by omega
    have e2 : (- -((shf n.natAbs : Nat) : Int)).toNat = shf n.natAbs := by omega
    simp only [e1, e2, Nat.shiftLeft_zero]
    have hc : Toward.zero.cut (decide (n < 0)) (n.natAbs * 2 ^ shf n.natAbs) (shf n.natAbs) = n.natAbs := by
      by_cases h0 : n.natAbs = 0
      · rw [h0, Nat.zero_mul]
        unfold Toward.cut
        simp
      · have hs : shf n.natAbs = 52 - n.natAbs.log2 := by unfold shf; rw [if_neg h0]
        have hd : shf n.natAbs ≤ (n.natAbs * 2 ^ shf n.natAbs).log2 + 2 := by rw [log2_mul_pow h0]; omega
        unfold Toward.cut
        simp only [Nat.min_eq_left hd, Nat.one_shiftLeft]
        rw [Nat.mul_div_cancel _ (Nat.two_pow_pos _)]
        rfl
    rw [hc]
    have := @signed_F n 0 0
    rw [Nat.pow_zero, Nat.mul_one, Nat.add_zero, Int.pow_zero, Int.mul_one] at this
    rw [this]
  rw [h2]
  have : IntKind.i64.min ≤ n ∧ n ≤ IntKind.i64.max := by
    have e1 : IntKind.i64.min = -9223372036854775808 := by decide
    have e2 : IntKind.i64.max = 9223372036854775807 := by decide
    omega
  simp only [this, and_self, if_true]
end Go.Proofs.Ytieokmmejdngcaa
