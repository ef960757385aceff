/-
  What the small functions of lens answer: which widths may be, how great a length may be, how many bytes lengths have.
-/
import Derived.Test.YtdklddpkklodnaaBitsGet
namespace Go.Proofs.Ytdklddpkklodnaa
open Go.RowKit

def okW (w : Int) : Bool := (w == 11) || (w == 15)
theorem okW_nat {w : Int} (h : okW w = true) : w = 11 ∨ w = 15 := by simpa [okW] using h
theorem okW_not {w : Int} (h : okW w = false) : w ≠ 11 ∧ w ≠ 15 := by simpa [okW] using h
/-- how many bytes n lengths have -/
def sizeF (n w : Int) : Int := if okW w && (decide (1 ≤ n) && decide (n ≤ 23)) then (n * (1 + w) + 7) / 8 else 0

set_option maxHeartbeats 400000 in
theorem lmay_any (x : Int) (w : World) : Calls Try.prog 100 #[.int .i64 x] w fun e w' => e = .returned (.bool (okW x)) ∧ w = w' := by
  by_cases h1 : x = 11
  · subst h1
    go_enter Try.func100, Try.ntmps100
    go_wp2
    go_ret
    exact ⟨rfl, rfl⟩
  · by_cases h2 : x = 15
    · subst h2
      go_enter Try.func100, Try.ntmps100
      go_wp2
      go_ret
      exact ⟨rfl, rfl⟩
    · have h1' : (x == 11) = false := by simpa using h1
      have h2' : (x == 15) = false := by simpa using h2
      have HX := Lib.hid (show okW x = false by simp [okW, h1, h2])
      clear h1 h2
      go_enter Try.func100, Try.ntmps100
      go_wp2
      go_ret
      exact ⟨by rw [HX.out]; rfl, rfl⟩

theorem longest_ok {x : Int} (h : okW x = true) (w : World) : Calls Try.prog 107 #[.int .i64 x] w fun e w' => e = .returned (.int .i64 (2 ^ x.toNat - 1)) ∧ w = w' := by
  rcases okW_nat h with rfl | rfl
  · go_enter Try.func107, Try.ntmps107
    go_wp2
    go_ret
    exact ⟨rfl, rfl⟩
  · go_enter Try.func107, Try.ntmps107
    go_wp2
    go_ret
    exact ⟨rfl, rfl⟩

set_option maxHeartbeats 400000 in
theorem follows_any (b : Bool) (w : World) : Calls Try.prog 97 #[.bool b] w fun e w' => e = .returned (.int .u64 b.toNat) ∧ w = w' := by
  cases b
  · go_enter Try.func97, Try.ntmps97
    go_wp2
    go_ret
    exact ⟨rfl, rfl⟩
  · go_enter Try.func97, Try.ntmps97
    go_wp2
    go_ret
    exact ⟨rfl, rfl⟩

set_option maxHeartbeats 800000 in
theorem size_any (n x : Int) (w : World) : Calls Try.prog 77 #[.int .i64 n, .int .i64 x] w fun e w' => e = .returned (.int .i64 (sizeF n x)) ∧ w = w' := by
  cases hx : okW x
  · have HF := Lib.hid (show sizeF n x = 0 by simp [sizeF, hx])
    have HM := Lib.hid (lmay_any x w)
    rw [hx] at HM
    clear hx
    go_enter Try.func77, Try.ntmps77
    go_wp2_with (go_at_call 100; refine HM.out.mono ?_; rintro e w1 ⟨rfl, rfl⟩)
    go_ret
    exact ⟨by rw [HF.out]; rfl, rfl⟩
  · have HM := Lib.hid (lmay_any x w)
    rw [hx] at HM
    by_cases h1 : 1 ≤ n
    · by_cases h2 : n ≤ 23
      · have HF := Lib.hid (show sizeF n x = (n * (1 + x) + 7) / 8 by simp [sizeF, hx, h1, h2])
        have h1' : ¬ n < 1 := by omega
        have h2' : ¬ 23 < n := by omega
        rcases okW_nat hx with rfl | rfl
        all_goals
          clear hx
          go_enter Try.func77, Try.ntmps77
          go_wp2_with (go_at_call 100; refine HM.out.mono ?_; rintro e w1 ⟨rfl, rfl⟩)
          go_ret
          refine ⟨?_, rfl⟩
          rw [HF.out]
          first | rfl | go_num
      · have HF := Lib.hid (show sizeF n x = 0 by simp [sizeF, h2])
        have h1' : ¬ n < 1 := by omega
        have h2' : 23 < n := by omega
        clear hx
        go_enter Try.func77, Try.ntmps77
        go_wp2_with (go_at_call 100; refine HM.out.mono ?_; rintro e w1 ⟨rfl, rfl⟩)
        go_ret
        exact ⟨by rw [HF.out]; rfl, rfl⟩
    · have HF := Lib.hid (show sizeF n x = 0 by simp [sizeF, h1])
      have h1' : n < 1 := by omega
      clear hx
      go_enter Try.func77, Try.ntmps77
      go_wp2_with (go_at_call 100; refine HM.out.mono ?_; rintro e w1 ⟨rfl, rfl⟩)
      go_ret
      exact ⟨by rw [HF.out]; rfl, rfl⟩

set_option maxHeartbeats 800000 in
theorem top_ok (x : Nat) (hx : x ≤ 15) (w : World) : Calls Try.prog 102 #[.int .i64 x] w fun e w' => e = .returned (.int .i64 ((2 ^ x : Nat) : Int)) ∧ w = w' := by
  have hp : ∀ k, k ≤ x → 2 ^ k ≤ 32768 := fun k hk => Nat.le_trans (Nat.pow_le_pow_right (by omega) (show k ≤ 15 by omega)) (by decide)
  go_enter Try.func102, Try.ntmps102
  go_wp2
  go_loopw [3, 4] (fun v i wr => ∃ k q : Nat, k ≤ x ∧ q ≤ 32768 ∧ v = .int .i64 q ∧ i = .int .i64 k ∧ Hid (q = 2 ^ k) ∧ w = wr) (fun _ i _ => x - (intOf i).toNat)
  case atStart => exact ⟨0, 1, by omega, by omega, rfl, rfl, Lib.hid rfl, rfl⟩
  case round =>
    obtain ⟨k, q, hk, hq, rfl, rfl, HQ, rfl⟩ := hrel
    by_cases hlt : k < x
    · have h2 := hp (k + 1) (by omega)
      have HP := Lib.hid (show 2 * q = 2 ^ (k + 1) by rw [HQ.out, Nat.pow_succ, Nat.mul_comm])
      have h3 : 2 * q ≤ 32768 := by rw [HP.out]; exact h2
      clear h2 hp
      go_wp2
      go_roundw
      case rel => exact ⟨k + 1, 2 * q, by omega, h3, by go_num, by go_num, HP, trivial⟩
      case measure => simp [intOf]; omega
    · obtain rfl : k = x := by omega
      go_wp2
      go_ret
      exact ⟨by rw [HQ.out]; rfl, rfl⟩

set_option maxHeartbeats 1600000 in
theorem refsize_any (n x : Int) (w : World) : Calls Try.prog 70 #[.int .i64 n, .int .i64 x] w fun e w' => e = .returned (.int .i64 (sizeF n x)) ∧ w = w' := by
  cases hx : okW x
  · have HF := Lib.hid (show sizeF n x = 0 by simp [sizeF, hx])
    obtain ⟨h1, h2⟩ := okW_not hx
    have h1 : ¬ x = 11 := h1
    have h2 : ¬ x = 15 := h2
    clear hx
    go_enter Try.func70, Try.ntmps70
    go_wp2
    go_ret
    exact ⟨by rw [HF.out]; rfl, rfl⟩
  · by_cases h1 : 1 ≤ n
    · by_cases h2 : n ≤ 23
      · have HF := Lib.hid (show sizeF n x = (n * (1 + x) + 7) / 8 by simp [sizeF, hx, h1, h2])
        have h1' : ¬ n < 1 := by omega
        have h2' : ¬ 23 < n := by omega
        rcases okW_nat hx with rfl | rfl
        · clear hx
          go_enter Try.func70, Try.ntmps70
          go_wp2
          go_loopw [5] (fun v wr => ∃ k : Nat, k ≤ 46 ∧ v = .int .i64 k ∧ Hid ((k : Int) ≤ sizeF n 11) ∧ w = wr) (fun v _ => 46 - (intOf v).toNat)
          case atStart => exact ⟨0, by omega, rfl, Lib.hid (by rw [HF.out]; omega), rfl⟩
          case round =>
            obtain ⟨k, hk, rfl, HK, rfl⟩ := hrel
            have hks := HK.out
            rw [HF.out] at hks
            by_cases hlt : 8 * (k : Int) < n * 12
            · go_wp2
              go_roundw
              case rel => exact ⟨k + 1, by omega, by go_num, Lib.hid (by rw [HF.out]; omega), trivial⟩
              case measure => simp [intOf]; omega
            · go_wp2
              go_ret
              exact ⟨ret_int (by rw [HF.out]; omega), rfl⟩
        · clear hx
          go_enter Try.func70, Try.ntmps70
          go_wp2
          go_loopw [5] (fun v wr => ∃ k : Nat, k ≤ 46 ∧ v = .int .i64 k ∧ Hid ((k : Int) ≤ sizeF n 15) ∧ w = wr) (fun v _ => 46 - (intOf v).toNat)
          case atStart => exact ⟨0, by omega, rfl, Lib.hid (by rw [HF.out]; omega), rfl⟩
          case round =>
            obtain ⟨k, hk, rfl, HK, rfl⟩ := hrel
            have hks := HK.out
            rw [HF.out] at hks
            by_cases hlt : 8 * (k : Int) < n * 16
            · go_wp2
              go_roundw
              case rel => exact ⟨k + 1, by omega, by go_num, Lib.hid (by rw [HF.out]; omega), trivial⟩
              case measure => simp [intOf]; omega
            · go_wp2
              go_ret
              exact ⟨ret_int (by rw [HF.out]; omega), rfl⟩
      · have HF := Lib.hid (show sizeF n x = 0 by simp [sizeF, h2])
        have h1' : ¬ n < 1 := by omega
        have h2' : 23 < n := by omega
        rcases okW_nat hx with rfl | rfl
        all_goals
          clear hx
          go_enter Try.func70, Try.ntmps70
          go_wp2
          go_ret
          exact ⟨by rw [HF.out]; rfl, rfl⟩
    · have HF := Lib.hid (show sizeF n x = 0 by simp [sizeF, h1])
      have h1' : n < 1 := by omega
      rcases okW_nat hx with rfl | rfl
      all_goals
        clear hx
        go_enter Try.func70, Try.ntmps70
        go_wp2
        go_ret
        exact ⟨by rw [HF.out]; rfl, rfl⟩
end Go.Proofs.Ytdklddpkklodnaa
