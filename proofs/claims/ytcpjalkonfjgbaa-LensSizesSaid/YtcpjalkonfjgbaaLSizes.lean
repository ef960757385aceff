/-
  LensSizes: lengths have as many bytes as their bits need, and not one more; a length more has more bytes: the law walked.
-/
import Derived.Test.YtcpjalkonfjgbaaLensAlive
namespace Go.Proofs.Ytcpjalkonfjgbaa
open Go.RowKit

set_option maxRecDepth 100000 in
set_option maxHeartbeats 1600000 in
theorem sizes_11 (n : Int) (w : World) : Calls Try.prog 9 #[.int .i64 n, .int .i64 11] w fun e w' => e = .returned (.bool true) ∧ Below w.heap.size w w' := by
  by_cases h1 : 1 ≤ n
  · by_cases h2 : n ≤ 23
    · have hk : sizeF n 11 = (n * 12 + 7) / 8 := by
        unfold sizeF
        rw [show okW 11 = true from rfl, decide_eq_true h1, decide_eq_true h2]
        rfl
      have hm : sizeF (n - 1) 11 < (n * 12 + 7) / 8 := by
        unfold sizeF
        split <;> omega
      have hm0 : 0 ≤ sizeF (n - 1) 11 := by
        unfold sizeF
        split
        · rename_i h
          simp at h
          omega
        · omega
      have HS1 := fun W => size_any n 11 W
      have HS2 := fun W => size_any (n - 1) 11 W
      rw [hk] at HS1
      generalize hkk : (n * 12 + 7) / 8 = k at *
      generalize sizeF (n - 1) 11 = m at *
      have HS1 := Lib.hid HS1
      have HS2 := Lib.hid HS2
      have g1 : n * 12 ≤ 8 * k := by omega
      have g2 : 8 * k < n * 12 + 8 := by omega
      have g0 : (k == 0) = false := by simp; omega
      have h1' : ¬ n < 1 := by omega
      have h2' : ¬ 23 < n := by omega
      have g3 : k ≤ 60 := by omega
      clear hk hkk
      go_enter Try.func9, Try.ntmps9
      go_wp2_with (first
        | (go_at_call 21; (with_reducible refine (HS1.out _).mono ?_); rintro e w1 ⟨rfl, rfl⟩)
        | (go_at_call 21; (with_reducible refine (HS2.out _).mono ?_); rintro e w2 ⟨rfl, rfl⟩)
        | (go_at_call 18; refine (lalive_any _).mono ?_; rintro e w3 ⟨rfl, hb3⟩))
      go_ret
      exact ⟨rfl, hb3⟩
    · have hk : sizeF n 11 = 0 := by
        unfold sizeF
        rw [decide_eq_false h2]
        simp
      have HS1 := fun W => size_any n 11 W
      rw [hk] at HS1
      have h1' : ¬ n < 1 := by omega
      have h2' : 23 < n := by omega
      have HS1 := Lib.hid HS1
      clear hk
      go_enter Try.func9, Try.ntmps9
      go_wp2_with (first
        | (go_at_call 21; (with_reducible refine (HS1.out _).mono ?_); rintro e w1 ⟨rfl, rfl⟩)
        | (go_at_call 18; refine (lalive_any _).mono ?_; rintro e w3 ⟨rfl, hb3⟩))
      go_ret
      exact ⟨rfl, hb3⟩
  · have hk : sizeF n 11 = 0 := by
      unfold sizeF
      rw [decide_eq_false h1]
      simp
    have HS1 := fun W => size_any n 11 W
    rw [hk] at HS1
    have h1' : n < 1 := by omega
    have HS1 := Lib.hid HS1
    clear hk
    go_enter Try.func9, Try.ntmps9
    go_wp2_with (first
      | (go_at_call 21; (with_reducible refine (HS1.out _).mono ?_); rintro e w1 ⟨rfl, rfl⟩)
      | (go_at_call 18; refine (lalive_any _).mono ?_; rintro e w3 ⟨rfl, hb3⟩))
    go_ret
    exact ⟨rfl, hb3⟩

set_option maxRecDepth 100000 in
set_option maxHeartbeats 1600000 in
theorem sizes_15 (n : Int) (w : World) : Calls Try.prog 9 #[.int .i64 n, .int .i64 15] w fun e w' => e = .returned (.bool true) ∧ Below w.heap.size w w' := by
  by_cases h1 : 1 ≤ n
  · by_cases h2 : n ≤ 23
    · have hk : sizeF n 15 = (n * 16 + 7) / 8 := by
        unfold sizeF
        rw [show okW 15 = true from rfl, decide_eq_true h1, decide_eq_true h2]
        rfl
      have hm : sizeF (n - 1) 15 < (n * 16 + 7) / 8 := by
        unfold sizeF
        split <;> omega
      have hm0 : 0 ≤ sizeF (n - 1) 15 := by
        unfold sizeF
        split
        · rename_i h
          simp at h
          omega
        · omega
      have HS1 := fun W => size_any n 15 W
      have HS2 := fun W => size_any (n - 1) 15 W
      rw [hk] at HS1
      generalize hkk : (n * 16 + 7) / 8 = k at *
      generalize sizeF (n - 1) 15 = m at *
      have HS1 := Lib.hid HS1
      have HS2 := Lib.hid HS2
      have g1 : n * 16 ≤ 8 * k := by omega
      have g2 : 8 * k < n * 16 + 8 := by omega
      have g0 : (k == 0) = false := by simp; omega
      have h1' : ¬ n < 1 := by omega
      have h2' : ¬ 23 < n := by omega
      have g3 : k ≤ 60 := by omega
      clear hk hkk
      go_enter Try.func9, Try.ntmps9
      go_wp2_with (first
        | (go_at_call 21; (with_reducible refine (HS1.out _).mono ?_); rintro e w1 ⟨rfl, rfl⟩)
        | (go_at_call 21; (with_reducible refine (HS2.out _).mono ?_); rintro e w2 ⟨rfl, rfl⟩)
        | (go_at_call 18; refine (lalive_any _).mono ?_; rintro e w3 ⟨rfl, hb3⟩))
      go_ret
      exact ⟨rfl, hb3⟩
    · have hk : sizeF n 15 = 0 := by
        unfold sizeF
        rw [decide_eq_false h2]
        simp
      have HS1 := fun W => size_any n 15 W
      rw [hk] at HS1
      have h1' : ¬ n < 1 := by omega
      have h2' : 23 < n := by omega
      have HS1 := Lib.hid HS1
      clear hk
      go_enter Try.func9, Try.ntmps9
      go_wp2_with (first
        | (go_at_call 21; (with_reducible refine (HS1.out _).mono ?_); rintro e w1 ⟨rfl, rfl⟩)
        | (go_at_call 18; refine (lalive_any _).mono ?_; rintro e w3 ⟨rfl, hb3⟩))
      go_ret
      exact ⟨rfl, hb3⟩
  · have hk : sizeF n 15 = 0 := by
      unfold sizeF
      rw [decide_eq_false h1]
      simp
    have HS1 := fun W => size_any n 15 W
    rw [hk] at HS1
    have h1' : n < 1 := by omega
    have HS1 := Lib.hid HS1
    clear hk
    go_enter Try.func9, Try.ntmps9
    go_wp2_with (first
      | (go_at_call 21; (with_reducible refine (HS1.out _).mono ?_); rintro e w1 ⟨rfl, rfl⟩)
      | (go_at_call 18; refine (lalive_any _).mono ?_; rintro e w3 ⟨rfl, hb3⟩))
    go_ret
    exact ⟨rfl, hb3⟩

set_option maxRecDepth 100000 in
set_option maxHeartbeats 1600000 in
theorem sizes_all (n x : Int) (w : World) : Calls Try.prog 9 #[.int .i64 n, .int .i64 x] w fun e w' => e = .returned (.bool true) ∧ Below w.heap.size w w' := by
  cases hx : okW x
  · have hk : sizeF n x = 0 := by
      unfold sizeF
      rw [hx]
      simp
    obtain ⟨h1, h2⟩ := okW_not hx
    have h3 : (x != 11) = true := by simpa using h1
    have h4 : (x != 15) = true := by simpa using h2
    have HS1 := fun W => size_any n x W
    rw [hk] at HS1
    have HS1 := Lib.hid HS1
    clear hk hx h1 h2
    go_enter Try.func9, Try.ntmps9
    go_wp2_with (first
      | (go_at_call 21; (with_reducible refine (HS1.out _).mono ?_); rintro e w1 ⟨rfl, rfl⟩)
      | (go_at_call 18; refine (lalive_any _).mono ?_; rintro e w3 ⟨rfl, hb3⟩))
    go_ret
    exact ⟨rfl, hb3⟩
  · rcases okW_nat hx with rfl | rfl
    · exact sizes_11 n w
    · exact sizes_15 n w
end Go.Proofs.Ytcpjalkonfjgbaa
