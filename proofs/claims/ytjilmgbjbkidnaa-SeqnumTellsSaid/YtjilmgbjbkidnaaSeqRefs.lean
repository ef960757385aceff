/-
  What the document's own answers for seqnum tell: Go, Far, In, Between.
-/
import Derived.Test.YtjilmgbjbkidnaaSeqRef
import Derived.Test.YtjilmgbjbkidnaaSeqBet
import Derived.Deep.AppendLies
import Derived.Maps.AppendAt
namespace Go.Proofs.Ytjilmgbjbkidnaa
open Go.RowKit

set_option maxHeartbeats 800000 in
theorem rgo_any (b n c : Int) (w : World) :
    Calls Try.prog 28 #[.int .i64 b, .int .i64 n, .int .i64 c] w fun e w' => e = .returned (.tuple #[.int .i64 (GoV b n c), .int .i64 (GoE b n c)]) ∧ w = w' := by
  cases hr : rt b
  · have hv : GoV b n c = 0 := by unfold GoV; rw [hr]; rfl
    have he : GoE b n c = 3 := by unfold GoE flt; rw [hr]; rfl
    have hz := sz_zero hr
    rw [hv, he]
    clear hr hv he
    go_enter Try.func28, Try.ntmps28
    go_wp2_with (go_at_call 36; refine (rsize_any _ _).mono ?_; rintro e w1 ⟨rfl, rfl⟩)
    go_ret2
    exact ⟨rfl, rfl⟩
  · obtain ⟨hz1, hz2⟩ := rt_pos hr
    have hz0 : (sz b == 0) = false := by simp; omega
    cases ho : okn b n
    · have hv : GoV b n c = 0 := by unfold GoV; rw [all1, ho, Bool.and_false]; rfl
      have he : GoE b n c = 1 := by unfold GoE flt; rw [all1, ho, hr]; rfl
      rw [hv, he]
      clear hr hv he
      go_enter Try.func28, Try.ntmps28
      go_wp2_with (first
        | (go_at_call 36; refine (rsize_any _ _).mono ?_; rintro e w1 ⟨rfl, rfl⟩)
        | (go_at_call 38; refine (ris_any _ _ _).mono ?_; rintro e w1 ⟨rfl, rfl⟩))
      go_ret2
      exact ⟨rfl, rfl⟩
    · by_cases hc : c < -65536 ∨ 65536 < c
      · have hv : GoV b n c = 0 := by unfold GoV; rw [all1, ho, hr]; simp [hc]
        have he : GoE b n c = 1 := by unfold GoE; rw [all1, ho, hr]; simp [hc]
        rw [hv, he]
        clear hr hv he
        by_cases hc1 : c < -65536
        · clear hc
          go_enter Try.func28, Try.ntmps28
          go_wp2_with (first
            | (go_at_call 36; refine (rsize_any _ _).mono ?_; rintro e w1 ⟨rfl, rfl⟩)
            | (go_at_call 38; refine (ris_any _ _ _).mono ?_; rintro e w1 ⟨rfl, rfl⟩))
          go_ret2
          exact ⟨rfl, rfl⟩
        · have hc2 : 65536 < c := by omega
          clear hc
          go_enter Try.func28, Try.ntmps28
          go_wp2_with (first
            | (go_at_call 36; refine (rsize_any _ _).mono ?_; rintro e w1 ⟨rfl, rfl⟩)
            | (go_at_call 38; refine (ris_any _ _ _).mono ?_; rintro e w1 ⟨rfl, rfl⟩))
          go_ret2
          exact ⟨rfl, rfl⟩
      · have hc1 : -65536 ≤ c := by omega
        have hc2 : c ≤ 65536 := by omega
        clear hc
        obtain ⟨he, hv⟩ := go_val hr ho hc1 hc2
        obtain ⟨hn1, hn2⟩ := okn_true ho
        rw [hv, he]
        clear hr hv he
        go_enter Try.func28, Try.ntmps28
        go_wp2_with (first
          | (go_at_call 36; refine (rsize_any _ _).mono ?_; rintro e w1 ⟨rfl, rfl⟩)
          | (go_at_call 38; refine (ris_any _ _ _).mono ?_; rintro e w1 ⟨rfl, rfl⟩)
          | (go_at_call 48; refine (rmod_any _ _ _ (by omega) (by omega) (by omega) (by omega)).mono ?_; rintro e w1 ⟨rfl, rfl⟩))
        go_ret2
        exact ⟨rfl, rfl⟩

set_option maxHeartbeats 800000 in
theorem rfar_any (b a c : Int) (w : World) :
    Calls Try.prog 30 #[.int .i64 b, .int .i64 a, .int .i64 c] w fun e w' => e = .returned (.tuple #[.int .i64 (FarV b a c), .int .i64 (flt b [a, c])]) ∧ w = w' := by
  cases hr : rt b
  · have hv : FarV b a c = 0 := by unfold FarV; rw [hr]; rfl
    have he : flt b [a, c] = 3 := by unfold flt; rw [hr]; rfl
    have hz := sz_zero hr
    rw [hv, he]
    clear hr hv he
    go_enter Try.func30, Try.ntmps30
    go_wp2_with (go_at_call 36; refine (rsize_any _ _).mono ?_; rintro e w1 ⟨rfl, rfl⟩)
    go_ret2
    exact ⟨rfl, rfl⟩
  · obtain ⟨hz1, hz2⟩ := rt_pos hr
    have hz0 : (sz b == 0) = false := by simp; omega
    cases ho : okn b a
    · have hv : FarV b a c = 0 := by unfold FarV; rw [all2, ho, Bool.false_and, Bool.and_false]; rfl
      have he : flt b [a, c] = 1 := by unfold flt; rw [all2, ho, hr]; rfl
      rw [hv, he]
      clear hr hv he
      go_enter Try.func30, Try.ntmps30
      go_wp2_with (first
        | (go_at_call 36; refine (rsize_any _ _).mono ?_; rintro e w1 ⟨rfl, rfl⟩)
        | (go_at_call 38; refine (ris_any _ _ _).mono ?_; rintro e w1 ⟨rfl, rfl⟩))
      go_ret2
      exact ⟨rfl, rfl⟩
    · cases ho2 : okn b c
      · have hv : FarV b a c = 0 := by unfold FarV; rw [all2, ho2, Bool.and_false, Bool.and_false]; rfl
        have he : flt b [a, c] = 1 := by unfold flt; rw [all2, ho, ho2, hr]; rfl
        rw [hv, he]
        clear hr hv he
        go_enter Try.func30, Try.ntmps30
        go_wp2_with (first
          | (go_at_call 36; refine (rsize_any _ _).mono ?_; rintro e w1 ⟨rfl, rfl⟩)
          | (go_at_call 38; refine (ris_any _ _ _).mono ?_; rintro e w1 ⟨rfl, rfl⟩))
        go_ret2
        exact ⟨rfl, rfl⟩
      · obtain ⟨he, hv⟩ := far_val hr ho ho2
        obtain ⟨hn1, hn2⟩ := okn_true ho
        obtain ⟨hm1, hm2⟩ := okn_true ho2
        rw [hv, he]
        clear hr hv he
        go_enter Try.func30, Try.ntmps30
        go_wp2_with (first
          | (go_at_call 36; refine (rsize_any _ _).mono ?_; rintro e w1 ⟨rfl, rfl⟩)
          | (go_at_call 38; refine (ris_any _ _ _).mono ?_; rintro e w1 ⟨rfl, rfl⟩)
          | (go_at_call 48; refine (rmod_any _ _ _ (by omega) (by omega) (by omega) (by omega)).mono ?_; rintro e w1 ⟨rfl, rfl⟩))
        go_ret2
        exact ⟨rfl, rfl⟩

set_option maxHeartbeats 800000 in
theorem rin_any (b base size n : Int) (w : World) :
    Calls Try.prog 32 #[.int .i64 b, .int .i64 base, .int .i64 size, .int .i64 n] w fun e w' => e = .returned (.tuple #[.bool (InV b base size n), .int .i64 (InE b base size n)]) ∧ w = w' := by
  cases hq : rt b && [base, n].all (okn b)
  · have hv : InV b base size n = false := by unfold InV; rw [hq]; rfl
    have he : InE b base size n = flt b [base, n] := by unfold InE; rw [hq]; rfl
    have hn' : (flt b [base, n] != 0) = true := by have := flt_ne hq; simp; omega
    rw [hv, he]
    clear hv hq he
    go_enter Try.func32, Try.ntmps32
    go_wp2_with (go_at_call 30; refine (rfar_any _ _ _ _).mono ?_; rintro e w1 ⟨rfl, rfl⟩)
    go_ret2
    exact ⟨rfl, rfl⟩
  · have hv : InV b base size n = decide (1 ≤ size ∧ size ≤ sz b / 2 ∧ farV b base n < size) := by unfold InV; rw [hq]; rfl
    have he : InE b base size n = if size < 1 ∨ sz b / 2 < size then 1 else 0 := by unfold InE; rw [hq]; rfl
    have hF : FarV b base n = farV b base n := by unfold FarV; rw [hq]; rfl
    rw [all2, Bool.and_eq_true, Bool.and_eq_true] at hq
    obtain ⟨hr, h1, h2⟩ := hq
    have hf : flt b [base, n] = 0 := flt_ok hr (by rw [all2, h1, h2]; rfl)
    obtain ⟨hz1, hz2⟩ := sz_bd b
    rw [hv, he]
    clear hv he hr h1 h2
    by_cases c1 : size < 1
    · rw [if_pos (Or.inl c1), decide_eq_false (by omega)]
      go_enter Try.func32, Try.ntmps32
      go_wp2_with (go_at_call 30; refine (rfar_any _ _ _ _).mono ?_; rintro e w1 ⟨rfl, rfl⟩)
      go_ret2
      exact ⟨rfl, rfl⟩
    · by_cases c2 : sz b / 2 < size
      · rw [if_pos (Or.inr c2), decide_eq_false (by omega)]
        go_enter Try.func32, Try.ntmps32
        go_wp2_with (first
          | (go_at_call 30; refine (rfar_any _ _ _ _).mono ?_; rintro e w1 ⟨rfl, rfl⟩)
          | (go_at_call 36; refine (rsize_any _ _).mono ?_; rintro e w1 ⟨rfl, rfl⟩))
        go_ret2
        exact ⟨rfl, rfl⟩
      · have hd : decide (1 ≤ size ∧ size ≤ sz b / 2 ∧ farV b base n < size) = decide (farV b base n < size) := by
          rw [decide_eq_decide]; omega
        rw [if_neg (by omega), hd]
        clear hd
        go_enter Try.func32, Try.ntmps32
        go_wp2_with (first
          | (go_at_call 30; refine (rfar_any _ _ _ _).mono ?_; rintro e w1 ⟨rfl, rfl⟩)
          | (go_at_call 36; refine (rsize_any _ _).mono ?_; rintro e w1 ⟨rfl, rfl⟩))
        go_ret2
        exact ⟨rfl, rfl⟩
end Go.Proofs.Ytjilmgbjbkidnaa
