/-
  Numbers that go round: what follows by arithmetic alone.
-/
import Derived.Test.YtjilmgbjbkidnaaSeqCalls
namespace Go.Proofs.Ytjilmgbjbkidnaa
open Go.RowKit

theorem mod_near {M x : Int} (h1 : -M < x) (h2 : x < M) : x % M = if 0 ≤ x then x else x + M := by
  split
  · exact Int.emod_eq_of_lt (by omega) h2
  · have : x % M = (x + M) % M := (Int.add_emod_right x M).symm
    rw [this]
    exact Int.emod_eq_of_lt (by omega) (by omega)

theorem rt_pos {b : Int} (hr : rt b = true) : 2 ≤ sz b ∧ sz b ≤ 65536 := by have := sz_cases hr; omega
theorem okn_mod {b : Int} (hr : rt b = true) (x : Int) : okn b (x % sz b) = true := by
  have h := rt_pos hr
  exact decide_eq_true ⟨Int.emod_nonneg _ (by omega), Int.emod_lt_of_pos _ (by omega)⟩
theorem go_ok {b n c : Int} (h : GoE b n c = 0) : rt b = true ∧ okn b n = true ∧ -65536 ≤ c ∧ c ≤ 65536 := by
  unfold GoE at h
  cases hq : rt b && [n].all (okn b)
  · rw [hq] at h
    have := flt_ne hq
    simp at h
    omega
  · rw [hq] at h
    rw [all1, Bool.and_eq_true] at hq
    refine ⟨hq.1, hq.2, ?_⟩
    by_cases hc : c < -65536 ∨ 65536 < c
    · simp [hc] at h
    · omega
theorem go_val {b n c : Int} (hr : rt b = true) (h1 : okn b n = true) (h2 : -65536 ≤ c) (h3 : c ≤ 65536) : GoE b n c = 0 ∧ GoV b n c = (n + c) % sz b := by
  have hq : (rt b && [n].all (okn b)) = true := by rw [all1, hr, h1]; rfl
  unfold GoE GoV
  rw [hq]
  simp only [if_true]
  rw [if_neg (by omega), if_neg (by omega)]
  exact ⟨rfl, rfl⟩
theorem go_zero {b n c : Int} (h : GoE b n c ≠ 0) : GoV b n c = 0 := by
  unfold GoE at h
  unfold GoV
  by_cases hq : (rt b && [n].all (okn b)) = true
  · rw [if_pos hq] at h ⊢
    by_cases hc : c < -65536 ∨ 65536 < c
    · rw [if_pos hc]
    · rw [if_neg hc] at h; exact absurd rfl h
  · rw [if_neg hq]
theorem far_val {b a c : Int} (hr : rt b = true) (h1 : okn b a = true) (h2 : okn b c = true) : flt b [a, c] = 0 ∧ FarV b a c = (c - a) % sz b := by
  have hq : [a, c].all (okn b) = true := by rw [all2, h1, h2]; rfl
  refine ⟨flt_ok hr hq, ?_⟩
  unfold FarV farV
  rw [hr, hq]
  rfl

/-- SeqnumBack's arithmetic -/
theorem back_math {b a c : Int} (h : GoE b a c = 0) : ∃ m x y : Int, GoV b a c = m ∧ okn b m = true ∧ GoE b m (-c) = 0 ∧ GoV b m (-c) = a ∧ flt b [a, m] = 0 ∧ FarV b a m = x ∧ flt b [m, a] = 0 ∧ FarV b m a = y ∧
    GoE b a x = 0 ∧ GoV b a x = m ∧ 0 ≤ x ∧ x ≤ 65536 ∧ 0 ≤ y ∧ y ≤ 65536 ∧ (x + y = sz b ∨ x = 0 ∧ y = 0 ∧ m = a ∧ sz b ≠ 0) := by
  obtain ⟨hr, h1, h2, h3⟩ := go_ok h
  obtain ⟨hz1, hz2⟩ := rt_pos hr
  obtain ⟨ha1, ha2⟩ := okn_true h1
  have hm := okn_mod hr (a + c)
  obtain ⟨hm1, hm2⟩ := okn_true hm
  obtain ⟨_, hv⟩ := go_val hr h1 h2 h3
  obtain ⟨g1, g2⟩ := go_val hr hm (c := -c) (by omega) (by omega)
  obtain ⟨f1, f2⟩ := far_val hr h1 hm
  obtain ⟨f3, f4⟩ := far_val hr hm h1
  have e2 : GoV b ((a + c) % sz b) (-c) = a := by
    rw [g2, Int.emod_add_emod, Int.add_neg_cancel_right]
    exact Int.emod_eq_of_lt ha1 ha2
  generalize hmm : (a + c) % sz b = m at *
  have n1 := mod_near (M := sz b) (x := m - a) (by omega) (by omega)
  have n2 := mod_near (M := sz b) (x := a - m) (by omega) (by omega)
  have hx : 0 ≤ FarV b a m ∧ FarV b a m ≤ 65536 := by
    rw [f2, n1]
    split <;> omega
  obtain ⟨g3, g4⟩ := go_val hr h1 (c := FarV b a m) (by omega) (by omega)
  have e4 : GoV b a (FarV b a m) = m := by
    rw [g4, f2, Int.add_emod_emod, show a + (m - a) = m by omega]
    exact Int.emod_eq_of_lt hm1 hm2
  refine ⟨m, FarV b a m, FarV b m a, hv, hm, g1, e2, f1, rfl, f3, rfl, g3, e4, hx.1, hx.2, ?_⟩
  rw [f2, f4, n1, n2]
  split <;> split <;> omega
end Go.Proofs.Ytjilmgbjbkidnaa
