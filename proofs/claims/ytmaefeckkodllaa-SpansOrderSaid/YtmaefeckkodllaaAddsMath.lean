/-
  Plain facts on spans put in and taken out once: what is there, how many, what else is changed.
-/
import Derived.Test.YtmaefeckkodllaaSits
namespace Go.Proofs.Ytmaefeckkodllaa

theorem cnt_le (f : Nat → Bool) (n : Nat) : cnt f n ≤ n := by
  induction n with
  | zero => exact Nat.le_refl _
  | succ n ih => unfold cnt; split <;> omega
theorem count_bounds {L : List (Int × Int)} (h : Norm 0 L) : 0 ≤ countF L ∧ countF L ≤ 65536 := by
  rw [countF_cnt (N := 65536) (Int.le_refl 0) h (fun y hy => (h.mem hy).2.2)]
  have := cnt_le (insB L) 65536
  omega
section
variable {L : List (Int × Int)} {x y : Int × Int}
theorem add_norm (h : Norm 0 L) (hx : rightB x = true) : Norm 0 (addF x L) := by
  have := addO_norm (x := x) h
  unfold addO at this
  rw [if_pos hx] at this
  exact this
theorem add_ins (h : Norm 0 L) (hx : rightB x = true) (p : Int) : Ins p (addF x L) ↔ Ins p L ∨ (x.1 ≤ p ∧ p < x.2) := by
  rw [addF_eq h (rightB_iff.1 hx).2.2, addR_ins h (rightB_iff.1 hx).2.2]
theorem add_has (h : Norm 0 L) (hx : rightB x = true) : (hasF x (addF x L) && rightB x) = true := by
  rw [hx, Bool.and_true, hasF_iff (add_norm h hx) (rightB_iff.1 hx).2.2]
  intro p h1 h2
  rw [add_ins h hx]
  exact .inr ⟨h1, h2⟩
theorem add_twice (h : Norm 0 L) (hx : rightB x = true) : addF x (addF x L) = addF x L :=
  norm_unique (add_norm (add_norm h hx) hx) (add_norm h hx) fun p => by
    rw [add_ins (add_norm h hx) hx, add_ins h hx]
    constructor
    · rintro (h | h)
      · exact h
      · exact .inr h
    · exact .inl
theorem take_norm (h : Norm 0 L) (hx : rightB x = true) : Norm 0 (takeF x L) := takeF_norm (rightB_iff.1 hx).2.2 h
theorem take_tou (h : Norm 0 L) (hx : rightB x = true) : (touF x (takeF x L) && rightB x) = false := by
  rw [hx, Bool.and_true]
  cases hq : touF x (takeF x L)
  · rfl
  · exfalso
    obtain ⟨p, h1, h2, h3⟩ := (touF_iff (take_norm h hx) (rightB_iff.1 hx).2.2).1 hq
    exact ((takeF_ins (rightB_iff.1 hx).2.2).1 h3).2 ⟨h1, h2⟩
theorem has_of {M : List (Int × Int)} (h : Norm 0 L) (h' : Norm 0 M) (he : ∀ p, y.1 ≤ p → p < y.2 → (Ins p L ↔ Ins p M)) : (hasF y L && rightB y) = (hasF y M && rightB y) := by
  cases hy : rightB y
  · simp
  · rw [Bool.and_true, Bool.and_true, Bool.eq_iff_iff, hasF_iff h (rightB_iff.1 hy).2.2, hasF_iff h' (rightB_iff.1 hy).2.2]
    constructor
    · intro h1 p h2 h3; exact (he p h2 h3).1 (h1 p h2 h3)
    · intro h1 p h2 h3; exact (he p h2 h3).2 (h1 p h2 h3)
theorem tou_of {M : List (Int × Int)} (h : Norm 0 L) (h' : Norm 0 M) (he : ∀ p, y.1 ≤ p → p < y.2 → (Ins p L ↔ Ins p M)) : (touF y L && rightB y) = (touF y M && rightB y) := by
  cases hy : rightB y
  · simp
  · rw [Bool.and_true, Bool.and_true, Bool.eq_iff_iff, touF_iff h (rightB_iff.1 hy).2.2, touF_iff h' (rightB_iff.1 hy).2.2]
    constructor
    · rintro ⟨p, h2, h3, h4⟩; exact ⟨p, h2, h3, (he p h2 h3).1 h4⟩
    · rintro ⟨p, h2, h3, h4⟩; exact ⟨p, h2, h3, (he p h2 h3).2 h4⟩
theorem add_apart (h : Norm 0 L) (hx : rightB x = true) (ha : x.2 ≤ y.1 ∨ y.2 ≤ x.1) : ∀ p, y.1 ≤ p → p < y.2 → (Ins p (addF x L) ↔ Ins p L) := by
  intro p h1 h2
  rw [add_ins h hx]
  constructor
  · rintro (h3 | h3)
    · exact h3
    · omega
  · exact .inl
theorem take_apart (hx : rightB x = true) (ha : x.2 ≤ y.1 ∨ y.2 ≤ x.1) : ∀ p, y.1 ≤ p → p < y.2 → (Ins p (takeF x L) ↔ Ins p L) := by
  intro p h1 h2
  rw [takeF_ins (rightB_iff.1 hx).2.2]
  constructor
  · exact fun h => h.1
  · exact fun h => ⟨h, by omega⟩
theorem take_count (h : Norm 0 L) (hx : rightB x = true) (hh : ∀ p, x.1 ≤ p → p < x.2 → Ins p L) : countF L - countF (takeF x L) = x.2 - x.1 := by
  have hx' := rightB_iff.1 hx
  have h2 := take_norm h hx
  rw [countF_cnt (N := 65536) (Int.le_refl 0) h (fun y hy => (h.mem hy).2.2), countF_cnt (N := 65536) (Int.le_refl 0) h2 (fun y hy => (h2.mem hy).2.2)]
  have e : cnt (insB L) 65536 = cnt (fun p => decide (x.1 ≤ (p : Int) ∧ (p : Int) < x.2) || insB (takeF x L) p) 65536 := by
    refine cnt_congr fun p _ => ?_
    rw [Bool.eq_iff_iff, insB_iff, Bool.or_eq_true, decide_eq_true_iff, insB_iff, takeF_ins hx'.2.2]
    constructor
    · intro h3
      by_cases h4 : x.1 ≤ (p : Int) ∧ (p : Int) < x.2
      · exact .inl h4
      · exact .inr ⟨h3, h4⟩
    · rintro (h3 | h3)
      · exact hh _ h3.1 h3.2
      · exact h3.1
  rw [e, cnt_or]
  · have := cnt_span x.1 x.2 hx'.1 (by omega) 65536
    omega
  · rintro p _ ⟨h3, h4⟩
    rw [insB_iff, takeF_ins hx'.2.2] at h4
    exact h4.2 (of_decide_eq_true h3)
end
end Go.Proofs.Ytmaefeckkodllaa
