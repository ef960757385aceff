/-
  Turning bits within sixteen side by side changes a sum: plain numbers, no program.
-/
import Derived.Test.YtcpjalkonfjgbaaCrc
namespace Go.Proofs.Ytcpjalkonfjgbaa

theorem mb_zero (b : Nat) : mb b 0 = Tn 8 b := by unfold mb; rw [Nat.mul_zero, Nat.xor_zero]
theorem more_split {l : List Nat} : ∀ {a b : Nat}, a < 65536 → b < 65536 → (∀ x ∈ l, x < 256) → more (a ^^^ b) l = more a l ^^^ Tn (8 * l.length) b := by
  induction l with
  | nil => intro a b _ _ _; rfl
  | cons x l ih =>
    intro a b ha hb hl
    have hx := hl x (List.mem_cons_self ..)
    show more (mb (a ^^^ b) x) l = more (mb a x) l ^^^ _
    have h1 := mb_xor ha hb hx (show 0 < 256 by omega)
    rw [Nat.xor_zero, mb_zero] at h1
    rw [h1, ih (mb_lt ha hx) (Tn_lt 8 hb) (fun y hy => hl y (List.mem_cons_of_mem _ hy)), ← Tn_add, List.length_cons]
    rfl
theorem pow_lt16 {i : Nat} (h : i ≤ 15) : 2 ^ (15 - i) < 65536 := Nat.lt_of_le_of_lt (Nat.pow_le_pow_right (by omega) (show 15 - i ≤ 15 by omega)) (by decide)
theorem Tn_up {i : Nat} (h : i ≤ 15) : Tn i (2 ^ (15 - i)) = 32768 := by
  have e : 2 ^ (15 - i) * 2 ^ i = 32768 := by rw [← Nat.pow_add, show 15 - i + i = 15 by omega]
  rw [Tn_small (by omega), e]

/-- a bit turned in a list of bytes -/
def flip (c : List Nat) (q : Nat) : List Nat := c.set (q / 8) (c.getD (q / 8) 0 ^^^ (128 / 2 ^ (q % 8)))
theorem length_flip (c : List Nat) (q : Nat) : (flip c q).length = c.length := List.length_set ..
theorem bit_small (r : Nat) (h : r < 8) : 128 / 2 ^ r = 2 ^ (7 - r) ∧ 128 / 2 ^ r < 256 ∧ 256 * (128 / 2 ^ r) = 2 ^ (15 - r) := by
  obtain rfl | rfl | rfl | rfl | rfl | rfl | rfl | rfl : r = 0 ∨ r = 1 ∨ r = 2 ∨ r = 3 ∨ r = 4 ∨ r = 5 ∨ r = 6 ∨ r = 7 := by omega
  all_goals decide
theorem flip_lt {c : List Nat} {q : Nat} (h : ∀ x ∈ c, x < 256) : ∀ x ∈ flip c q, x < 256 := by
  intro x hx
  rcases List.mem_or_eq_of_mem_set hx with h1 | rfl
  · exact h x h1
  · refine xor_lt8 ?_ (bit_small _ (Nat.mod_lt _ (by omega))).2.1
    by_cases hq : q / 8 < c.length
    · rw [List.getD_eq_getElem?_getD, List.getElem?_eq_getElem hq]
      exact h _ (List.getElem_mem hq)
    · rw [List.getD_eq_getElem?_getD, List.getElem?_eq_none (by omega)]
      decide
theorem more_flip {s : Nat} {c : List Nat} {q : Nat} (hs : s < 65536) (h : ∀ x ∈ c, x < 256) (hq : q < 8 * c.length) : more s (flip c q) = more s c ^^^ Tn (8 * c.length - q) 32768 := by
  have hk : q / 8 < c.length := by omega
  have hr : q % 8 < 8 := Nat.mod_lt _ (by omega)
  obtain ⟨hb1, hb2, hb3⟩ := bit_small _ hr
  have e0 : c = c.take (q / 8) ++ c[q / 8] :: c.drop (q / 8 + 1) := by rw [← List.drop_eq_getElem_cons hk, List.take_append_drop]
  have e1 : flip c q = c.take (q / 8) ++ (c[q / 8] ^^^ (128 / 2 ^ (q % 8))) :: c.drop (q / 8 + 1) := by
    unfold flip
    rw [List.set_eq_take_append_cons_drop, if_pos hk, List.getD_eq_getElem?_getD, List.getElem?_eq_getElem hk]
    rfl
  have hx : c[q / 8] < 256 := h _ (List.getElem_mem hk)
  have h1 : ∀ y ∈ c.take (q / 8), y < 256 := fun y hy => h y (List.mem_of_mem_take hy)
  have h2 : ∀ y ∈ c.drop (q / 8 + 1), y < 256 := fun y hy => h y (List.mem_of_mem_drop hy)
  have hl : (c.drop (q / 8 + 1)).length = c.length - (q / 8 + 1) := List.length_drop ..
  have em : more s c = more (mb (more s (c.take (q / 8))) c[q / 8]) (c.drop (q / 8 + 1)) := by
    have h5 := more_append s (c.take (q / 8)) (c[q / 8] :: c.drop (q / 8 + 1))
    rw [← e0] at h5
    exact h5
  have em2 : more s (flip c q) = more (mb (more s (c.take (q / 8))) (c[q / 8] ^^^ (128 / 2 ^ (q % 8)))) (c.drop (q / 8 + 1)) := by
    rw [e1, more_append]
    rfl
  have hS := more_lt hs h1
  rw [em, em2]
  generalize more s (c.take (q / 8)) = S at *
  generalize c[q / 8] = x at *
  have h3 := mb_xor hS (show 0 < 65536 by omega) hx hb2
  rw [Nat.xor_zero] at h3
  have h4 : mb 0 (128 / 2 ^ (q % 8)) = Tn 8 (2 ^ (15 - q % 8)) := by unfold mb; rw [Nat.zero_xor, hb3]
  have hp := pow_lt16 (i := q % 8) (by omega)
  rw [h3, h4, more_split (mb_lt hS hx) (Tn_lt 8 hp) h2, hl, ← Tn_add]
  congr 1
  rw [show 8 * (c.length - (q / 8 + 1)) + 8 = (8 * c.length - q) + q % 8 by omega, Tn_add, Tn_up (by omega)]

/-- the first m bits of a pattern, the other way round -/
def rev (p : Nat) : Nat → Nat
  | 0 => 0
  | m + 1 => if p / 2 ^ m % 2 = 1 then rev p m ^^^ 2 ^ (15 - m) else rev p m
theorem rev_lt (p m : Nat) : rev p m < 65536 := by
  induction m with
  | zero => exact Nat.zero_lt_succ _
  | succ m ih =>
    unfold rev
    split
    · refine xor_lt' ih ?_
      exact Nat.lt_of_le_of_lt (Nat.pow_le_pow_right (by omega) (show 15 - m ≤ 15 by omega)) (by decide)
    · exact ih
theorem rev_bit (p m i : Nat) (hm : m ≤ 16) (hi : i < 16) : (rev p m).testBit (15 - i) = (decide (i < m) && (p / 2 ^ i % 2 == 1)) := by
  induction m with
  | zero => simp [rev]
  | succ m ih =>
    have ih := ih (by omega)
    unfold rev
    by_cases he : i = m
    · subst he
      have h0 : (rev p i).testBit (15 - i) = false := by rw [ih]; simp
      split
      · rename_i h
        rw [Nat.testBit_xor, h0, Nat.testBit_two_pow_self, h]
        simp
      · rename_i h
        rw [h0]
        have h1 : (p / 2 ^ i % 2 == 1) = false := by simpa using h
        rw [h1]
        simp
    · have h2 : decide (i < m + 1) = decide (i < m) := by
        apply decide_eq_decide.2
        omega
      rw [h2, ← ih]
      split
      · rw [Nat.testBit_xor, Nat.testBit_two_pow_of_ne (by omega), Bool.xor_false]
      · rfl
theorem rev_pos {p : Nat} (h0 : p ≠ 0) (h : p < 65536) : rev p 16 ≠ 0 := by
  intro he
  apply h0
  apply Nat.eq_of_testBit_eq
  intro i
  rw [Nat.zero_testBit]
  by_cases hi : i < 16
  · have h1 := rev_bit p 16 i (by omega) hi
    rw [he, Nat.zero_testBit] at h1
    have h2 : (p / 2 ^ i % 2 == 1) = false := by simpa [hi] using h1.symm
    rw [Nat.testBit_eq_decide_div_mod_eq]
    simpa using h2
  · exact Nat.testBit_lt_two_pow (Nat.lt_of_lt_of_le h (Nat.pow_le_pow_right (n := 2) (by omega) (show 16 ≤ i by omega)))

/-- the first m bits of a pattern turned, from bit at on -/
def turned (c : List Nat) (at' p : Nat) : Nat → List Nat
  | 0 => c
  | m + 1 => if p / 2 ^ m % 2 = 1 then flip (turned c at' p m) (at' + m) else turned c at' p m
theorem length_turned (c : List Nat) (a p m : Nat) : (turned c a p m).length = c.length := by
  induction m with
  | zero => rfl
  | succ m ih => unfold turned; split <;> simp [length_flip, ih]
theorem turned_lt {c : List Nat} (a p m : Nat) (h : ∀ x ∈ c, x < 256) : ∀ x ∈ turned c a p m, x < 256 := by
  induction m with
  | zero => exact h
  | succ m ih => unfold turned; split; exact flip_lt ih; exact ih
theorem more_turned {s : Nat} {c : List Nat} {a p m : Nat} (hs : s < 65536) (h : ∀ x ∈ c, x < 256) (hm : m ≤ 16) (ha : a + 16 ≤ 8 * c.length) : more s (turned c a p m) = more s c ^^^ Tn (8 * c.length - a) (rev p m) := by
  induction m with
  | zero => show _ = _ ^^^ Tn _ 0; rw [Tn_zero, Nat.xor_zero]; rfl
  | succ m ih =>
    have ih := ih (by omega)
    unfold turned rev
    split
    · rw [more_flip hs (turned_lt a p m h) (by rw [length_turned]; omega), ih, length_turned, Tn_xor _ (rev_lt p m) (pow_lt16 (by omega)),
        show 8 * c.length - a = (8 * c.length - (a + m)) + m by omega, Tn_add _ m (2 ^ (15 - m)), Tn_up (by omega), Nat.xor_assoc]
    · exact ih
/-- a burst is told -/
theorem burst {s : Nat} {c : List Nat} {a p : Nat} (hs : s < 65536) (h : ∀ x ∈ c, x < 256) (ha : a + 16 ≤ 8 * c.length) (h0 : p ≠ 0) (hp : p < 65536) (hc : more s c = 0) : more s (turned c a p 16) ≠ 0 := by
  rw [more_turned hs h (by omega) ha, hc, Nat.zero_xor]
  intro h1
  exact rev_pos h0 hp (Tn_inj _ (rev_lt p 16) h1)
end Go.Proofs.Ytcpjalkonfjgbaa
