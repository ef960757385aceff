/-
  The sum of sixteen bits as a number: it is linear, a sum behind its own bytes is 0, and a burst of sixteen bits changes it. Plain numbers, no program.
-/
import Derived.Test.YtcpjalkonfjgbaaBitMath
namespace Go.Proofs.Ytcpjalkonfjgbaa

/-- one bit further -/
def T (s : Nat) : Nat := (2 * s % 65536) ^^^ (s / 32768 * 4129)
def Tn : Nat → Nat → Nat
  | 0, s => s
  | n + 1, s => T (Tn n s)
/-- one byte further -/
def mb (s x : Nat) : Nat := Tn 8 (s ^^^ (256 * x))
def more (s : Nat) (l : List Nat) : Nat := l.foldl mb s

theorem T_lt {s : Nat} (h : s < 65536) : T s < 65536 := by
  unfold T
  have h1 : s / 32768 * 4129 < 2 ^ 16 := by
    have : s / 32768 ≤ 1 := by omega
    have := Nat.mul_le_mul_right 4129 this
    omega
  exact Nat.xor_lt_two_pow (n := 16) (by omega) h1
theorem Tn_lt {s : Nat} (n : Nat) (h : s < 65536) : Tn n s < 65536 := by
  induction n with
  | zero => exact h
  | succ n ih => exact T_lt ih
theorem two_xor (a b : Nat) : 2 * (a ^^^ b) = 2 * a ^^^ 2 * b := by
  have h := Nat.shiftLeft_xor_distrib (a := a) (b := b) (i := 1)
  simpa [Nat.shiftLeft_eq, Nat.mul_comm] using h
theorem mul_pow_xor (a b k : Nat) : (a ^^^ b) * 2 ^ k = a * 2 ^ k ^^^ b * 2 ^ k := by
  have h := Nat.shiftLeft_xor_distrib (a := a) (b := b) (i := k)
  simpa [Nat.shiftLeft_eq] using h
theorem top_xor (a b : Nat) (ha : a < 65536) (hb : b < 65536) : (a ^^^ b) / 32768 * 4129 = (a / 32768 * 4129) ^^^ (b / 32768 * 4129) := by
  have h : (a ^^^ b) / 32768 = (a / 32768) ^^^ (b / 32768) := by
    have h := Nat.shiftRight_xor_distrib (a := a) (b := b) (i := 15)
    simpa [Nat.shiftRight_eq_div_pow] using h
  rw [h]
  have h1 : a / 32768 = 0 ∨ a / 32768 = 1 := by omega
  have h2 : b / 32768 = 0 ∨ b / 32768 = 1 := by omega
  rcases h1 with h1 | h1 <;> rcases h2 with h2 | h2 <;> rw [h1, h2] <;> rfl
theorem T_xor {a b : Nat} (ha : a < 65536) (hb : b < 65536) : T (a ^^^ b) = T a ^^^ T b := by
  unfold T
  rw [top_xor a b ha hb, two_xor]
  have h := Nat.xor_mod_two_pow (a := 2 * a) (b := 2 * b) (n := 16)
  rw [show (65536 : Nat) = 2 ^ 16 from rfl, h]
  ac_rfl
theorem xor_lt' {a b : Nat} (ha : a < 65536) (hb : b < 65536) : a ^^^ b < 65536 := Nat.xor_lt_two_pow (n := 16) ha hb
theorem Tn_xor {a b : Nat} (n : Nat) (ha : a < 65536) (hb : b < 65536) : Tn n (a ^^^ b) = Tn n a ^^^ Tn n b := by
  induction n with
  | zero => rfl
  | succ n ih => rw [Tn, Tn, Tn, ih, T_xor (Tn_lt n ha) (Tn_lt n hb)]
theorem Tn_add (n m s : Nat) : Tn (n + m) s = Tn n (Tn m s) := by
  induction n with
  | zero => rw [Nat.zero_add]; rfl
  | succ n ih => rw [Nat.succ_add, Tn, ih]; rfl
theorem T_zero : T 0 = 0 := by decide
theorem Tn_zero (n : Nat) : Tn n 0 = 0 := by
  induction n with
  | zero => rfl
  | succ n ih => rw [Tn, ih, T_zero]
theorem xor_zero_eq {a b : Nat} (h : a ^^^ b = 0) : a = b := by
  have h1 : (a ^^^ b) ^^^ b = b := by rw [h, Nat.zero_xor]
  rwa [Nat.xor_assoc, Nat.xor_self, Nat.xor_zero] at h1
theorem T_inj {s : Nat} (h : s < 65536) (h0 : T s = 0) : s = 0 := by
  unfold T at h0
  have h1 : s / 32768 = 0 ∨ s / 32768 = 1 := by omega
  rcases h1 with h1 | h1
  · rw [h1, Nat.zero_mul, Nat.xor_zero] at h0
    omega
  · exfalso
    rw [h1, Nat.one_mul] at h0
    have h2 := xor_zero_eq h0
    omega
theorem Tn_inj {s : Nat} (n : Nat) (h : s < 65536) (h0 : Tn n s = 0) : s = 0 := by
  induction n with
  | zero => exact h0
  | succ n ih => exact ih (T_inj (Tn_lt n h) h0)
/-- nothing falls out -/
theorem T_small {s : Nat} (h : s < 32768) : T s = s * 2 := by
  unfold T
  rw [show s / 32768 = 0 by omega, Nat.zero_mul, Nat.xor_zero]
  omega
theorem Tn_small {s n : Nat} (h : s * 2 ^ n < 65536) : Tn n s = s * 2 ^ n := by
  induction n with
  | zero => simp [Tn]
  | succ n ih =>
    have e : s * 2 ^ (n + 1) = s * 2 ^ n * 2 := by rw [Nat.pow_succ, Nat.mul_assoc]
    have h1 : s * 2 ^ n < 32768 := by omega
    rw [Tn, ih (by omega), T_small h1, e]

theorem mb_lt {s x : Nat} (hs : s < 65536) (hx : x < 256) : mb s x < 65536 := Tn_lt 8 (xor_lt' hs (by omega))
theorem more_lt {l : List Nat} : ∀ {s : Nat}, s < 65536 → (∀ x ∈ l, x < 256) → more s l < 65536 := by
  induction l with
  | nil => intro s hs _; exact hs
  | cons a l ih =>
    intro s hs hl
    exact ih (mb_lt hs (hl a (List.mem_cons_self ..))) fun x hx => hl x (List.mem_cons_of_mem _ hx)
theorem more_append (s : Nat) (l m : List Nat) : more s (l ++ m) = more (more s l) m := List.foldl_append ..
theorem more_snoc (s : Nat) (l : List Nat) (x : Nat) : more s (l ++ [x]) = mb (more s l) x := by rw [more_append]; rfl
theorem mb_xor {s t x y : Nat} (hs : s < 65536) (ht : t < 65536) (hx : x < 256) (hy : y < 256) : mb (s ^^^ t) (x ^^^ y) = mb s x ^^^ mb t y := by
  unfold mb
  rw [← Tn_xor 8 (xor_lt' hs (by omega)) (xor_lt' ht (by omega))]
  congr 1
  have h := Nat.shiftLeft_xor_distrib (a := x) (b := y) (i := 8)
  simp only [Nat.shiftLeft_eq, show (2 : Nat) ^ 8 = 256 from rfl] at h
  rw [Nat.mul_comm 256, h, Nat.mul_comm x, Nat.mul_comm y]
  ac_rfl
theorem xor_lt8 {a b : Nat} (ha : a < 256) (hb : b < 256) : a ^^^ b < 256 := Nat.xor_lt_two_pow (n := 8) ha hb
theorem more_xor {l m : List Nat} : ∀ {s t : Nat}, s < 65536 → t < 65536 → l.length = m.length → (∀ x ∈ l, x < 256) → (∀ x ∈ m, x < 256) →
    more (s ^^^ t) (List.zipWith (· ^^^ ·) l m) = more s l ^^^ more t m := by
  induction l generalizing m with
  | nil => intro s t _ _ h _ _; cases m; rfl; cases h
  | cons a l ih =>
    intro s t hs ht h hl hm
    cases m with
    | nil => cases h
    | cons b m =>
      have ha := hl a (List.mem_cons_self ..)
      have hb := hm b (List.mem_cons_self ..)
      show more (mb (s ^^^ t) (a ^^^ b)) (List.zipWith (· ^^^ ·) l m) = more (mb s a) l ^^^ more (mb t b) m
      rw [mb_xor hs ht ha hb]
      exact ih (mb_lt hs ha) (mb_lt ht hb) (by simpa using h) (fun x hx => hl x (List.mem_cons_of_mem _ hx)) (fun x hx => hm x (List.mem_cons_of_mem _ hx))
theorem more_zeros (n : Nat) (s : Nat) : more s (List.replicate n 0) = Tn (8 * n) s := by
  induction n generalizing s with
  | zero => rfl
  | succ n ih =>
    rw [List.replicate_succ]
    show more (mb s 0) (List.replicate n 0) = _
    rw [ih, mb, Nat.mul_zero, Nat.xor_zero, ← Tn_add]
    rfl

/-- a sum, with its own two bytes behind, is 0 -/
theorem more_own {s : Nat} (_ : s < 65536) : more s [s / 256, s % 256] = 0 := by
  show mb (mb s (s / 256)) (s % 256) = 0
  unfold mb
  have e1 : s ^^^ 256 * (s / 256) = s % 256 := by
    have h := Nat.div_add_mod s 256
    have h2 : 256 * (s / 256) + s % 256 = 256 * (s / 256) ^^^ s % 256 := by
      have h3 := Nat.two_pow_add_eq_or_of_lt (i := 8) (b := s % 256) (Nat.mod_lt _ (by omega)) (s / 256)
      apply Nat.eq_of_testBit_eq
      intro i
      rw [show (256 : Nat) = 2 ^ 8 from rfl] at *
      rw [h3, Nat.testBit_or, Nat.testBit_xor, Nat.testBit_two_pow_mul, Nat.testBit_mod_two_pow]
      by_cases hi : i < 8
      · simp [hi, Nat.not_le.2 hi]
      · simp [hi]
    have h4 : s = 256 * (s / 256) ^^^ s % 256 := by rw [← h2]; exact h.symm
    calc s ^^^ 256 * (s / 256) = (256 * (s / 256) ^^^ s % 256) ^^^ 256 * (s / 256) := by rw [← h4]
      _ = s % 256 ^^^ (256 * (s / 256) ^^^ 256 * (s / 256)) := by ac_rfl
      _ = s % 256 := by rw [Nat.xor_self, Nat.xor_zero]
  rw [e1, Tn_small (n := 8) (s := s % 256) (by omega), show (2 : Nat) ^ 8 = 256 from rfl, Nat.mul_comm 256, Nat.xor_self, Tn_zero]
/-- what ends with two bytes has the sum 0 just if these are the sum -/
theorem more_own_iff {s hi lo : Nat} (hs : s < 65536) (hh : hi < 256) (hl : lo < 256) : more s [hi, lo] = 0 ↔ s = 256 * hi + lo := by
  have e : (256 * hi + lo) / 256 = hi ∧ (256 * hi + lo) % 256 = lo := by omega
  constructor
  · intro h
    have h1 := more_own (s := 256 * hi + lo) (by omega)
    rw [e.1, e.2] at h1
    have h2 := more_xor (s := s) (t := 256 * hi + lo) (l := [hi, lo]) (m := [hi, lo]) hs (by omega) rfl (by simp; omega) (by simp; omega)
    rw [h, h1] at h2
    simp only [List.zipWith_cons_cons, List.zipWith_nil_left, Nat.xor_self] at h2
    rw [show [0, 0] = List.replicate 2 0 from rfl, more_zeros] at h2
    have h3 := Tn_inj _ (xor_lt' hs (by omega)) h2
    exact xor_zero_eq h3
  · rintro rfl
    have h1 := more_own (s := 256 * hi + lo) (by omega)
    rw [e.1, e.2] at h1
    exact h1
end Go.Proofs.Ytcpjalkonfjgbaa
