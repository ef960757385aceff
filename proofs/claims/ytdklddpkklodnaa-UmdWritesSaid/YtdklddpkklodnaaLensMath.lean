/-
  Lengths as bits: plain lists, no program.
-/
import Derived.Test.YtdklddpkklodnaaBitsRest
import Derived.Test.YtdklddpkklodnaaBackMath
namespace Go.Proofs.Ytdklddpkklodnaa

/-- the bits of lengths: each behind a bit that tells whether another one follows -/
def wbl (w : Nat) : List Nat → List Bool
  | [] => []
  | n :: r => (!r.isEmpty) :: (unval n w ++ wbl w r)
theorem length_wbl (w : Nat) (l : List Nat) : (wbl w l).length = l.length * (w + 1) := by
  induction l with
  | nil => simp [wbl]
  | cons n r ih => simp [wbl, ih, length_unval, Nat.add_mul]; omega
/-- .. of the first k -/
def wbk (w : Nat) (l : List Nat) : Nat → List Bool
  | 0 => []
  | k + 1 => wbk w l k ++ (decide (k + 1 < l.length) :: unval (l.getD k 0) w)
theorem length_wbk (w : Nat) (l : List Nat) (k : Nat) : (wbk w l k).length = k * (w + 1) := by
  induction k with
  | zero => simp [wbk]
  | succ k ih => simp [wbk, ih, length_unval, Nat.add_mul]
theorem wbk_wbl (w : Nat) (l : List Nat) (k : Nat) (h : k ≤ l.length) : wbk w l k ++ wbl w (l.drop k) = wbl w l := by
  induction k with
  | zero => simp [wbk]
  | succ k ih =>
    have h1 := ih (by omega)
    rw [List.drop_eq_getElem_cons (show k < l.length by omega)] at h1
    have e : (!(l.drop (k + 1)).isEmpty) = decide (k + 1 < l.length) := by
      rw [Bool.eq_iff_iff]
      simp
    rw [← h1, wbk, wbl, e, List.getD_eq_getElem?_getD, List.getElem?_eq_getElem (show k < l.length by omega), Option.getD_some]
    simp
theorem wbk_all (w : Nat) (l : List Nat) : wbk w l l.length = wbl w l := by
  have := wbk_wbl w l l.length (Nat.le_refl _)
  rwa [List.drop_length, wbl, List.append_nil] at this

/-- lengths read from bits, at most f: the lengths, how many bits, or why there are none -/
def prs (w : Nat) : Nat → List Bool → List Nat × Nat × Int
  | 0, _ => ([], 0, 2)
  | f + 1, y =>
    if y.length < w + 1 then ([], 0, 8)
    else if val ((y.drop 1).take w) = 0 then ([], 0, 3)
    else if y.getD 0 false then
      if (prs w f (y.drop (w + 1))).2.2 = 0 then (val ((y.drop 1).take w) :: (prs w f (y.drop (w + 1))).1, (prs w f (y.drop (w + 1))).2.1 + (w + 1), 0)
      else ([], 0, (prs w f (y.drop (w + 1))).2.2)
    else ([val ((y.drop 1).take w)], w + 1, 0)
/-- behind lengths that were read -/
def onto (w : Nat) (acc : List Nat) (r : List Nat × Nat × Int) : List Nat × Nat × Int := if r.2.2 = 0 then (acc ++ r.1, acc.length * (w + 1) + r.2.1, 0) else ([], 0, r.2.2)

theorem prs_ok (w : Nat) : ∀ (f : Nat) (y : List Bool), (prs w f y).2.2 = 0 → (prs w f y).1 ≠ [] ∧ (prs w f y).1.length ≤ f ∧ (∀ n ∈ (prs w f y).1, 1 ≤ n ∧ n < 2 ^ w) ∧ (prs w f y).2.1 = (prs w f y).1.length * (w + 1) ∧ (prs w f y).2.1 ≤ y.length ∧ y.take (prs w f y).2.1 = wbl w (prs w f y).1
  | 0, y, h => by simp [prs] at h
  | f + 1, y, h => by
    have hl := val_lt ((y.drop 1).take w)
    unfold prs at h ⊢
    split at h
    · simp at h
    · rename_i h1
      rw [if_neg h1]
      split at h
      · simp at h
      · rename_i h2
        rw [if_neg h2]
        have hlen : ((y.drop 1).take w).length = w := by rw [List.length_take, List.length_drop]; omega
        rw [hlen] at hl
        have hu : unval (val ((y.drop 1).take w)) w = (y.drop 1).take w := by
          have := unval_val ((y.drop 1).take w)
          rwa [hlen] at this
        obtain ⟨b, z, rfl⟩ : ∃ b z, y = b :: z := by
          cases y with
          | nil => simp at h1
          | cons b z => exact ⟨b, z, rfl⟩
        simp only [List.drop_succ_cons, List.drop_zero, List.getD_cons_zero, List.length_cons] at *
        cases b
        · simp only [Bool.false_eq_true, if_false] at h ⊢
          refine ⟨by simp, by simp, ?_, by simp, by omega, ?_⟩
          · intro n hn
            simp at hn
            subst hn
            omega
          · simp [wbl, hu]
        · simp only [if_true] at h ⊢
          split at h
          · rename_i h3
            rw [if_pos h3]
            obtain ⟨a1, a2, a3, a4, a5, a6⟩ := prs_ok w f (z.drop w) h3
            refine ⟨by simp, by simp; omega, ?_, by simp [a4, Nat.add_mul], by simp at a5 ⊢; omega, ?_⟩
            · intro n hn
              simp only [List.mem_cons] at hn
              rcases hn with rfl | hn
              · omega
              · exact a3 n hn
            · have e : (!(prs w f (z.drop w)).1.isEmpty) = true := by simpa using a1
              rw [wbl, e, hu, ← a6]
              rw [show (prs w f (z.drop w)).2.1 + (w + 1) = ((prs w f (z.drop w)).2.1 + w) + 1 by omega, List.take_succ_cons]
              congr 1
              rw [Nat.add_comm, List.take_add]
          · rename_i h3
            simp at h
            exact absurd h h3

theorem prs_wbl (w : Nat) : ∀ (f : Nat) (l : List Nat) (z : List Bool), l ≠ [] → l.length ≤ f → (∀ n ∈ l, 1 ≤ n ∧ n < 2 ^ w) → prs w f (wbl w l ++ z) = (l, l.length * (w + 1), 0)
  | 0, l, z, h0, hl, _ => by
    cases l with
    | nil => exact absurd rfl h0
    | cons => simp at hl
  | f + 1, [], z, h0, _, _ => absurd rfl h0
  | f + 1, n :: r, z, _, hl, hn => by
    have h1 := hn n (List.mem_cons_self ..)
    have e : wbl w (n :: r) ++ z = (!r.isEmpty) :: (unval n w ++ (wbl w r ++ z)) := by simp [wbl]
    have hv : val ((unval n w ++ (wbl w r ++ z)).take w) = n := by
      rw [List.take_append_of_le_length (by rw [length_unval]; exact Nat.le_refl _), List.take_of_length_le (by rw [length_unval]; exact Nat.le_refl _), val_unval, Nat.mod_eq_of_lt h1.2]
    have hd : (unval n w ++ (wbl w r ++ z)).drop w = wbl w r ++ z := by
      rw [List.drop_append_of_le_length (by rw [length_unval]; exact Nat.le_refl _), List.drop_of_length_le (by rw [length_unval]; exact Nat.le_refl _), List.nil_append]
    unfold prs
    rw [e]
    simp only [List.drop_succ_cons, List.drop_zero, List.getD_cons_zero, hv, hd]
    rw [if_neg (by simp [length_unval]), if_neg (by omega)]
    cases hr : r with
    | nil => simp
    | cons m t =>
      have hrec := prs_wbl w f (m :: t) z (by simp) (by rw [← hr]; simp at hl; omega) (fun k hk => hn k (List.mem_cons_of_mem _ (by rw [hr]; exact hk)))
      simp only [List.isEmpty_cons, Bool.not_false, if_true]
      rw [hrec]
      simp [Nat.add_mul]

/-- what Read answers -/
def quiet (x : List Bool) (a : Nat) : Bool := decide (∀ k, k < 8 * up a - a → x.getD (a + k) false = false)
def readF (bs : List Nat) (w : Nat) : List Nat × Nat × Int :=
  if (prs w 23 (bitsOf bs)).2.2 = 0 then
    if quiet (bitsOf bs) (prs w 23 (bitsOf bs)).2.1 then ((prs w 23 (bitsOf bs)).1, up (prs w 23 (bitsOf bs)).2.1, 0) else ([], 0, 3)
  else ([], 0, (prs w 23 (bitsOf bs)).2.2)

theorem quiet_iff {x : List Bool} {a : Nat} : quiet x a = true ↔ ∀ k, a ≤ k → k < 8 * up a → x.getD k false = false := by
  unfold quiet
  rw [decide_eq_true_iff]
  constructor
  · intro h k h1 h2
    have := h (k - a) (by omega)
    rwa [show a + (k - a) = k by omega] at this
  · intro h k hk
    exact h (a + k) (by omega) (by unfold up at *; omega)
theorem unval_inj {a b : Nat} (ha : a < 256) (hb : b < 256) (h : unval a 8 = unval b 8) : a = b := by
  have h1 := val_unval a 8
  have h2 := val_unval b 8
  rw [h, h2] at h1
  omega
theorem bitsOf_inj : ∀ {a b : List Nat}, (∀ x ∈ a, x < 256) → (∀ x ∈ b, x < 256) → bitsOf a = bitsOf b → a = b
  | [], [], _, _, _ => rfl
  | [], y :: b, _, _, h => by
    have := congrArg List.length h
    rw [length_bitsOf, length_bitsOf] at this
    simp at this
  | x :: a, [], _, _, h => by
    have := congrArg List.length h
    rw [length_bitsOf, length_bitsOf] at this
    simp at this
  | x :: a, y :: b, ha, hb, h => by
    have h' : unval x 8 ++ bitsOf a = unval y 8 ++ bitsOf b := h
    obtain ⟨h1, h2⟩ := List.append_inj h' (by rw [length_unval, length_unval])
    rw [unval_inj (ha x (List.mem_cons_self ..)) (hb y (List.mem_cons_self ..)) h1, bitsOf_inj (fun z hz => ha z (List.mem_cons_of_mem _ hz)) (fun z hz => hb z (List.mem_cons_of_mem _ hz)) h2]
theorem bitsOf_append (a b : List Nat) : bitsOf (a ++ b) = bitsOf a ++ bitsOf b := by simp [bitsOf]
theorem bitsOf_pre (bs : List Nat) (k : Nat) (h : k ≤ bs.length) : bitsOf (bs.take k) = (bitsOf bs).take (8 * k) := by
  have e : bitsOf bs = bitsOf (bs.take k) ++ bitsOf (bs.drop k) := by rw [← bitsOf_append, List.take_append_drop]
  have hl : (bitsOf (bs.take k)).length = 8 * k := by rw [length_bitsOf, List.length_take]; omega
  have h2 : (bitsOf (bs.take k)).take (8 * k) = bitsOf (bs.take k) := List.take_of_length_le (by omega)
  rw [e, List.take_append_of_le_length (by omega), h2]
theorem up_pack (n : Nat) : up n = packLen n := rfl

/-- lengths go there and back, whatever stands behind them -/
theorem read_back {w : Nat} {l : List Nat} {z : List Nat} (h0 : l ≠ []) (hl : l.length ≤ 23) (hn : ∀ n ∈ l, 1 ≤ n ∧ n < 2 ^ w) : readF (pack (wbl w l) ++ z) w = (l, packLen (l.length * (w + 1)), 0) := by
  have e : bitsOf (pack (wbl w l) ++ z) = wbl w l ++ (List.replicate (8 * packLen (l.length * (w + 1)) - l.length * (w + 1)) false ++ bitsOf z) := by
    rw [bitsOf_append, bitsOf_pack, List.append_assoc, length_wbl]
  have hp := prs_wbl w 23 l (List.replicate (8 * packLen (l.length * (w + 1)) - l.length * (w + 1)) false ++ bitsOf z) h0 hl hn
  rw [← e] at hp
  unfold readF
  rw [hp]
  simp only [if_true]
  rw [if_pos, up_pack]
  rw [quiet_iff]
  intro k h1 h2
  rw [e, List.getD_eq_getElem?_getD, List.getElem?_append_right (by rw [length_wbl]; exact h1), length_wbl, List.getElem?_append_left (by rw [List.length_replicate]; rw [up_pack] at h2; omega), List.getElem?_replicate]
  split <;> rfl
/-- what is read has, written, the bytes that it was read from -/
theorem read_write {w : Nat} {bs : List Nat} {l : List Nat} {n : Nat} (hb : ∀ b ∈ bs, b < 256) (h : readF bs w = (l, n, 0)) : l ≠ [] ∧ l.length ≤ 23 ∧ (∀ k ∈ l, 1 ≤ k ∧ k < 2 ^ w) ∧ n ≤ bs.length ∧ n = packLen (l.length * (w + 1)) ∧ pack (wbl w l) = bs.take n := by
  unfold readF at h
  split at h
  · rename_i h1
    obtain ⟨a1, a2, a3, a4, a5, a6⟩ := prs_ok w 23 (bitsOf bs) h1
    split at h
    · rename_i h2
      injection h with e1 e2
      injection e2 with e2 _
      rw [e1] at a1 a2 a3 a4 a6
      rw [length_bitsOf] at a5
      have hu : n ≤ bs.length := by rw [← e2]; unfold up; omega
      refine ⟨a1, a2, a3, hu, by rw [← e2, a4, up_pack], ?_⟩
      apply bitsOf_inj
      · intro x hx
        exact pack_small _ x hx
      · intro x hx
        exact hb x (List.mem_of_mem_take hx)
      · rw [bitsOf_pack, length_wbl, bitsOf_pre bs n hu, ← a6, ← a4]
        have hq := quiet_iff.1 h2
        rw [← e2, up_pack]
        rw [up_pack] at hq
        have hle : (prs w 23 (bitsOf bs)).2.1 ≤ 8 * packLen (prs w 23 (bitsOf bs)).2.1 := by unfold packLen; omega
        have hle2 : 8 * packLen (prs w 23 (bitsOf bs)).2.1 ≤ 8 * bs.length := by rw [← e2, up_pack] at hu; omega
        generalize (prs w 23 (bitsOf bs)).2.1 = a at *
        apply List.ext_getElem?
        intro k
        by_cases hk : k < a
        · rw [List.getElem?_append_left (by rw [List.length_take, length_bitsOf]; omega), List.getElem?_take, if_pos hk, List.getElem?_take, if_pos (by omega)]
        · rw [List.getElem?_append_right (by rw [List.length_take, length_bitsOf]; omega), List.length_take, length_bitsOf, Nat.min_eq_left a5, List.getElem?_replicate, List.getElem?_take]
          by_cases hk2 : k < 8 * packLen a
          · rw [if_pos (by omega), if_pos hk2]
            have := hq k (by omega) hk2
            rw [List.getD_eq_getElem?_getD, List.getElem?_eq_getElem (by rw [length_bitsOf]; omega), Option.getD_some] at this
            rw [List.getElem?_eq_getElem (by rw [length_bitsOf]; omega), this]
          · rw [if_neg (by omega), if_neg hk2]
    · injection h with _ h
      injection h with _ h
      cases h
  · rename_i h1
    injection h with _ h
    injection h with _ h
    exact absurd h h1

/-- behind the lengths acc the rest comes to what all comes to -/
def LInv (w : Nat) (x : List Bool) (acc : List Nat) : Prop := acc.length ≤ 22 ∧ onto w acc (prs w (23 - acc.length) (x.drop (acc.length * (w + 1)))) = prs w 23 x
theorem LInv.start (w : Nat) (x : List Bool) : LInv w x [] := by
  refine ⟨by simp, ?_⟩
  simp only [List.length_nil, Nat.sub_zero, Nat.zero_mul, List.drop_zero, onto, List.nil_append, Nat.zero_add]
  split
  · rename_i h
    rw [← h]
  · rename_i h
    have : ∀ f y, (prs w f y).2.2 ≠ 0 → prs w f y = ([], 0, (prs w f y).2.2) := by
      intro f y
      cases f with
      | zero => intro _; rfl
      | succ f =>
        unfold prs
        split
        · intro _; rfl
        · split
          · intro _; rfl
          · split
            · split
              · intro h; exact absurd rfl h
              · intro _; rfl
            · intro h; exact absurd rfl h
    exact (this 23 x h).symm
section
variable {w : Nat} {x : List Bool} {acc : List Nat}
theorem LInv.short (h : LInv w x acc) (h1 : x.length - acc.length * (w + 1) < w + 1) : prs w 23 x = ([], 0, 8) := by
  obtain ⟨h0, h⟩ := h
  rw [← h, show 23 - acc.length = (22 - acc.length) + 1 by omega]
  unfold prs
  rw [if_pos (by rw [List.length_drop]; exact h1)]
  rfl
theorem LInv.nought (h : LInv w x acc) (h1 : ¬ x.length - acc.length * (w + 1) < w + 1) (h2 : val ((x.drop (acc.length * (w + 1) + 1)).take w) = 0) : prs w 23 x = ([], 0, 3) := by
  obtain ⟨h0, h⟩ := h
  rw [← h, show 23 - acc.length = (22 - acc.length) + 1 by omega]
  unfold prs
  rw [if_neg (by rw [List.length_drop]; exact h1), List.drop_drop, if_pos h2]
  rfl
theorem LInv.last (h : LInv w x acc) (h1 : ¬ x.length - acc.length * (w + 1) < w + 1) (h2 : val ((x.drop (acc.length * (w + 1) + 1)).take w) ≠ 0) (h3 : x.getD (acc.length * (w + 1)) false = false) :
    prs w 23 x = (acc ++ [val ((x.drop (acc.length * (w + 1) + 1)).take w)], (acc.length + 1) * (w + 1), 0) := by
  obtain ⟨h0, h⟩ := h
  rw [← h, show 23 - acc.length = (22 - acc.length) + 1 by omega]
  unfold prs
  have e : (x.drop (acc.length * (w + 1))).getD 0 false = x.getD (acc.length * (w + 1)) false := by
    rw [List.getD_eq_getElem?_getD, List.getElem?_drop, Nat.add_zero, ← List.getD_eq_getElem?_getD]
  rw [if_neg (by rw [List.length_drop]; exact h1), List.drop_drop, if_neg h2, e, h3]
  simp [onto, Nat.add_mul]
theorem LInv.more (h : LInv w x acc) (h1 : ¬ x.length - acc.length * (w + 1) < w + 1) (h2 : val ((x.drop (acc.length * (w + 1) + 1)).take w) ≠ 0) (h3 : x.getD (acc.length * (w + 1)) false = true) (h4 : acc.length < 22) :
    LInv w x (acc ++ [val ((x.drop (acc.length * (w + 1) + 1)).take w)]) := by
  obtain ⟨h0, h⟩ := h
  have e : (x.drop (acc.length * (w + 1))).getD 0 false = x.getD (acc.length * (w + 1)) false := by
    rw [List.getD_eq_getElem?_getD, List.getElem?_drop, Nat.add_zero, ← List.getD_eq_getElem?_getD]
  have hl : (acc ++ [val ((x.drop (acc.length * (w + 1) + 1)).take w)]).length = acc.length + 1 := by simp
  have hs : prs w (23 - acc.length) (x.drop (acc.length * (w + 1))) = if (prs w (22 - acc.length) (x.drop ((acc.length + 1) * (w + 1)))).2.2 = 0 then (val ((x.drop (acc.length * (w + 1) + 1)).take w) :: (prs w (22 - acc.length) (x.drop ((acc.length + 1) * (w + 1)))).1, (prs w (22 - acc.length) (x.drop ((acc.length + 1) * (w + 1)))).2.1 + (w + 1), 0) else ([], 0, (prs w (22 - acc.length) (x.drop ((acc.length + 1) * (w + 1)))).2.2) := by
    rw [show 23 - acc.length = (22 - acc.length) + 1 by omega]
    conv => lhs; unfold prs
    rw [if_neg (by rw [List.length_drop]; exact h1), List.drop_drop, if_neg h2, e, h3, List.drop_drop, show acc.length * (w + 1) + (w + 1) = (acc.length + 1) * (w + 1) by rw [Nat.add_mul, Nat.one_mul]]
    rfl
  refine ⟨by rw [hl]; omega, ?_⟩
  rw [← h, hs, hl, show 23 - (acc.length + 1) = 22 - acc.length by omega]
  unfold onto
  generalize prs w (22 - acc.length) (x.drop ((acc.length + 1) * (w + 1))) = r
  by_cases hr : r.2.2 = 0
  · simp [hr, Nat.add_mul]
    omega
  · simp [hr]
theorem LInv.long (h : LInv w x acc) (h1 : ¬ x.length - acc.length * (w + 1) < w + 1) (h2 : val ((x.drop (acc.length * (w + 1) + 1)).take w) ≠ 0) (h3 : x.getD (acc.length * (w + 1)) false = true) (h4 : acc.length = 22) :
    prs w 23 x = ([], 0, 2) := by
  obtain ⟨h0, h⟩ := h
  have e : (x.drop (acc.length * (w + 1))).getD 0 false = x.getD (acc.length * (w + 1)) false := by
    rw [List.getD_eq_getElem?_getD, List.getElem?_drop, Nat.add_zero, ← List.getD_eq_getElem?_getD]
  rw [← h, show 23 - acc.length = 0 + 1 by omega]
  conv => lhs; unfold prs
  rw [if_neg (by rw [List.length_drop]; exact h1), List.drop_drop, if_neg h2, e, h3]
  simp [prs, onto]
end
end Go.Proofs.Ytdklddpkklodnaa
