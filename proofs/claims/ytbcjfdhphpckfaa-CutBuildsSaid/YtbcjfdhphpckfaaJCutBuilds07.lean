/-
  Lengths as bits: plain lists, no program. What one answers: the next length, and whether another one follows. What Rest tells of the bits up to the next byte; lists of ints by append; Clip.
-/
import Derived.Test.YtbcjfdhphpckfaaJCutBuilds06
import Derived.BigQuiet
import Derived.Laws.BitsAllLaws
namespace Go.Proofs.Ytbcjfdhphpckfaa

/-- the bits of lengths: each behind a bit that tells whether another one follows -/
def wbl (w : Nat) : List Nat → List Bool
  | [] => []
  | n :: r => (!r.isEmpty) :: (unval n w ++ wbl w r)
theorem length_wbl (w : Nat) (l : List Nat) : (wbl w l).length = l.length * (w + 1) := by
  induction l with
  | nil => simp [wbl]
  | cons n r ih => simp [wbl, ih, length_unval, Nat.add_mul]; omega
/-- .. of the first k -/
def wbk (w : Nat) (l : List Nat) : Nat → List Bool
  | 0 => []
  | k + 1 => wbk w l k ++ (decide (k + 1 < l.length) :: unval (l.getD k 0) w)
theorem length_wbk (w : Nat) (l : List Nat) (k : Nat) : (wbk w l k).length = k * (w + 1) := by
  induction k with
  | zero => simp [wbk]
  | succ k ih => simp [wbk, ih, length_unval, Nat.add_mul]
theorem wbk_wbl (w : Nat) (l : List Nat) (k : Nat) (h : k ≤ l.length) : wbk w l k ++ wbl w (l.drop k) = wbl w l := by
  induction k with
  | zero => simp [wbk]
  | succ k ih =>
    have h1 := ih (by omega)
    rw [List.drop_eq_getElem_cons (show k < l.length by omega)] at h1
    have e : (!(l.drop (k + 1)).isEmpty) = decide (k + 1 < l.length) := by
      rw [Bool.eq_iff_iff]
      simp
    rw [← h1, wbk, wbl, e, List.getD_eq_getElem?_getD, List.getElem?_eq_getElem (show k < l.length by omega), Option.getD_some]
    simp
theorem wbk_all (w : Nat) (l : List Nat) : wbk w l l.length = wbl w l := by
  have := wbk_wbl w l l.length (Nat.le_refl _)
  rwa [List.drop_length, wbl, List.append_nil] at this

/-- lengths read from bits, at most f: the lengths, how many bits, or why there are none -/
def prs (w : Nat) : Nat → List Bool → List Nat × Nat × Int
  | 0, _ => ([], 0, 2)
  | f + 1, y =>
    if y.length < w + 1 then ([], 0, 8)
    else if val ((y.drop 1).take w) = 0 then ([], 0, 3)
    else if y.getD 0 false then
      if (prs w f (y.drop (w + 1))).2.2 = 0 then (val ((y.drop 1).take w) :: (prs w f (y.drop (w + 1))).1, (prs w f (y.drop (w + 1))).2.1 + (w + 1), 0)
      else ([], 0, (prs w f (y.drop (w + 1))).2.2)
    else ([val ((y.drop 1).take w)], w + 1, 0)
/-- behind lengths that were read -/
def onto (w : Nat) (acc : List Nat) (r : List Nat × Nat × Int) : List Nat × Nat × Int := if r.2.2 = 0 then (acc ++ r.1, acc.length * (w + 1) + r.2.1, 0) else ([], 0, r.2.2)

theorem prs_ok (w : Nat) : ∀ (f : Nat) (y : List Bool), (prs w f y).2.2 = 0 → (prs w f y).1 ≠ [] ∧ (prs w f y).1.length ≤ f ∧ (∀ n ∈ (prs w f y).1, 1 ≤ n ∧ n < 2 ^ w) ∧ (prs w f y).2.1 = (prs w f y).1.length * (w + 1) ∧ (prs w f y).2.1 ≤ y.length ∧ y.take (prs w f y).2.1 = wbl w (prs w f y).1
  | 0, y, h => by simp [prs] at h
  | f + 1, y, h => by
    have hl := val_lt ((y.drop 1).take w)
    unfold prs at h ⊢
    split at h
    · simp at h
    · rename_i h1
      rw [if_neg h1]
      split at h
      · simp at h
      · rename_i h2
        rw [if_neg h2]
        have hlen : ((y.drop 1).take w).length = w := by rw [List.length_take, List.length_drop]; omega
        rw [hlen] at hl
        have hu : unval (val ((y.drop 1).take w)) w = (y.drop 1).take w := by
          have := unval_val ((y.drop 1).take w)
          rwa [hlen] at this
        obtain ⟨b, z, rfl⟩ : ∃ b z, y = b :: z := by
          cases y with
          | nil => simp at h1
          | cons b z => exact ⟨b, z, rfl⟩
        simp only [List.drop_succ_cons, List.drop_zero, List.getD_cons_zero, List.length_cons] at *
        cases b
        · simp only [Bool.false_eq_true, if_false] at h ⊢
          refine ⟨by simp, by simp, ?_, by simp, by omega, ?_⟩
          · intro n hn
            simp at hn
            subst hn
            omega
          · simp [wbl, hu]
        · simp only [if_true] at h ⊢
          split at h
          · rename_i h3
            rw [if_pos h3]
            obtain ⟨a1, a2, a3, a4, a5, a6⟩ := prs_ok w f (z.drop w) h3
            refine ⟨by simp, by simp; omega, ?_, by simp [a4, Nat.add_mul], by simp at a5 ⊢; omega, ?_⟩
            · intro n hn
              simp only [List.mem_cons] at hn
              rcases hn with rfl | hn
              · omega
              · exact a3 n hn
            · have e : (!(prs w f (z.drop w)).1.isEmpty) = true := by simpa using a1
              rw [wbl, e, hu, ← a6]
              rw [show (prs w f (z.drop w)).2.1 + (w + 1) = ((prs w f (z.drop w)).2.1 + w) + 1 by omega, List.take_succ_cons]
              congr 1
              rw [Nat.add_comm, List.take_add]
          · rename_i h3
            simp at h
            exact absurd h h3

theorem prs_wbl (w : Nat) : ∀ (f : Nat) (l : List Nat) (z : List Bool), l ≠ [] → l.length ≤ f → (∀ n ∈ l, 1 ≤ n ∧ n < 2 ^ w) → prs w f (wbl w l ++ z) = (l, l.length * (w + 1), 0)
  | 0, l, z, h0, hl, _ => by
    cases l with
    | nil => exact absurd rfl h0
    | cons => simp at hl
  | f + 1, [], z, h0, _, _ => absurd rfl h0
  | f + 1, n :: r, z, _, hl, hn => by
    have h1 := hn n (List.mem_cons_self ..)
    have e : wbl w (n :: r) ++ z = (!r.isEmpty) :: (unval n w ++ (wbl w r ++ z)) := by simp [wbl]
    have hv : val ((unval n w ++ (wbl w r ++ z)).take w) = n := by
      rw [List.take_append_of_le_length (by rw [length_unval]; exact Nat.le_refl _), List.take_of_length_le (by rw [length_unval]; exact Nat.le_refl _), val_unval, Nat.mod_eq_of_lt h1.2]
    have hd : (unval n w ++ (wbl w r ++ z)).drop w = wbl w r ++ z := by
      rw [List.drop_append_of_le_length (by rw [length_unval]; exact Nat.le_refl _), List.drop_of_length_le (by rw [length_unval]; exact Nat.le_refl _), List.nil_append]
    unfold prs
    rw [e]
    simp only [List.drop_succ_cons, List.drop_zero, List.getD_cons_zero, hv, hd]
    rw [if_neg (by simp [length_unval]), if_neg (by omega)]
    cases hr : r with
    | nil => simp
    | cons m t =>
      have hrec := prs_wbl w f (m :: t) z (by simp) (by rw [← hr]; simp at hl; omega) (fun k hk => hn k (List.mem_cons_of_mem _ (by rw [hr]; exact hk)))
      simp only [List.isEmpty_cons, Bool.not_false, if_true]
      rw [hrec]
      simp [Nat.add_mul]

/-- what Read answers -/
def quiet (x : List Bool) (a : Nat) : Bool := decide (∀ k, k < 8 * up a - a → x.getD (a + k) false = false)
def readF (bs : List Nat) (w : Nat) : List Nat × Nat × Int :=
  if (prs w 23 (bitsOf bs)).2.2 = 0 then
    if quiet (bitsOf bs) (prs w 23 (bitsOf bs)).2.1 then ((prs w 23 (bitsOf bs)).1, up (prs w 23 (bitsOf bs)).2.1, 0) else ([], 0, 3)
  else ([], 0, (prs w 23 (bitsOf bs)).2.2)

theorem quiet_iff {x : List Bool} {a : Nat} : quiet x a = true ↔ ∀ k, a ≤ k → k < 8 * up a → x.getD k false = false := by
  unfold quiet
  rw [decide_eq_true_iff]
  constructor
  · intro h k h1 h2
    have := h (k - a) (by omega)
    rwa [show a + (k - a) = k by omega] at this
  · intro h k hk
    exact h (a + k) (by omega) (by unfold up at *; omega)
theorem unval_inj {a b : Nat} (ha : a < 256) (hb : b < 256) (h : unval a 8 = unval b 8) : a = b := by
  have h1 := val_unval a 8
  have h2 := val_unval b 8
  rw [h, h2] at h1
  omega
theorem bitsOf_inj : ∀ {a b : List Nat}, (∀ x ∈ a, x < 256) → (∀ x ∈ b, x < 256) → bitsOf a = bitsOf b → a = b
  | [], [], _, _, _ => rfl
  | [], y :: b, _, _, h => by
    have := congrArg List.length h
    rw [length_bitsOf, length_bitsOf] at this
    simp at this
  | x :: a, [], _, _, h => by
    have := congrArg List.length h
    rw [length_bitsOf, length_bitsOf] at this
    simp at this
  | x :: a, y :: b, ha, hb, h => by
    have h' : unval x 8 ++ bitsOf a = unval y 8 ++ bitsOf b := h
    obtain ⟨h1, h2⟩ := List.append_inj h' (by rw [length_unval, length_unval])
    rw [unval_inj (ha x (List.mem_cons_self ..)) (hb y (List.mem_cons_self ..)) h1, bitsOf_inj (fun z hz => ha z (List.mem_cons_of_mem _ hz)) (fun z hz => hb z (List.mem_cons_of_mem _ hz)) h2]
theorem bitsOf_append (a b : List Nat) : bitsOf (a ++ b) = bitsOf a ++ bitsOf b := by simp [bitsOf]
theorem bitsOf_pre (bs : List Nat) (k : Nat) (h : k ≤ bs.length) : bitsOf (bs.take k) = (bitsOf bs).take (8 * k) := by
  have e : bitsOf bs = bitsOf (bs.take k) ++ bitsOf (bs.drop k) := by rw [← bitsOf_append, List.take_append_drop]
  have hl : (bitsOf (bs.take k)).length = 8 * k := by rw [length_bitsOf, List.length_take]; omega
  have h2 : (bitsOf (bs.take k)).take (8 * k) = bitsOf (bs.take k) := List.take_of_length_le (by omega)
  rw [e, List.take_append_of_le_length (by omega), h2]
theorem up_pack (n : Nat) : up n = packLen n := rfl

/-- lengths go there and back, whatever stands behind them -/
theorem read_back {w : Nat} {l : List Nat} {z : List Nat} (h0 : l ≠ []) (hl : l.length ≤ 23) (hn : ∀ n ∈ l, 1 ≤ n ∧ n < 2 ^ w) : readF (pack (wbl w l) ++ z) w = (l, packLen (l.length * (w + 1)), 0) := by
  have e : bitsOf (pack (wbl w l) ++ z) = wbl w l ++ (List.replicate (8 * packLen (l.length * (w + 1)) - l.length * (w + 1)) false ++ bitsOf z) := by
    rw [bitsOf_append, bitsOf_pack, List.append_assoc, length_wbl]
  have hp := prs_wbl w 23 l (List.replicate (8 * packLen (l.length * (w + 1)) - l.length * (w + 1)) false ++ bitsOf z) h0 hl hn
  rw [← e] at hp
  unfold readF
  rw [hp]
  simp only [if_true]
  rw [if_pos, up_pack]
  rw [quiet_iff]
  intro k h1 h2
  rw [e, List.getD_eq_getElem?_getD, List.getElem?_append_right (by rw [length_wbl]; exact h1), length_wbl, List.getElem?_append_left (by rw [List.length_replicate]; rw [up_pack] at h2; omega), List.getElem?_replicate]
  split <;> rfl
/-- what is read has, written, the bytes that it was read from -/
theorem read_write {w : Nat} {bs : List Nat} {l : List Nat} {n : Nat} (hb : ∀ b ∈ bs, b < 256) (h : readF bs w = (l, n, 0)) : l ≠ [] ∧ l.length ≤ 23 ∧ (∀ k ∈ l, 1 ≤ k ∧ k < 2 ^ w) ∧ n ≤ bs.length ∧ n = packLen (l.length * (w + 1)) ∧ pack (wbl w l) = bs.take n := by
  unfold readF at h
  split at h
  · rename_i h1
    obtain ⟨a1, a2, a3, a4, a5, a6⟩ := prs_ok w 23 (bitsOf bs) h1
    split at h
    · rename_i h2
      injection h with e1 e2
      injection e2 with e2 _
      rw [e1] at a1 a2 a3 a4 a6
      rw [length_bitsOf] at a5
      have hu : n ≤ bs.length := by rw [← e2]; unfold up; omega
      refine ⟨a1, a2, a3, hu, by rw [← e2, a4, up_pack], ?_⟩
      apply bitsOf_inj
      · intro x hx
        exact pack_small _ x hx
      · intro x hx
        exact hb x (List.mem_of_mem_take hx)
      · rw [bitsOf_pack, length_wbl, bitsOf_pre bs n hu, ← a6, ← a4]
        have hq := quiet_iff.1 h2
        rw [← e2, up_pack]
        rw [up_pack] at hq
        have hle : (prs w 23 (bitsOf bs)).2.1 ≤ 8 * packLen (prs w 23 (bitsOf bs)).2.1 := by unfold packLen; omega
        have hle2 : 8 * packLen (prs w 23 (bitsOf bs)).2.1 ≤ 8 * bs.length := by rw [← e2, up_pack] at hu; omega
        generalize (prs w 23 (bitsOf bs)).2.1 = a at *
        apply List.ext_getElem?
        intro k
        by_cases hk : k < a
        · rw [List.getElem?_append_left (by rw [List.length_take, length_bitsOf]; omega), List.getElem?_take, if_pos hk, List.getElem?_take, if_pos (by omega)]
        · rw [List.getElem?_append_right (by rw [List.length_take, length_bitsOf]; omega), List.length_take, length_bitsOf, Nat.min_eq_left a5, List.getElem?_replicate, List.getElem?_take]
          by_cases hk2 : k < 8 * packLen a
          · rw [if_pos (by omega), if_pos hk2]
            have := hq k (by omega) hk2
            rw [List.getD_eq_getElem?_getD, List.getElem?_eq_getElem (by rw [length_bitsOf]; omega), Option.getD_some] at this
            rw [List.getElem?_eq_getElem (by rw [length_bitsOf]; omega), this]
          · rw [if_neg (by omega), if_neg hk2]
    · injection h with _ h
      injection h with _ h
      cases h
  · rename_i h1
    injection h with _ h
    injection h with _ h
    exact absurd h h1

/-- behind the lengths acc the rest comes to what all comes to -/
def LInv (w : Nat) (x : List Bool) (acc : List Nat) : Prop := acc.length ≤ 22 ∧ onto w acc (prs w (23 - acc.length) (x.drop (acc.length * (w + 1)))) = prs w 23 x
theorem LInv.start (w : Nat) (x : List Bool) : LInv w x [] := by
  refine ⟨by simp, ?_⟩
  simp only [List.length_nil, Nat.sub_zero, Nat.zero_mul, List.drop_zero, onto, List.nil_append, Nat.zero_add]
  split
  · rename_i h
    rw [← h]
  · rename_i h
    have : ∀ f y, (prs w f y).2.2 ≠ 0 → prs w f y = ([], 0, (prs w f y).2.2) := by
      intro f y
      cases f with
      | zero => intro _; rfl
      | succ f =>
        unfold prs
        split
        · intro _; rfl
        · split
          · intro _; rfl
          · split
            · split
              · intro h; exact absurd rfl h
              · intro _; rfl
            · intro h; exact absurd rfl h
    exact (this 23 x h).symm
section
variable {w : Nat} {x : List Bool} {acc : List Nat}
theorem LInv.short (h : LInv w x acc) (h1 : x.length - acc.length * (w + 1) < w + 1) : prs w 23 x = ([], 0, 8) := by
  obtain ⟨h0, h⟩ := h
  rw [← h, show 23 - acc.length = (22 - acc.length) + 1 by omega]
  unfold prs
  rw [if_pos (by rw [List.length_drop]; exact h1)]
  rfl
theorem LInv.nought (h : LInv w x acc) (h1 : ¬ x.length - acc.length * (w + 1) < w + 1) (h2 : val ((x.drop (acc.length * (w + 1) + 1)).take w) = 0) : prs w 23 x = ([], 0, 3) := by
  obtain ⟨h0, h⟩ := h
  rw [← h, show 23 - acc.length = (22 - acc.length) + 1 by omega]
  unfold prs
  rw [if_neg (by rw [List.length_drop]; exact h1), List.drop_drop, if_pos h2]
  rfl
theorem LInv.last (h : LInv w x acc) (h1 : ¬ x.length - acc.length * (w + 1) < w + 1) (h2 : val ((x.drop (acc.length * (w + 1) + 1)).take w) ≠ 0) (h3 : x.getD (acc.length * (w + 1)) false = false) :
    prs w 23 x = (acc ++ [val ((x.drop (acc.length * (w + 1) + 1)).take w)], (acc.length + 1) * (w + 1), 0) := by
  obtain ⟨h0, h⟩ := h
  rw [← h, show 23 - acc.length = (22 - acc.length) + 1 by omega]
  unfold prs
  have e : (x.drop (acc.length * (w + 1))).getD 0 false = x.getD (acc.length * (w + 1)) false := by
    rw [List.getD_eq_getElem?_getD, List.getElem?_drop, Nat.add_zero, ← List.getD_eq_getElem?_getD]
  rw [if_neg (by rw [List.length_drop]; exact h1), List.drop_drop, if_neg h2, e, h3]
  simp [onto, Nat.add_mul]
theorem LInv.more (h : LInv w x acc) (h1 : ¬ x.length - acc.length * (w + 1) < w + 1) (h2 : val ((x.drop (acc.length * (w + 1) + 1)).take w) ≠ 0) (h3 : x.getD (acc.length * (w + 1)) false = true) (h4 : acc.length < 22) :
    LInv w x (acc ++ [val ((x.drop (acc.length * (w + 1) + 1)).take w)]) := by
  obtain ⟨h0, h⟩ := h
  have e : (x.drop (acc.length * (w + 1))).getD 0 false = x.getD (acc.length * (w + 1)) false := by
    rw [List.getD_eq_getElem?_getD, List.getElem?_drop, Nat.add_zero, ← List.getD_eq_getElem?_getD]
  have hl : (acc ++ [val ((x.drop (acc.length * (w + 1) + 1)).take w)]).length = acc.length + 1 := by simp
  have hs : prs w (23 - acc.length) (x.drop (acc.length * (w + 1))) = if (prs w (22 - acc.length) (x.drop ((acc.length + 1) * (w + 1)))).2.2 = 0 then (val ((x.drop (acc.length * (w + 1) + 1)).take w) :: (prs w (22 - acc.length) (x.drop ((acc.length + 1) * (w + 1)))).1, (prs w (22 - acc.length) (x.drop ((acc.length + 1) * (w + 1)))).2.1 + (w + 1), 0) else ([], 0, (prs w (22 - acc.length) (x.drop ((acc.length + 1) * (w + 1)))).2.2) := by
    rw [show 23 - acc.length = (22 - acc.length) + 1 by omega]
    conv => lhs; unfold prs
    rw [if_neg (by rw [List.length_drop]; exact h1), List.drop_drop, if_neg h2, e, h3, List.drop_drop, show acc.length * (w + 1) + (w + 1) = (acc.length + 1) * (w + 1) by rw [Nat.add_mul, Nat.one_mul]]
    rfl
  refine ⟨by rw [hl]; omega, ?_⟩
  rw [← h, hs, hl, show 23 - (acc.length + 1) = 22 - acc.length by omega]
  unfold onto
  generalize prs w (22 - acc.length) (x.drop ((acc.length + 1) * (w + 1))) = r
  by_cases hr : r.2.2 = 0
  · simp [hr, Nat.add_mul]
    omega
  · simp [hr]
theorem LInv.long (h : LInv w x acc) (h1 : ¬ x.length - acc.length * (w + 1) < w + 1) (h2 : val ((x.drop (acc.length * (w + 1) + 1)).take w) ≠ 0) (h3 : x.getD (acc.length * (w + 1)) false = true) (h4 : acc.length = 22) :
    prs w 23 x = ([], 0, 2) := by
  obtain ⟨h0, h⟩ := h
  have e : (x.drop (acc.length * (w + 1))).getD 0 false = x.getD (acc.length * (w + 1)) false := by
    rw [List.getD_eq_getElem?_getD, List.getElem?_drop, Nat.add_zero, ← List.getD_eq_getElem?_getD]
  rw [← h, show 23 - acc.length = 0 + 1 by omega]
  conv => lhs; unfold prs
  rw [if_neg (by rw [List.length_drop]; exact h1), List.drop_drop, if_neg h2, e, h3]
  simp [prs, onto]
end
end Go.Proofs.Ytbcjfdhphpckfaa
namespace Go.Proofs.Ytbcjfdhphpckfaa
open Go.RowKit

theorem i64_and_nat (a b : Nat) (ha : a < 9223372036854775808) (hb : b < 9223372036854775808) : bits .and .i64 (a : Int) (b : Int) = ((a &&& b : Nat) : Int) := by
  have hx : a &&& b ≤ a := Nat.and_le_left
  show IntKind.i64.wrap ((BitVec.ofInt 64 (a : Int) &&& BitVec.ofInt 64 (b : Int)).toNat : Int) = _
  rw [BitVec.toNat_and, ofInt_u64 a (by omega), ofInt_u64 b (by omega), IntKind.wrap_i64]
  omega

theorem one_short_11 {p g : Nat} {bs : List Nat} {a : Nat} (w : World) (hr : RRep w p g bs a) (h : 8 * bs.length - a < 12) :
    Calls Try.prog 278 #[.pointer (some ⟨p, 0, none⟩), .int .i64 11] w fun e w' => e = .returned (.tuple #[.int .i64 0, .bool false, .int .i64 8]) ∧ Below w.heap.size w w' := by
  have HG := Lib.hid (show Calls Try.prog 231 #[.pointer (some ⟨p, 0, none⟩), .int .i64 12] w fun e w' => e = .returned (.tuple #[.int .u64 0, .int .i64 8]) ∧ Below w.heap.size w w' from get_short 12 w hr (by omega) h)
  clear hr h
  go_enter Try.func278, Try.ntmps278
  go_wp2_with (go_at_call 231; refine HG.out.mono ?_; rintro e w1 ⟨rfl, hb1⟩)
  exact bodyPost_ret (v := .tuple #[.int .i64 0, .bool false, .int .i64 8]) (by simp [results, Try.results278, go_sem]) rfl ⟨rfl, hb1⟩

set_option maxRecDepth 100000 in
set_option maxHeartbeats 800000 in
theorem one_ok_11 {p g : Nat} {bs : List Nat} {a : Nat} (w : World) (hr : RRep w p g bs a) (h : a + 12 ≤ 8 * bs.length) :
    Calls Try.prog 278 #[.pointer (some ⟨p, 0, none⟩), .int .i64 11] w fun e w' => e = .returned (if val (seg bs (a + 1) 11) = 0 then .tuple #[.int .i64 0, .bool false, .int .i64 3] else .tuple #[.int .i64 (val (seg bs (a + 1) 11)), .bool (bitAt bs a), .int .i64 0]) ∧ RRep w' p g bs (a + 12) ∧ Only (fun k => k = p) w w' := by
  have HG := Lib.hid (show Calls Try.prog 231 #[.pointer (some ⟨p, 0, none⟩), .int .i64 12] w fun e w' => e = .returned (.tuple #[.int .u64 (val (seg bs a 12)), .int .i64 0]) ∧ Getting w p g bs a 12 w' from get_any 12 w hr (by omega) h)
  have HL := fun W => longest_ok (x := 11) rfl W
  have hv : val (seg bs a 12) = (bitAt bs a).toNat * 2048 + val (seg bs (a + 1) 11) := by
    have h1 : seg bs a (1 + 11) = seg bs a 1 ++ seg bs (a + 1) 11 := by
      unfold seg
      rw [List.take_add, List.drop_drop]
    rw [show 12 = 1 + 11 from rfl, h1, val_append, val_one (by omega), length_seg (by omega)]
  have hn : val (seg bs (a + 1) 11) < 2048 := by
    have := val_lt (seg bs (a + 1) 11)
    rw [length_seg (by omega)] at this
    exact this
  generalize val (seg bs (a + 1) 11) = n at *
  generalize bitAt bs a = bit at *
  generalize val (seg bs a 12) = V at *
  have hV : V < 4096 := by cases bit <;> simp at hv <;> omega
  have hand : bits .and .i64 (V : Int) 2047 = (n : Int) := by
    have h1 := i64_and_nat V 2047 (by omega) (by omega)
    have h2 : V &&& 2047 = n := by
      rw [show 2047 = 2 ^ 11 - 1 from rfl, Nat.and_two_pow_sub_one_eq_mod]
      cases bit <;> simp at hv <;> omega
    rw [h2] at h1
    exact h1
  have hsh : ((V : Int) / 2048 == 1) = bit := by
    cases bit <;> simp at hv ⊢ <;> omega
  have HSH := Lib.hid hsh
  have hw1 : IntKind.i64.wrap (V : Int) = (V : Int) := by rw [IntKind.wrap_i64]; omega
  clear hr h hv hsh
  rcases Nat.eq_zero_or_pos n with h0 | h0
  · subst h0
    rw [if_pos rfl]
    go_enter Try.func278, Try.ntmps278
    go_wp2_with (first
      | (go_at_call 231; refine HG.out.mono ?_; rintro e w1 ⟨rfl, hr1, ho1⟩)
      | (go_at_call 279; refine (HL _).mono ?_; rintro e w2 ⟨rfl, rfl⟩))
    exact bodyPost_ret (v := .tuple #[.int .i64 0, .bool false, .int .i64 3]) (by simp [results, Try.results278, go_sem]) rfl ⟨rfl, hr1, ho1⟩
  · rw [if_neg (by omega)]
    have hn0 : ((n : Int) == 0) = false := by simp; omega
    go_enter Try.func278, Try.ntmps278
    go_wp2_with (first
      | (go_at_call 231; refine HG.out.mono ?_; rintro e w1 ⟨rfl, hr1, ho1⟩)
      | (go_at_call 279; refine (HL _).mono ?_; rintro e w2 ⟨rfl, rfl⟩))
    go_quiet (fail)
    go_wp2
    refine bodyPost_ret (v := .tuple #[.int .i64 n, .bool bit, .int .i64 0]) ?_ rfl ⟨rfl, hr1.later (below_drewN (Below.refl _ _) _), ho1.drewN _⟩
    rw [← HSH.out]
    simp [results, Try.results278, go_sem]

theorem one_short_15 {p g : Nat} {bs : List Nat} {a : Nat} (w : World) (hr : RRep w p g bs a) (h : 8 * bs.length - a < 16) :
    Calls Try.prog 278 #[.pointer (some ⟨p, 0, none⟩), .int .i64 15] w fun e w' => e = .returned (.tuple #[.int .i64 0, .bool false, .int .i64 8]) ∧ Below w.heap.size w w' := by
  have HG := Lib.hid (show Calls Try.prog 231 #[.pointer (some ⟨p, 0, none⟩), .int .i64 16] w fun e w' => e = .returned (.tuple #[.int .u64 0, .int .i64 8]) ∧ Below w.heap.size w w' from get_short 16 w hr (by omega) h)
  clear hr h
  go_enter Try.func278, Try.ntmps278
  go_wp2_with (go_at_call 231; refine HG.out.mono ?_; rintro e w1 ⟨rfl, hb1⟩)
  exact bodyPost_ret (v := .tuple #[.int .i64 0, .bool false, .int .i64 8]) (by simp [results, Try.results278, go_sem]) rfl ⟨rfl, hb1⟩

set_option maxRecDepth 100000 in
set_option maxHeartbeats 800000 in
theorem one_ok_15 {p g : Nat} {bs : List Nat} {a : Nat} (w : World) (hr : RRep w p g bs a) (h : a + 16 ≤ 8 * bs.length) :
    Calls Try.prog 278 #[.pointer (some ⟨p, 0, none⟩), .int .i64 15] w fun e w' => e = .returned (if val (seg bs (a + 1) 15) = 0 then .tuple #[.int .i64 0, .bool false, .int .i64 3] else .tuple #[.int .i64 (val (seg bs (a + 1) 15)), .bool (bitAt bs a), .int .i64 0]) ∧ RRep w' p g bs (a + 16) ∧ Only (fun k => k = p) w w' := by
  have HG := Lib.hid (show Calls Try.prog 231 #[.pointer (some ⟨p, 0, none⟩), .int .i64 16] w fun e w' => e = .returned (.tuple #[.int .u64 (val (seg bs a 16)), .int .i64 0]) ∧ Getting w p g bs a 16 w' from get_any 16 w hr (by omega) h)
  have HL := fun W => longest_ok (x := 15) rfl W
  have hv : val (seg bs a 16) = (bitAt bs a).toNat * 32768 + val (seg bs (a + 1) 15) := by
    have h1 : seg bs a (1 + 15) = seg bs a 1 ++ seg bs (a + 1) 15 := by
      unfold seg
      rw [List.take_add, List.drop_drop]
    rw [show 16 = 1 + 15 from rfl, h1, val_append, val_one (by omega), length_seg (by omega)]
  have hn : val (seg bs (a + 1) 15) < 32768 := by
    have := val_lt (seg bs (a + 1) 15)
    rw [length_seg (by omega)] at this
    exact this
  generalize val (seg bs (a + 1) 15) = n at *
  generalize bitAt bs a = bit at *
  generalize val (seg bs a 16) = V at *
  have hV : V < 65536 := by cases bit <;> simp at hv <;> omega
  have hand : bits .and .i64 (V : Int) 32767 = (n : Int) := by
    have h1 := i64_and_nat V 32767 (by omega) (by omega)
    have h2 : V &&& 32767 = n := by
      rw [show 32767 = 2 ^ 15 - 1 from rfl, Nat.and_two_pow_sub_one_eq_mod]
      cases bit <;> simp at hv <;> omega
    rw [h2] at h1
    exact h1
  have hsh : ((V : Int) / 32768 == 1) = bit := by
    cases bit <;> simp at hv ⊢ <;> omega
  have HSH := Lib.hid hsh
  have hw1 : IntKind.i64.wrap (V : Int) = (V : Int) := by rw [IntKind.wrap_i64]; omega
  clear hr h hv hsh
  rcases Nat.eq_zero_or_pos n with h0 | h0
  · subst h0
    rw [if_pos rfl]
    go_enter Try.func278, Try.ntmps278
    go_wp2_with (first
      | (go_at_call 231; refine HG.out.mono ?_; rintro e w1 ⟨rfl, hr1, ho1⟩)
      | (go_at_call 279; refine (HL _).mono ?_; rintro e w2 ⟨rfl, rfl⟩))
    exact bodyPost_ret (v := .tuple #[.int .i64 0, .bool false, .int .i64 3]) (by simp [results, Try.results278, go_sem]) rfl ⟨rfl, hr1, ho1⟩
  · rw [if_neg (by omega)]
    have hn0 : ((n : Int) == 0) = false := by simp; omega
    go_enter Try.func278, Try.ntmps278
    go_wp2_with (first
      | (go_at_call 231; refine HG.out.mono ?_; rintro e w1 ⟨rfl, hr1, ho1⟩)
      | (go_at_call 279; refine (HL _).mono ?_; rintro e w2 ⟨rfl, rfl⟩))
    go_quiet (fail)
    go_wp2
    refine bodyPost_ret (v := .tuple #[.int .i64 n, .bool bit, .int .i64 0]) ?_ rfl ⟨rfl, hr1.later (below_drewN (Below.refl _ _) _), ho1.drewN _⟩
    rw [← HSH.out]
    simp [results, Try.results278, go_sem]
end Go.Proofs.Ytbcjfdhphpckfaa
namespace Go.Proofs.Ytbcjfdhphpckfaa
open Go.RowKit

theorem first_one (f : Nat → Bool) : ∀ (d i : Nat), (∀ k, i ≤ k → k < i + d → f k = false) ∨ ∃ j, i ≤ j ∧ j < i + d ∧ f j = true ∧ ∀ k, i ≤ k → k < j → f k = false
  | 0, i => .inl fun k h1 h2 => by omega
  | d + 1, i => by
    rcases first_one f d i with h | ⟨j, h1, h2, h3, h4⟩
    · cases hf : f (i + d)
      · refine .inl fun k h1 h2 => ?_
        rcases Nat.lt_or_ge k (i + d) with h3 | h3
        · exact h k h1 h3
        · obtain rfl : k = i + d := by omega
          exact hf
      · exact .inr ⟨i + d, by omega, by omega, hf, fun k h1 h2 => h k h1 h2⟩
    · exact .inr ⟨j, h1, by omega, h3, h4⟩

set_option maxRecDepth 100000 in
set_option maxHeartbeats 1600000 in
theorem rest_form {p g : Nat} {bs : List Nat} {i : Nat} (w : World) (hr : RRep w p g bs i) (j : Nat) (hj1 : i ≤ j) (hj2 : j < 8 * up i) (hj3 : bitAt bs j = true) (h : ∀ k, i ≤ k → k < j → bitAt bs k = false) :
    Calls Try.prog 239 #[.pointer (some ⟨p, 0, none⟩)] w fun e w' => e = .returned (.tuple #[.slice none 0 0, .int .i64 3]) ∧ w = w' := by
  have hi := hr.2.2.1
  have hn := hr.2.2.2.1
  have hup : up i ≤ bs.length := by unfold up; omega
  have hc0 : w.cell? ⟨p, 0, none⟩ = some (.slice (some ⟨g, 0, none⟩) bs.length bs.length) := hr.1.read rfl
  have hc1 : w.cell? ⟨p, 1, none⟩ = some (.int .i64 i) := hr.1.read rfl
  have HR := Lib.hid hr
  have HH := Lib.hid h
  have HJ := Lib.hid hj3
  clear hr h hj3
  go_enter Try.func239, Try.ntmps239
  go_wp2
  refine wp_scope_jumps 0 (fun a' w' => ∃ k : Nat, i ≤ k ∧ k ≤ j ∧ Fr [some (.pointer (some ⟨p, 0, none⟩)), none, none, none, some (.int .i64 k), none, none, none, none, none, none, none, none, none, none, none, none, none, none, none, none, none, none, none, none, none, none, none, none, none, none, none, none, none, none, none, none] a' ∧ w' = w) (fun a' _ => 8 * up i - (intOf (a'.tmps.getD 4 undef)).toNat) rfl ?_ ?_
  · go_wp2
    go_step3
    have hb8 : ((i : Int) % 8 != 0) = true := by
      unfold up at hj2
      simp
      omega
    have hkl : i < 8 * bs.length := by omega
    rcases Nat.lt_or_ge i j with hlt | hge
    · have hbit := HH.out i (Nat.le_refl _) hlt
      go_wp2_with (go_at_call 262; refine (bit_any HR.out hkl).mono ?_; rintro e w1 ⟨rfl, rfl⟩; rw [hbit])
      go_step3
      refine ⟨rfl, i + 1, by omega, by omega, ?_, rfl⟩
      simp only [Fr, Holes]
      repeat apply Exists.intro
      rfl
    · obtain rfl : i = j := by omega
      have hbit := HJ.out
      go_wp2_with (go_at_call 262; refine (bit_any HR.out hkl).mono ?_; rintro e w1 ⟨rfl, rfl⟩; rw [hbit])
      simp only [Exit.jump]
      exact bodyPost_ret (v := .tuple #[.slice none 0 0, .int .i64 3]) (by simp [results, Try.results239, go_sem]) rfl ⟨rfl, rfl⟩
  · rintro a' w' ⟨k, hk0, hk1, hfr, rfl⟩
    simp only [Fr, Holes] at hfr
    repeat (obtain ⟨_, hfr⟩ := hfr)
    have hb8 : ((k : Int) % 8 != 0) = true := by
      unfold up at hj2
      simp
      omega
    have hkl : k < 8 * bs.length := by omega
    rcases Nat.lt_or_ge k j with hlt | hge
    · have hbit := HH.out k hk0 hlt
      go_wp2_with (go_at_call 262; refine (bit_any HR.out hkl).mono ?_; rintro e w1 ⟨rfl, rfl⟩; rw [hbit])
      go_step3
      refine ⟨rfl, ⟨k + 1, by omega, by omega, ?_, rfl⟩, ?_⟩
      · simp only [Fr, Holes]
        repeat apply Exists.intro
        rfl
      · simp [intOf]
        omega
    · obtain rfl : k = j := by omega
      have hbit := HJ.out
      go_wp2_with (go_at_call 262; refine (bit_any HR.out hkl).mono ?_; rintro e w1 ⟨rfl, rfl⟩; rw [hbit])
      simp only [Exit.jump]
      exact bodyPost_ret (v := .tuple #[.slice none 0 0, .int .i64 3]) (by simp [results, Try.results239, go_sem]) rfl ⟨rfl, rfl⟩

/-- Rest's error: are there only noughts up to the next byte? -/
theorem rest_er {p g : Nat} {bs : List Nat} {i : Nat} (w : World) (hr : RRep w p g bs i) :
    Calls Try.prog 239 #[.pointer (some ⟨p, 0, none⟩)] w fun e w' => ∃ x, e = .returned (.tuple #[x, .int .i64 (if quiet (bitsOf bs) i then 0 else 3)]) ∧ Only (fun k => k = p) w w' := by
  have hup : 8 * up i - i + i = 8 * up i := by unfold up; omega
  rcases first_one (bitAt bs) (8 * up i - i) i with h | ⟨j, h1, h2, h3, h4⟩
  · have h' : ∀ k, i ≤ k → k < 8 * up i → bitAt bs k = false := fun k hk1 hk2 => h k hk1 (by omega)
    have hq : quiet (bitsOf bs) i = true := quiet_iff.2 h'
    rw [hq]
    refine (rest_ok w hr h').mono ?_
    rintro e w' ⟨g', rfl, _, _, _, ho⟩
    exact ⟨_, rfl, ho⟩
  · have hq : quiet (bitsOf bs) i = false := by
      rw [← Bool.not_eq_true, quiet_iff]
      intro hh
      have := hh j h1 (by omega)
      rw [show (bitsOf bs).getD j false = bitAt bs j from rfl, h3] at this
      cases this
    rw [hq]
    refine (rest_form w hr j h1 (by omega) h3 h4).mono ?_
    rintro e w' ⟨rfl, rfl⟩
    exact ⟨_, rfl, Only.refl _ _⟩

/-- an append, at a plain region's list, whose run is known -/
theorem wpList_run {P : Program} {ops : Array Oper} {rest : List Oper} {o : Oper} {a : Act} {w : World} {Q : Exit → Act → World → Prop} (hgd : o.guard = none) (s x : Operand) (t : TypeId)
    (ho : o.op = .call { callee := .builtin .append, args := #[s, x], argTypes := #[t, t] }) (v u : Value) (hs : a.eval s = v) (hx : a.eval x = u) {v' : Value} {w' : World}
    (hr : (Builtin.append_ #[t, t] o.type #[v, u]).run P w = .ok v' w') (h : wpList P ops Q rest (a.put o.dst v') w') : wpList P ops Q (o :: rest) a w :=
  wpList_plain hgd fun _ hK => by
    unfold Oper.wp execOp
    simp only [ho, resolve, invoke, builtin, Sem.run_bind, Sem.run_pure, Result.andThen_ok, List.map_toArray, List.map_cons, List.map_nil, hs, hx, hr]
    exact hK _ _ h

theorem Try.info3 : (Try.prog.info? 3).map (fun i => (i.zero, i.size, i.bytes)) = some (some (.int .i64 0), 1, 8) := by kernel_rfl
theorem Try.under30 : Try.prog.underlying 30 = some (.slice 3) := by kernel_rfl

theorem int_tail {B : Nat} {W : World} {v : Value} {n : Nat} {xs : List Value} (hown : W.ownsRow B 3 1 v n xs) (hB : B ≤ W.heap.size) (x : Int) (hn : n ≤ 1000000) :
    ∃ g cap W', (Builtin.append_ #[30, 30] 30 #[v, .slice (some ⟨W.heap.size, 0, none⟩) 1 1]).run Try.prog (W.alloc (.cells #[.int .i64 x] 3)) = .ok (.slice (some ⟨g, 0, none⟩) (n + 1) cap) W' ∧
      W'.ownsRow B 3 1 (.slice (some ⟨g, 0, none⟩) (n + 1) cap) (n + 1) (xs ++ [.int .i64 x]) ∧ Only (fun k => v.ownBlock = some k) W W' := by
  obtain ⟨i0, hi, hi0, hi1, hi2⟩ := info_parts Try.info3
  obtain ⟨g, cap, w3, hr3, h2, h3, _, _⟩ := run_append_lies (P := Try.prog) (W.alloc (.cells #[.int .i64 x] 3)) 30 30 B 3 i0 _ 1 8 Try.under30 hi hi0 hi1 hi2 rfl (by omega) v n xs (hown.alloc _) ⟨W.heap.size, 0, none⟩ 1 1 [.int .i64 x] rfl
    (World.news_of_block (cs := #[.int .i64 x]) (heap_alloc_new W _)) (by intro u hu; simp at hu; rw [hu]; rfl) (by omega) (by unfold maxLen; omega) (by omega) (by simp; omega) _ rfl
  exact ⟨g, cap, w3, hr3, h2, ((Only.refl _ W).alloc (.cells #[.int .i64 x] 3)).grown h3 (fun k hk => .inl hk)⟩

/-- a list of ints of its own, without room behind -/
def Ints (B : Nat) (w : World) (v : Value) (l : List Int) : Prop :=
  ∃ A, v = .slice A l.length l.length ∧ ((A = none ∧ l = []) ∨ ∃ g cs, A = some ⟨g, 0, none⟩ ∧ B ≤ g ∧ Row w g 3 cs ∧ ∀ (i : Nat) (x : Int), l[i]? = some x → cs[i]? = some (Value.int .i64 x))

section
variable {B : Nat} {w v : World} {u : Value} {l : List Int}
theorem Ints.later (h : Ints B w u l) (hb : Below w.heap.size w v) : Ints B v u l := by
  obtain ⟨A, h1, h2⟩ := h
  refine ⟨A, h1, ?_⟩
  rcases h2 with h2 | ⟨g, cs, h3, h4, h5, h6⟩
  · exact .inl h2
  · exact .inr ⟨g, cs, h3, h4, h5.later hb, h6⟩
theorem Ints.down {B' : Nat} (h : Ints B w u l) (hb : B' ≤ B) : Ints B' w u l := by
  obtain ⟨A, h1, h2⟩ := h
  refine ⟨A, h1, ?_⟩
  rcases h2 with h2 | ⟨g, cs, h3, h4, h5, h6⟩
  · exact .inl h2
  · exact .inr ⟨g, cs, h3, by omega, h5, h6⟩
theorem Ints.read (h : Ints B w u l) : ∃ A, u = .slice A l.length l.length ∧ ∀ (i : Nat) (x : Int), l[i]? = some x → ∃ g, A = some ⟨g, 0, none⟩ ∧ B ≤ g ∧ w.cell? ⟨g, i, none⟩ = some (Value.int .i64 x) := by
  obtain ⟨A, h1, h2⟩ := h
  refine ⟨A, h1, fun i x hx => ?_⟩
  rcases h2 with ⟨_, rfl⟩ | ⟨g, cs, h3, h4, h5, h6⟩
  · simp at hx
  · exact ⟨g, h3, h4, h5.read (h6 i x hx)⟩
end

theorem clip_t {B : Nat} {W : World} {v : Value} {n : Nat} {l : List Int} (hown : W.ownsRow B 3 1 v n (l.map (fun x => Value.int .i64 x))) :
    Calls Try.prog 221 #[v] W fun e w' => (∃ u, e = .returned u ∧ Ints B W u l) ∧ W = w' := by
  have hn : l.length = n := by have := hown.1; simpa using this
  rcases hown.2 with ⟨rfl, h0⟩ | ⟨g, cap, cur, rfl, hb, hh, hc, hm, hsz, htk⟩
  · have hl : l = [] := List.eq_nil_of_length_eq_zero (by omega)
    subst hl
    clear hown hn h0
    go_enter Try.func221, Try.ntmps221
    go_wp2
    go_ret
    exact ⟨⟨_, rfl, none, rfl, .inl ⟨rfl, rfl⟩⟩, rfl⟩
  · have HI := Lib.hid (show Ints B W (.slice (some ⟨g, 0, none⟩) n n) l from ⟨_, by rw [hn], .inr ⟨g, cur, rfl, hb, hh, fun i x hx => by
      have h1 : (l.map (fun x => Value.int .i64 x))[i]? = some (.int .i64 x) := by rw [List.getElem?_map, hx]; rfl
      rw [← htk, List.getElem?_take] at h1
      split at h1
      · simpa using h1
      · cases h1⟩⟩)
    unfold maxLen at hm
    clear hown hn hh hsz htk hb
    go_enter Try.func221, Try.ntmps221
    go_wp2
    go_ret
    exact ⟨⟨_, rfl, HI.out⟩, rfl⟩
end Go.Proofs.Ytbcjfdhphpckfaa
