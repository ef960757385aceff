/-
  reseg: plain lists: a packet's bytes cut into pieces. What a reader does: Rest. Bytes of memory as a text. BitsBack: what was put, one behind the other, and what is then read: plain lists.
-/
import Derived.Test.YtfgjlhklioijmaaJResegWhole02
import Derived.Laws.BytesString
import Derived.Laws.IdiomStrings
namespace Go.Proofs.Ytfgjlhklioijmaa
open Go.RowKit

/-- where the field ends in which a place is -/
def endF : List Nat → Nat → Nat
  | [], _ => 0
  | l :: r, p => if p < l then l else l + endF r (p - l)
/-- is a place at a field's beginning or end? -/
def edgeF : List Nat → Nat → Bool
  | [], x => x == 0
  | l :: r, x => x == 0 || (decide (l ≤ x) && edgeF r (x - l))
theorem edgeF_zero (ls : List Nat) : edgeF ls 0 = true := by cases ls <;> simp [edgeF]
theorem edgeF_cons {l : Nat} {r : List Nat} {x : Nat} (h : l ≤ x) (hx : 0 < x) : edgeF (l :: r) x = edgeF r (x - l) := by
  have h0 : (x == 0) = false := by simp; omega
  simp [edgeF, h, h0]
theorem edgeF_in {l : Nat} {r : List Nat} {x : Nat} (h : x < l) (hx : 0 < x) : edgeF (l :: r) x = false := by
  have h0 : (x == 0) = false := by simp; omega
  simp [edgeF, h0]
  omega
theorem edgeF_add {l : Nat} {r : List Nat} {x : Nat} (h : edgeF r x = true) : edgeF (l :: r) (l + x) = true := by
  rcases Nat.eq_zero_or_pos (l + x) with h0 | h0
  · rw [h0]; exact edgeF_zero _
  · rw [edgeF_cons (by omega) h0, Nat.add_sub_cancel_left]; exact h
theorem endF_all {ls : List Nat} {p : Nat} (h : ls.sum ≤ p) : endF ls p = ls.sum := by
  induction ls generalizing p with
  | nil => rfl
  | cons l r ih =>
    rw [List.sum_cons] at h ⊢
    unfold endF
    rw [if_neg (by omega), ih (by omega)]
theorem endF_in {ls : List Nat} {p : Nat} (h : p < ls.sum) : p < endF ls p ∧ endF ls p ≤ ls.sum ∧ edgeF ls (endF ls p) = true ∧ ∀ x, p < x → x < endF ls p → edgeF ls x = false := by
  induction ls generalizing p with
  | nil => simp at h
  | cons l r ih =>
    rw [List.sum_cons] at h ⊢
    unfold endF
    by_cases hp : p < l
    · rw [if_pos hp]
      refine ⟨hp, by omega, ?_, fun x h1 h2 => edgeF_in h2 (by omega)⟩
      have := edgeF_add (l := l) (edgeF_zero r)
      exact this
    · rw [if_neg hp]
      obtain ⟨h1, h2, h3, h4⟩ := ih (p := p - l) (by omega)
      refine ⟨by omega, by omega, edgeF_add h3, fun x g1 g2 => ?_⟩
      rw [edgeF_cons (by omega) (by omega)]
      exact h4 _ (by omega) (by omega)
theorem endF_le (ls : List Nat) (p : Nat) : endF ls p ≤ ls.sum := by
  rcases Nat.lt_or_ge p ls.sum with h | h
  · exact (endF_in h).2.1
  · rw [endF_all h]; exact Nat.le_refl _
theorem endF_to {ls : List Nat} {p j m : Nat} (hj : ls[j]? = some m) (h1 : sumTo ls j ≤ p) (h2 : p < sumTo ls j + m) : endF ls p = sumTo ls j + m := by
  induction ls generalizing p j with
  | nil => simp at hj
  | cons l r ih =>
    unfold endF
    cases j with
    | zero =>
      simp only [List.getElem?_cons_zero, Option.some.injEq] at hj
      subst hj
      simp only [sumTo, List.take_zero, List.sum_nil] at h1 h2 ⊢
      rw [if_pos (by omega)]
      omega
    | succ j =>
      simp only [List.getElem?_cons_succ] at hj
      have e : sumTo (l :: r) (j + 1) = l + sumTo r j := by simp [sumTo]
      rw [e] at h1 h2 ⊢
      rw [if_neg (by omega), ih hj (by omega) (by omega)]
      omega
theorem edgeF_to {ls : List Nat} {j : Nat} : edgeF ls (sumTo ls j) = true := by
  induction ls generalizing j with
  | nil => simp [sumTo, edgeF]
  | cons l r ih =>
    cases j with
    | zero => simp only [sumTo, List.take_zero, List.sum_nil]; exact edgeF_zero _
    | succ j =>
      have e : sumTo (l :: r) (j + 1) = l + sumTo r j := by simp [sumTo]
      rw [e]
      exact edgeF_add ih
theorem edgeF_not {ls : List Nat} {x : Nat} (h : ∀ j, j ≤ ls.length → sumTo ls j ≠ x) : edgeF ls x = false := by
  induction ls generalizing x with
  | nil =>
    have := h 0 (by simp)
    simp only [sumTo, List.take_zero, List.sum_nil] at this
    simp [edgeF]
    omega
  | cons l r ih =>
    have h0 := h 0 (by simp)
    simp only [sumTo, List.take_zero, List.sum_nil] at h0
    rcases Nat.lt_or_ge x l with h1 | h1
    · exact edgeF_in h1 (by omega)
    · rw [edgeF_cons h1 (by omega)]
      refine ih fun j hj => ?_
      have h2 := h (j + 1) (by simp; omega)
      have e : sumTo (l :: r) (j + 1) = l + sumTo r j := by simp [sumTo]
      rw [e] at h2
      omega
theorem edge_end {ls : List Nat} {x : Nat} (h0 : 0 < x) (h1 : x ≤ ls.sum) : (endF ls (x - 1) = x) ↔ edgeF ls x = true := by
  obtain ⟨a, b, c, d⟩ := endF_in (ls := ls) (p := x - 1) (by omega)
  constructor
  · intro h
    rw [h] at c
    exact c
  · intro h
    rcases Nat.lt_or_ge x (endF ls (x - 1)) with h2 | h2
    · have := d x (by omega) h2
      rw [h] at this
      cases this
    · omega
theorem edgeF_sum (ls : List Nat) : edgeF ls ls.sum = true := by
  have := edgeF_to (ls := ls) (j := ls.length)
  rwa [sumTo_all] at this
/-- the lengths of the pieces of N bytes from a place on -/
def pcs (ls : List Nat) (a : Nat) : Nat → List Nat
  | 0 => []
  | N + 1 => if N = 0 ∨ edgeF ls (a + N) = true then pcs ls a N ++ [1] else (pcs ls a N).dropLast ++ [(pcs ls a N).getLastD 0 + 1]
theorem pcs_new {ls : List Nat} {a N : Nat} (h : N = 0 ∨ edgeF ls (a + N) = true) : pcs ls a (N + 1) = pcs ls a N ++ [1] := by
  rw [pcs, if_pos h]
theorem pcs_more {ls : List Nat} {a N m : Nat} {P : List Nat} (h0 : 0 < N) (h : edgeF ls (a + N) = false) (hp : pcs ls a N = P ++ [m]) : pcs ls a (N + 1) = P ++ [m + 1] := by
  rw [pcs, if_neg (by rw [h]; simp; omega), hp]
  simp
theorem pcs_jump {ls : List Nat} {a N n : Nat} (hn : 0 < n) (h : N = 0 ∨ edgeF ls (a + N) = true) (hx : ∀ x, a + N < x → x < a + N + n → edgeF ls x = false) : pcs ls a (N + n) = pcs ls a N ++ [n] := by
  induction n with
  | zero => omega
  | succ n ih =>
    rcases Nat.eq_zero_or_pos n with h0 | h0
    · subst h0
      exact pcs_new h
    · have := ih h0 (fun x h1 h2 => hx x h1 (by omega))
      exact pcs_more (N := N + n) (by omega) (hx (a + (N + n)) (by omega) (by omega)) this
theorem pcs_last (ls : List Nat) (a : Nat) {N : Nat} (h : 0 < N) : ∃ P m, pcs ls a N = P ++ [m] ∧ 0 < m ∧ m ≤ N ∧ (∀ x, a + N - m < x → x < a + N → edgeF ls x = false) ∧ (m = N ∧ P = [] ∨ m < N ∧ edgeF ls (a + N - m) = true ∧ pcs ls a (N - m) = P) := by
  induction N with
  | zero => omega
  | succ N ih =>
    by_cases hc : N = 0 ∨ edgeF ls (a + N) = true
    · refine ⟨_, 1, pcs_new hc, by omega, by omega, fun x h1 h2 => by omega, ?_⟩
      rcases Nat.eq_zero_or_pos N with h0 | h0
      · subst h0
        exact .inl ⟨rfl, rfl⟩
      · rcases hc with hc | hc
        · omega
        · exact .inr ⟨by omega, by rw [show a + (N + 1) - 1 = a + N by omega]; exact hc, by simp⟩
    · have h0 : 0 < N := by omega
      have he : edgeF ls (a + N) = false := by
        rw [← Bool.not_eq_true]
        exact fun h => hc (.inr h)
      obtain ⟨P, m, h1, h2, h3, h4, h5⟩ := ih h0
      refine ⟨P, m + 1, pcs_more h0 he h1, by omega, by omega, fun x g1 g2 => ?_, ?_⟩
      · rcases Nat.lt_or_ge x (a + N) with g3 | g3
        · exact h4 x (by omega) g3
        · rw [show x = a + N by omega]; exact he
      · rcases h5 with ⟨e1, e2⟩ | ⟨e1, e2, e3⟩
        · exact .inl ⟨by omega, e2⟩
        · exact .inr ⟨by omega, by rw [show a + (N + 1) - (m + 1) = a + N - m by omega]; exact e2, by rw [show N + 1 - (m + 1) = N - m by omega]; exact e3⟩
theorem pcs_sum (ls : List Nat) (a N : Nat) : (pcs ls a N).sum = N := by
  induction N using Nat.strongRecOn with
  | _ N ih =>
    rcases Nat.eq_zero_or_pos N with h | h
    · subst h
      rfl
    · obtain ⟨P, m, h1, h2, h3, _, h5⟩ := pcs_last ls a h
      rw [h1]
      rcases h5 with ⟨e1, e2⟩ | ⟨e1, _, e3⟩
      · subst e2
        simp [e1]
      · have := ih (N - m) (by omega)
        rw [e3] at this
        simp [this]
        omega
/-- how many fields end up to a place -/
def cntF : List Nat → Nat → Nat
  | [], _ => 0
  | l :: r, x => if x < l then 0 else 1 + cntF r (x - l)
theorem cntF_mono (ls : List Nat) {x y : Nat} (h : x ≤ y) : cntF ls x ≤ cntF ls y := by
  induction ls generalizing x y with
  | nil => exact Nat.le_refl _
  | cons l r ih =>
    unfold cntF
    by_cases h1 : x < l
    · rw [if_pos h1]; omega
    · rw [if_neg h1, if_neg (by omega)]
      have := ih (x := x - l) (y := y - l) (by omega)
      omega
theorem cntF_len {ls : List Nat} {x : Nat} (h : x < ls.sum) : cntF ls x < ls.length := by
  induction ls generalizing x with
  | nil => simp at h
  | cons l r ih =>
    rw [List.sum_cons] at h
    unfold cntF
    by_cases h1 : x < l
    · rw [if_pos h1]; simp
    · rw [if_neg h1]
      have := ih (x := x - l) (by omega)
      simp
      omega
theorem cntF_edge {ls : List Nat} {y : Nat} (hp : ∀ l ∈ ls, 0 < l) (h0 : 0 < y) (h : edgeF ls y = true) : cntF ls (y - 1) + 1 ≤ cntF ls y := by
  induction ls generalizing y with
  | nil => simp [edgeF] at h; omega
  | cons l r ih =>
    have hl := hp l (by simp)
    rcases Nat.lt_or_ge y l with h1 | h1
    · rw [edgeF_in h1 h0] at h
      cases h
    · rw [edgeF_cons h1 h0] at h
      unfold cntF
      rcases Nat.eq_zero_or_pos (y - l) with h2 | h2
      · rw [if_pos (by omega), if_neg (by omega)]
        omega
      · rw [if_neg (by omega), if_neg (by omega)]
        have := ih (y := y - l) (fun l h => hp l (by simp [h])) h2 h
        rw [show y - 1 - l = y - l - 1 by omega]
        omega
theorem pcs_cnt {ls : List Nat} (a : Nat) (hp : ∀ l ∈ ls, 0 < l) {N : Nat} (h : 0 < N) : (pcs ls a N).length + cntF ls a ≤ cntF ls (a + N - 1) + 1 := by
  induction N with
  | zero => omega
  | succ N ih =>
    rcases Nat.eq_zero_or_pos N with h0 | h0
    · subst h0
      rw [pcs_new (.inl rfl)]
      simp [pcs]
      omega
    · have ih := ih h0
      have hm := cntF_mono ls (x := a + N - 1) (y := a + N) (by omega)
      rw [show a + (N + 1) - 1 = a + N by omega]
      by_cases he : edgeF ls (a + N) = true
      · rw [pcs_new (.inr he)]
        have := cntF_edge hp (by omega) he
        simp
        omega
      · obtain ⟨P, m, h1, _⟩ := pcs_last ls a h0
        rw [pcs_more h0 (by simpa using he) h1]
        rw [h1] at ih
        simp at ih ⊢
        omega
theorem pcs_len {ls : List Nat} {a N : Nat} (hp : ∀ l ∈ ls, 0 < l) (h : a + N ≤ ls.sum) : (pcs ls a N).length ≤ ls.length := by
  rcases Nat.eq_zero_or_pos N with h0 | h0
  · subst h0
    simp [pcs]
  · have h1 := pcs_cnt a hp h0
    have h2 := cntF_len (ls := ls) (x := a + N - 1) (by omega)
    omega
theorem pcs_len_mono (ls : List Nat) (a : Nat) {N M : Nat} (h : N ≤ M) : (pcs ls a N).length ≤ (pcs ls a M).length := by
  induction M with
  | zero => rw [show N = 0 by omega]; exact Nat.le_refl _
  | succ M ih =>
    rcases Nat.eq_or_lt_of_le h with h1 | h1
    · rw [h1]; exact Nat.le_refl _
    · refine Nat.le_trans (ih (by omega)) ?_
      by_cases hc : M = 0 ∨ edgeF ls (a + M) = true
      · rw [pcs_new hc]; simp
      · have h0 : 0 < M := by omega
        obtain ⟨P, m, h1, _⟩ := pcs_last ls a h0
        rw [pcs_more h0 (by rw [← Bool.not_eq_true]; exact fun h => hc (.inr h)) h1, h1]
        simp
/-- between neighbouring edges ahead of the end lies one field that is not the last one -/
theorem edge_gap {ls : List Nat} {s y M : Nat} (hf : ∀ j m, ls[j]? = some m → j + 1 ≠ ls.length → m ≤ M) (h1 : s < y) (h2 : y < ls.sum) (h3 : edgeF ls y = true) (h4 : ∀ x, s < x → x < y → edgeF ls x = false) : y - s ≤ M := by
  induction ls generalizing s y with
  | nil => simp at h2
  | cons l r ih =>
    rw [List.sum_cons] at h2
    have hr : r ≠ [] := by
      intro h
      subst h
      rcases Nat.lt_or_ge y l with h5 | h5
      · rw [edgeF_in h5 (by omega)] at h3
        cases h3
      · simp at h2
        omega
    have hl : l ≤ M := hf 0 l rfl (by
      have := List.length_pos_iff.2 hr
      simp
      omega)
    rcases Nat.lt_or_ge y l with h5 | h5
    · rw [edgeF_in h5 (by omega)] at h3
      cases h3
    · rcases Nat.lt_or_ge s l with h6 | h6
      · rcases Nat.eq_or_lt_of_le h5 with h7 | h7
        · omega
        · have h8 := h4 l h6 h7
          rw [show l = l + 0 from rfl, edgeF_add (edgeF_zero r)] at h8
          cases h8
      · rw [edgeF_cons h5 (by omega)] at h3
        have := ih (s := s - l) (y := y - l) (fun j m hj hn => hf (j + 1) m (by simpa using hj) (by simp; omega)) (by omega) (by omega) h3 (fun x g1 g2 => by
          have := h4 (x + l) (by omega) (by omega)
          rw [edgeF_cons (by omega) (by omega), Nat.add_sub_cancel] at this
          exact this)
        omega
/-- all pieces but the last are no longer than fields that are not the last one -/
theorem pcs_small {ls : List Nat} {a M : Nat} (hf : ∀ j m, ls[j]? = some m → j + 1 ≠ ls.length → m ≤ M) {N : Nat} (h : a + N ≤ ls.sum) {k v : Nat} (hk : (pcs ls a N)[k]? = some v) : 0 < v ∧ (k + 1 ≠ (pcs ls a N).length → v ≤ M) := by
  induction N using Nat.strongRecOn generalizing k v with
  | _ N ih =>
    rcases Nat.eq_zero_or_pos N with h0 | h0
    · subst h0
      simp [pcs] at hk
    · obtain ⟨P, q, h1, h2, h3, h4, h5⟩ := pcs_last ls a h0
      rw [h1] at hk ⊢
      have hlen : (P ++ [q]).length = P.length + 1 := by simp
      rw [hlen]
      rcases Nat.lt_or_ge k P.length with h6 | h6
      · rw [List.getElem?_append_left h6] at hk
        rcases h5 with ⟨_, e2⟩ | ⟨e1, e2, e3⟩
        · subst e2
          simp at h6
        · obtain ⟨g1, g2⟩ := ih (N - q) (by omega) (by omega) (k := k) (v := v) (by rw [e3]; exact hk)
          refine ⟨g1, fun _ => ?_⟩
          rw [e3] at g2
          by_cases h7 : k + 1 = P.length
          · obtain ⟨P', q', k1, k2, k3, k4, k5⟩ := pcs_last ls a (N := N - q) (by omega)
            rw [e3] at k1
            have hm : v = q' := by
              rw [k1, List.getElem?_append_right (by rw [k1] at h7; simp at h7; omega)] at hk
              rw [k1] at h7
              simp at h7
              rw [show k - P'.length = 0 by omega] at hk
              simpa using hk.symm
            subst hm
            have e : a + (N - q) = a + N - q := by omega
            rw [e] at k4
            have := edge_gap (s := a + N - q - v) (y := a + N - q) hf (by omega) (by omega) e2 k4
            omega
          · exact g2 h7
      · have hk2 : k = P.length := by
          have := (List.getElem?_eq_some_iff.1 hk).1
          rw [hlen] at this
          omega
        subst hk2
        simp at hk
        subst hk
        exact ⟨h2, fun h => absurd rfl h⟩
/-- bytes cut into pieces -/
def slic : List Nat → List Nat → List (List Nat)
  | _, [] => []
  | d, n :: r => d.take n :: slic (d.drop n) r
theorem slic_append (d P Q : List Nat) : slic d (P ++ Q) = slic d P ++ slic (d.drop P.sum) Q := by
  induction P generalizing d with
  | nil => simp [slic]
  | cons n r ih => simp [slic, ih, List.drop_drop]
theorem slic_flat (d P : List Nat) : (slic d P).flatten = d.take P.sum := by
  induction P generalizing d with
  | nil => simp [slic]
  | cons n r ih =>
    simp only [slic, List.flatten_cons, ih, List.sum_cons]
    rw [List.take_add]
theorem slic_lens {d P : List Nat} (h : P.sum ≤ d.length) : (slic d P).map List.length = P := by
  induction P generalizing d with
  | nil => rfl
  | cons n r ih =>
    rw [List.sum_cons] at h
    simp only [slic, List.map_cons, ih (d := d.drop n) (by rw [List.length_drop]; omega), List.length_take]
    rw [Nat.min_eq_left (by omega)]
theorem sizeF_mono {i j x : Int} (h0 : 0 ≤ i) (h : i ≤ j) (h1 : j ≤ 23) : sizeF i x ≤ sizeF j x := by
  unfold sizeF
  cases hx : okW x
  · simp
  · rcases okW_nat hx with rfl | rfl
    · rcases Int.lt_or_le i 1 with h2 | h2
      · have hi : decide (1 ≤ i) = false := by simp; omega
        simp only [hi, Bool.false_and, Bool.and_false]
        split
        · simp; split <;> omega
        · split <;> omega
      · have hi : decide (1 ≤ i) = true := by simp; omega
        have hi2 : decide (i ≤ 23) = true := by simp; omega
        have hj : decide (1 ≤ j) = true := by simp; omega
        have hj2 : decide (j ≤ 23) = true := by simp; omega
        simp only [hi, hi2, hj, hj2, Bool.and_self, if_true]
        omega
    · rcases Int.lt_or_le i 1 with h2 | h2
      · have hi : decide (1 ≤ i) = false := by simp; omega
        simp only [hi, Bool.false_and, Bool.and_false]
        split
        · simp; split <;> omega
        · split <;> omega
      · have hi : decide (1 ≤ i) = true := by simp; omega
        have hi2 : decide (i ≤ 23) = true := by simp; omega
        have hj : decide (1 ≤ j) = true := by simp; omega
        have hj2 : decide (j ≤ 23) = true := by simp; omega
        simp only [hi, hi2, hj, hj2, Bool.and_self, if_true]
        omega
theorem sizeF_0 (x : Int) : sizeF 0 x = 0 := by
  unfold sizeF
  simp
/-- how many bytes N bytes from a place on are, with their pieces' lengths -/
def costP (ls : List Nat) (a : Nat) (wd : Int) (N : Nat) : Int := N + sizeF (((pcs ls a N).length : Int) - 1) wd
theorem pcs_pos (ls : List Nat) (a : Nat) {N : Nat} (h : 0 < N) : 0 < (pcs ls a N).length := by
  obtain ⟨P, m, h1, _⟩ := pcs_last ls a h
  rw [h1]; simp
theorem cost_lt {ls : List Nat} {a N M : Nat} {wd : Int} (hp : ∀ l ∈ ls, 0 < l) (h24 : ls.length ≤ 24) (h0 : 0 < N) (h : N < M) (hM : a + M ≤ ls.sum) : costP ls a wd N < costP ls a wd M := by
  have h1 := pcs_len_mono ls a (N := N) (M := M) (by omega)
  have h2 := pcs_len hp hM
  have h3 := pcs_pos ls a h0
  have := sizeF_mono (i := ((pcs ls a N).length : Int) - 1) (j := ((pcs ls a M).length : Int) - 1) (x := wd) (by omega) (by omega) (by omega)
  unfold costP
  omega
/-- as many bytes as there is room for -/
def CutN (ls : List Nat) (a b : Nat) (room wd : Int) (N : Nat) : Prop := a + N ≤ b ∧ (N = 0 ∨ costP ls a wd N ≤ room) ∧ (a + N = b ∨ room < costP ls a wd (N + 1))
theorem CutN.only {ls : List Nat} {a b N M : Nat} {room wd : Int} (hp : ∀ l ∈ ls, 0 < l) (h24 : ls.length ≤ 24) (hb : b ≤ ls.sum) (h : CutN ls a b room wd N) (g : CutN ls a b room wd M) : N = M := by
  obtain ⟨h1, h2, h3⟩ := h
  obtain ⟨g1, g2, g3⟩ := g
  rcases Nat.lt_trichotomy N M with h | h | h
  · rcases h3 with h3 | h3
    · omega
    · rcases g2 with g2 | g2
      · omega
      · rcases Nat.eq_or_lt_of_le (show N + 1 ≤ M by omega) with e | e
        · rw [e] at h3; omega
        · have := cost_lt (wd := wd) hp h24 (N := N + 1) (M := M) (a := a) (by omega) e (by omega)
          omega
  · exact h
  · rcases g3 with g3 | g3
    · omega
    · rcases h2 with h2 | h2
      · omega
      · rcases Nat.eq_or_lt_of_le (show M + 1 ≤ N by omega) with e | e
        · rw [e] at g3; omega
        · have := cost_lt (wd := wd) hp h24 (N := M + 1) (M := N) (a := a) (by omega) e (by omega)
          omega
/-- how far the code has come -/
def CutI (ls : List Nat) (a b : Nat) (room wd : Int) (N : Nat) : Prop := a + N ≤ b ∧ (N = 0 ∨ costP ls a wd N ≤ room) ∧ (N = 0 ∨ edgeF ls (a + N) = true ∨ a + N = b ∨ costP ls a wd N = room)
theorem cost_next {ls : List Nat} {a N : Nat} {wd : Int} (h : N = 0 ∨ edgeF ls (a + N) = true) : costP ls a wd (N + 1) = N + 1 + sizeF ((pcs ls a N).length : Int) wd := by
  unfold costP
  rw [pcs_new h]
  simp
theorem cost_more {ls : List Nat} {a N : Nat} {wd : Int} (h0 : 0 < N) (h : edgeF ls (a + N) = false) : costP ls a wd (N + 1) = N + 1 + sizeF (((pcs ls a N).length : Int) - 1) wd := by
  obtain ⟨P, m, h1, _⟩ := pcs_last ls a h0
  unfold costP
  rw [pcs_more h0 h h1, h1]
  simp
section
variable {ls : List Nat} {a b N : Nat} {room wd : Int}
theorem CutI.zero (h : a ≤ b) : CutI ls a b room wd 0 := ⟨by omega, .inl rfl, .inl rfl⟩
theorem CutI.end (h : CutI ls a b room wd N) (e : a + N = b) : CutN ls a b room wd N := ⟨h.1, h.2.1, .inl e⟩
theorem CutI.past (hp : ∀ l ∈ ls, 0 < l) (h24 : ls.length ≤ 24) (hb : b ≤ ls.sum) (h : CutI ls a b room wd N) (hlt : a + N < b) (hc : N ≠ 0 → edgeF ls (a + N) = true → room < costP ls a wd (N + 1)) (hz : N = 0 → room < costP ls a wd (N + 1)) : CutN ls a b room wd N := by
  refine ⟨h.1, h.2.1, .inr ?_⟩
  rcases h.2.2 with h0 | h0 | h0 | h0
  · exact hz h0
  · by_cases hN : N = 0
    · exact hz hN
    · exact hc hN h0
  · omega
  · by_cases hN : N = 0
    · exact hz hN
    · have := cost_lt (wd := wd) hp h24 (N := N) (M := N + 1) (a := a) (by omega) (by omega) (by omega)
      omega
theorem CutI.full (hp : ∀ l ∈ ls, 0 < l) (h24 : ls.length ≤ 24) (hb : b ≤ ls.sum) (h : CutI ls a b room wd N) (hlt : a + N < b) (hk : 24 ≤ (pcs ls a N).length) : CutN ls a b room wd N := by
  refine h.past hp h24 hb hlt (fun _ he => ?_) (fun h0 => ?_)
  · have := pcs_len (a := a) (N := N + 1) hp (by omega)
    rw [pcs_new (.inr he)] at this
    simp at this
    omega
  · subst h0
    simp [pcs] at hk
theorem CutI.stop (hp : ∀ l ∈ ls, 0 < l) (h24 : ls.length ≤ 24) (hb : b ≤ ls.sum) (h : CutI ls a b room wd N) (hlt : a + N < b) (hl : room - N - sizeF ((pcs ls a N).length : Int) wd ≤ 0) : CutN ls a b room wd N := by
  refine h.past hp h24 hb hlt (fun _ he => ?_) (fun h0 => ?_)
  · rw [cost_next (.inr he)]; omega
  · rw [cost_next (.inl h0)]; omega
theorem CutI.fresh (h : CutI ls a b room wd N) (hlt : a + N < b) (hk : (pcs ls a N).length < 24) (hl : 0 < room - N - sizeF ((pcs ls a N).length : Int) wd) : N = 0 ∨ edgeF ls (a + N) = true := by
  rcases h.2.2 with h0 | h0 | h0 | h0
  · exact .inl h0
  · exact .inr h0
  · omega
  · rcases Nat.eq_zero_or_pos N with hN | hN
    · exact .inl hN
    · exfalso
      have h1 := pcs_pos ls a hN
      have := sizeF_mono (i := ((pcs ls a N).length : Int) - 1) (j := ((pcs ls a N).length : Int)) (x := wd) (by omega) (by omega) (by omega)
      unfold costP at h0
      omega
theorem CutI.next (hb : b ≤ ls.sum) (h : CutI ls a b room wd N) (hlt : a + N < b) (hk : (pcs ls a N).length < 24) {n : Nat} (hn : 0 < n) (hnl : (n : Int) ≤ room - N - sizeF ((pcs ls a N).length : Int) wd) (hnb : a + N + n ≤ b) (hne : a + N + n ≤ endF ls (a + N)) (hmin : (n : Int) = room - N - sizeF ((pcs ls a N).length : Int) wd ∨ a + N + n = b ∨ a + N + n = endF ls (a + N)) :
    CutI ls a b room wd (N + n) ∧ pcs ls a (N + n) = pcs ls a N ++ [n] := by
  have hf := h.fresh hlt hk (by omega)
  obtain ⟨e1, e2, e3, e4⟩ := endF_in (ls := ls) (p := a + N) (by omega)
  have hj := pcs_jump hn hf (fun x h1 h2 => e4 x h1 (by omega))
  have hc : costP ls a wd (N + n) = N + n + sizeF ((pcs ls a N).length : Int) wd := by
    unfold costP
    rw [hj]
    simp
  refine ⟨⟨by omega, .inr (by rw [hc]; omega), ?_⟩, hj⟩
  rcases hmin with h1 | h1 | h1
  · exact .inr (.inr (.inr (by rw [hc]; omega)))
  · exact .inr (.inr (.inl (by omega)))
  · exact .inr (.inl (by rw [← Nat.add_assoc, h1]; exact e3))
/-- nothing goes just where there is no room for one byte -/
theorem CutN.zero_iff (h : CutN ls a b room wd N) (hab : a < b) : N = 0 ↔ room < 1 := by
  obtain ⟨h1, h2, h3⟩ := h
  have hc : costP ls a wd (0 + 1) = 1 := by rw [cost_next (.inl rfl)]; simp [pcs, sizeF_0]
  constructor
  · intro h0
    subst h0
    rw [hc] at h3
    omega
  · intro h0
    rcases h2 with h2 | h2
    · exact h2
    · have h4 := sizeF_nonneg (((pcs ls a N).length : Int) - 1) wd
      unfold costP at h2
      omega
end
/-- a part's FI -/
def fiC (ls : List Nat) (fi : Int) (a e : Nat) : Int := (if edgeF ls a = false ∨ a = 0 ∧ 2 ≤ fi then 2 else 0) + (if edgeF ls e = false ∨ e = ls.sum ∧ fi % 2 = 1 then 1 else 0)
theorem fiC_bound (ls : List Nat) (fi : Int) (a e : Nat) : 0 ≤ fiC ls fi a e ∧ fiC ls fi a e ≤ 3 := by
  unfold fiC
  split <;> split <;> omega
end Go.Proofs.Ytfgjlhklioijmaa
namespace Go.Proofs.Ytfgjlhklioijmaa
open Go.RowKit

set_option maxHeartbeats 400000 in
theorem rest_nil (w : World) : Calls Try.prog 249 #[.pointer none] w fun e w' => e = .returned (.tuple #[.slice none 0 0, .int .i64 6]) ∧ w = w' := by
  go_enter Try.func249, Try.ntmps249
  go_wp2
  go_step3
  go_wp2
  rw [Exit.noGoto_ret]
  exact bodyPost_ret (v := .tuple #[.slice none 0 0, .int .i64 6]) (by simp [results, Try.results249, go_sem]) rfl ⟨rfl, rfl⟩

/-- how many bytes are begun -/
def up (i : Nat) : Nat := (i + 7) / 8

def RestOk (w : World) (p g : Nat) (bs : List Nat) (i : Nat) (e : Ending) (w' : World) : Prop :=
  ∃ g', e = .returned (.tuple #[.slice (some ⟨g', 0, none⟩) (bs.length - up i) (bs.length - up i), .int .i64 0]) ∧ w.heap.size ≤ g' ∧ Row w' g' 5 (bts (bs.drop (up i))).toArray ∧ RRep w' p g bs (8 * bs.length) ∧ Only (fun k => k = p) w w'

theorem rest_end {p g m : Nat} {bs : List Nat} {i : Nat} {w w2 : World} (hr : RRep w p g bs i) (hm : m = up i) {g' : Nat} {n n' : Nat} (hn : n = bs.length - m) (hn' : n' = n)
    (hg : (w.setCell ⟨p, 1, none⟩ (.int .i64 (8 * (bs.length : Int)))).heap.size ≤ g') (hrow : Row w2 g' 5 (bts (bs.drop m)).toArray) (hb : Below (w.setCell ⟨p, 1, none⟩ (.int .i64 (8 * (bs.length : Int)))).heap.size (w.setCell ⟨p, 1, none⟩ (.int .i64 (8 * (bs.length : Int)))) w2) :
    RestOk w p g bs i (.returned (.tuple #[.slice (some ⟨g', 0, none⟩) n n', .int .i64 0])) w2 := by
  subst hm
  subst hn'
  subst hn
  have hsz : (w.setCell ⟨p, 1, none⟩ (.int .i64 (8 * (bs.length : Int)))).heap.size = w.heap.size := by simp [World.setCell]
  rw [hsz] at hg
  obtain ⟨h1, h2, h3, h4, h5⟩ := hr
  have hne := h2.apart h1 (by decide)
  have e8 : ((8 * bs.length : Nat) : Int) = 8 * (bs.length : Int) := by omega
  refine ⟨g', rfl, hg, hrow, ⟨by rw [e8]; exact (h1.written 1 _).later hb, (h2.elsewhere (p := ⟨p, 1, none⟩) hne _).later hb, Nat.le_refl _, h4, h5⟩, ?_⟩
  exact ((Only.refl (fun k => k = p) w).set (p := ⟨p, 1, none⟩) (.inl rfl) _).andThen (T := fun _ => False) (.of_below hb) fun _ _ h => h.elim

theorem bts_drop (l : List Nat) (m : Nat) : bts (l.drop m) = (bts l).drop m := by simp [bts, List.map_drop]
theorem src_drop {w : World} {g m : Nat} {xs : List Value} (h : Row w g 5 xs.toArray) : Src w (some ⟨g, m, none⟩) (xs.drop m) := by
  intro _
  refine ⟨_, rfl, fun j u hu => ?_⟩
  have e : (⟨g, m, none⟩ : Addr).add j = ⟨g, m + j, none⟩ := by
    unfold Addr.add
    split
    · rename_i h0
      rw [h0]
      rfl
    · rfl
  rw [e]
  rw [List.getElem?_drop] at hu
  exact h.read (by simpa using hu)

set_option maxRecDepth 100000 in
set_option maxHeartbeats 1600000 in
theorem rest_ok {p g : Nat} {bs : List Nat} {i : Nat} (w : World) (hr : RRep w p g bs i) (h : ∀ k, i ≤ k → k < 8 * up i → bitAt bs k = false) :
    Calls Try.prog 249 #[.pointer (some ⟨p, 0, none⟩)] w (RestOk w p g bs i) := by
  have hi := hr.2.2.1
  have hn := hr.2.2.2.1
  have hup : up i ≤ bs.length := by unfold up; omega
  have hc0 : w.cell? ⟨p, 0, none⟩ = some (.slice (some ⟨g, 0, none⟩) bs.length bs.length) := hr.1.read rfl
  have hc1 : w.cell? ⟨p, 1, none⟩ = some (.int .i64 i) := hr.1.read rfl
  have hf1 := hr.1.free 1
  have HR := Lib.hid hr
  have HH := Lib.hid h
  clear hr h
  go_enter Try.func249, Try.ntmps249
  go_wp2
  refine wp_scope_jumps 0 (fun a' w' => ∃ k : Nat, i ≤ k ∧ k ≤ 8 * up i ∧ Fr [some (.pointer (some ⟨p, 0, none⟩)), none, none, none, some (.int .i64 k), none, none, none, none, none, none, none, none, none, none, none, none, none, none, none, none, none, none, none, none, none, none, none, none, none, none, none, none, none, none, none, none] a' ∧ w' = w) (fun a' _ => 8 * up i - (intOf (a'.tmps.getD 4 undef)).toNat) rfl ?_ ?_
  · go_wp2
    go_step3
    obtain ⟨k, hki⟩ : ∃ k, k = i := ⟨i, rfl⟩
    have hk0 : i ≤ k := by omega
    have hk1 : k ≤ 8 * up i := by unfold up; omega
    subst hki
    clear hc1
    have hc1 : w.cell? ⟨p, 1, none⟩ = some (.int .i64 k) := HR.out.1.read rfl
    by_cases h8 : k % 8 = 0
    · have hku : k / 8 = up k := by unfold up at *; omega
      have hb8 : ((k : Int) % 8 != 0) = false := by simp; omega
      obtain ⟨m, rfl⟩ : ∃ m, k = 8 * m := ⟨k / 8, by omega⟩
      have hmu : m = up (8 * m) := by omega
      have hrow := HR.out.2.1
      have hne := HR.out.ne
      have HE := Lib.hid (fun g' (w2 : World) n => rest_end (w2 := w2) HR.out hmu (g' := g') (n := n) (n' := n))
      have hlen : (bs.drop m).length = bs.length - m := by rw [List.length_drop]
      have HC := Lib.hid (fun A' cap' W h => copied_any A' cap' (bs.drop m) W (by rw [hlen]; omega) h)
      rw [hlen] at HC
      have HS := Lib.hid (src_drop (m := m) (hrow.elsewhere (p := ⟨p, 1, none⟩) hne (.int .i64 (8 * (bs.length : Int)))))
      have HZ := Lib.hid hmu
      clear h8 hku hrow hlen hmu
      rcases Nat.lt_or_ge m bs.length with hml | hml
      · generalize hN : bs.length = N at *
        have HN := Lib.hid hN
        clear hN
        rw [← bts_drop] at HS
        go_wp2_with (go_at_call 260; refine (HC.out _ _ _ ?_).mono ?_; exact HS.out; rintro e w2 ⟨g', rfl, hg, hrow, hb⟩)
        simp only [Exit.jump]
        refine bodyPost_ret (v := .tuple #[.slice (some ⟨g', 0, none⟩) (N - m) (N - m), .int .i64 0]) (by simp [results, Try.results249, go_sem]) rfl ?_
        exact HE.out g' w2 (N - m) rfl trivial hg hrow hb
      · have hmn : bs.length = m := by omega
        have hd : bs.drop m = [] := by rw [List.drop_eq_nil_iff]; omega
        have HD := Lib.hid hd
        have HC0 := Lib.hid (fun A' cap' W h => copied_any A' cap' [] W (by simp) h)
        rw [hmn] at hc0 HE
        have HMN := Lib.hid hmn
        clear hd HC HS hmn
        go_wp2_with (go_at_call 260; refine (HC0.out _ _ _ ?_).mono ?_; intro h0; simp [bts] at h0; rintro e w2 ⟨g', rfl, hg, hrow, hb⟩)
        simp only [Exit.jump]
        refine bodyPost_ret (v := .tuple #[.slice (some ⟨g', 0, none⟩) 0 0, .int .i64 0]) (by simp [results, Try.results249, go_sem]) rfl ?_
        exact HE.out g' w2 0 (by omega) trivial hg (by rw [HD.out]; exact hrow) hb
    · have hb8 : ((k : Int) % 8 != 0) = true := by simp; omega
      have hklt : k < 8 * up k := by unfold up at *; omega
      have hbit := HH.out k hk0 hklt
      have hkl : k < 8 * bs.length := by omega
      go_wp2_with (go_at_call 263; refine (bit_any HR.out hkl).mono ?_; rintro e w1 ⟨rfl, rfl⟩; rw [hbit])
      go_step3
      refine ⟨rfl, k + 1, by omega, by omega, ?_, rfl⟩
      simp only [Fr, Holes]
      repeat apply Exists.intro
      rfl
  · rintro a' w' ⟨k, hk0, hk1, hfr, rfl⟩
    simp only [Fr, Holes] at hfr
    repeat (obtain ⟨_, hfr⟩ := hfr)
    by_cases h8 : k % 8 = 0
    · have hku : k / 8 = up i := by unfold up at *; omega
      have hb8 : ((k : Int) % 8 != 0) = false := by simp; omega
      obtain ⟨m, rfl⟩ : ∃ m, k = 8 * m := ⟨k / 8, by omega⟩
      have hmu : m = up i := by omega
      have hrow := HR.out.2.1
      have hne := HR.out.ne
      have HE := Lib.hid (fun g' (w2 : World) n => rest_end (w2 := w2) HR.out hmu (g' := g') (n := n) (n' := n))
      have hlen : (bs.drop m).length = bs.length - m := by rw [List.length_drop]
      have HC := Lib.hid (fun A' cap' W h => copied_any A' cap' (bs.drop m) W (by rw [hlen]; omega) h)
      rw [hlen] at HC
      have HS := Lib.hid (src_drop (m := m) (hrow.elsewhere (p := ⟨p, 1, none⟩) hne (.int .i64 (8 * (bs.length : Int)))))
      have HZ := Lib.hid hmu
      clear h8 hku hrow hlen hmu
      rcases Nat.lt_or_ge m bs.length with hml | hml
      · generalize hN : bs.length = N at *
        have HN := Lib.hid hN
        clear hN
        rw [← bts_drop] at HS
        go_wp2_with (go_at_call 260; refine (HC.out _ _ _ ?_).mono ?_; exact HS.out; rintro e w2 ⟨g', rfl, hg, hrow, hb⟩)
        simp only [Exit.jump]
        refine bodyPost_ret (v := .tuple #[.slice (some ⟨g', 0, none⟩) (N - m) (N - m), .int .i64 0]) (by simp [results, Try.results249, go_sem]) rfl ?_
        exact HE.out g' w2 (N - m) rfl trivial hg hrow hb
      · have hmn : bs.length = m := by omega
        have hd : bs.drop m = [] := by rw [List.drop_eq_nil_iff]; omega
        have HD := Lib.hid hd
        have HC0 := Lib.hid (fun A' cap' W h => copied_any A' cap' [] W (by simp) h)
        rw [hmn] at hc0 HE
        have HMN := Lib.hid hmn
        clear hd HC HS hmn
        go_wp2_with (go_at_call 260; refine (HC0.out _ _ _ ?_).mono ?_; intro h0; simp [bts] at h0; rintro e w2 ⟨g', rfl, hg, hrow, hb⟩)
        simp only [Exit.jump]
        refine bodyPost_ret (v := .tuple #[.slice (some ⟨g', 0, none⟩) 0 0, .int .i64 0]) (by simp [results, Try.results249, go_sem]) rfl ?_
        exact HE.out g' w2 0 (by omega) trivial hg (by rw [HD.out]; exact hrow) hb
    · have hb8 : ((k : Int) % 8 != 0) = true := by simp; omega
      have hklt : k < 8 * up i := by unfold up at *; omega
      have hbit := HH.out k hk0 hklt
      have hkl : k < 8 * bs.length := by omega
      go_wp2_with (go_at_call 263; refine (bit_any HR.out hkl).mono ?_; rintro e w1 ⟨rfl, rfl⟩; rw [hbit])
      go_step3
      refine ⟨rfl, ⟨k + 1, by omega, by omega, ?_, rfl⟩, ?_⟩
      · simp only [Fr, Holes]
        repeat apply Exists.intro
        rfl
      · simp [intOf]
        omega
end Go.Proofs.Ytfgjlhklioijmaa
namespace Go.Proofs.Ytfgjlhklioijmaa
open Go.RowKit

/-- bytes as a text -/
def strOf (l : List Nat) : ByteArray := ⟨(l.map UInt8.ofNat).toArray⟩

theorem conv_str {w : World} {g c : Nat} {l : List Nat} (h : Row w g 5 (bts l).toArray) (hb : ∀ b ∈ l, b < 256) :
    (convert 30 9 (.slice (some ⟨g, 0, none⟩) l.length c)).run Try.prog w = .ok (.string (strOf l)) w := by
  have hx := run_convert_bytes_back (P := Try.prog) w 30 9 5 ⟨g, 0, none⟩ c (l.map UInt8.ofNat) Try.underlying30 Try.underlying5 Try.underlying9 (fun j hj => by
    have hj' : j < l.length := by simpa using hj
    rw [add_zero_addr]
    have h1 : (bts l)[j]? = some (.int .u8 (l[j] : Nat)) := bts_at (List.getElem?_eq_getElem hj')
    have h2 := h.read (i := j) (x := .int .u8 (l[j] : Nat)) (by simpa using h1)
    rw [h2, List.getElem_map]
    have h3 : (UInt8.ofNat l[j]).toNat = l[j] := UInt8.toNat_ofNat_of_lt' (hb _ (List.getElem_mem hj'))
    rw [h3])
  rw [List.length_map] at hx
  exact hx

theorem wrote_below {B : Nat} {w w' : World} {p : Nat} {sv : Value} {bl : List Bool} (hr : WRep B w p sv bl) (h : Only (fun k => k = p ∨ sv.ownBlock = some k) w w') : Below B w w' :=
  h.below (by have := hr.1; have := hr.2.1.inside; omega) (fun k hk hS => by
    rcases hS with h1 | h1
    · have := hr.1; omega
    · have := (hr.2.2.lt k h1).1; omega)
theorem get_below {B p : Nat} {w w' : World} (h : Only (fun k => k = p) w w') (hp : B ≤ p) (hB : B ≤ w.heap.size) : Below B w w' :=
  h.below hB (fun k hk hS => by omega)
end Go.Proofs.Ytfgjlhklioijmaa
namespace Go.Proofs.Ytfgjlhklioijmaa
open Go.RowKit

def bitsP (kp : List (Nat × Nat)) : List Bool := kp.flatMap fun x => unval x.1 x.2
def cellsP (kp : List (Nat × Nat)) : List Value := kp.flatMap fun x => [.int .u64 x.1, .int .i64 x.2]
theorem bitsP_snoc (kp : List (Nat × Nat)) (v n : Nat) : bitsP (kp ++ [(v, n)]) = bitsP kp ++ unval v n := by simp [bitsP]
theorem cellsP_snoc (kp : List (Nat × Nat)) (v n : Nat) : cellsP (kp ++ [(v, n)]) = cellsP kp ++ [.int .u64 v, .int .i64 n] := by simp [cellsP]
theorem length_cellsP (kp : List (Nat × Nat)) : (cellsP kp).length = kp.length * 2 := by
  induction kp with
  | nil => rfl
  | cons x kp ih =>
    have : cellsP (x :: kp) = [.int .u64 x.1, .int .i64 x.2] ++ cellsP kp := rfl
    rw [this, List.length_append, ih, List.length_cons]
    simp
    omega
theorem length_bitsP {kp : List (Nat × Nat)} (h : ∀ x ∈ kp, x.2 ≤ 64 ∧ x.1 < 2 ^ x.2) : (bitsP kp).length ≤ 64 * kp.length := by
  induction kp with
  | nil => simp [bitsP]
  | cons x kp ih =>
    have e : bitsP (x :: kp) = unval x.1 x.2 ++ bitsP kp := rfl
    have h1 := h x (List.mem_cons_self ..)
    have h2 := ih fun y hy => h y (List.mem_cons_of_mem _ hy)
    rw [e, List.length_append, length_unval, List.length_cons]
    omega
theorem bitsP_append (a b : List (Nat × Nat)) : bitsP (a ++ b) = bitsP a ++ bitsP b := by simp [bitsP]
theorem bitsP_split {kp : List (Nat × Nat)} {k : Nat} (h : k < kp.length) : bitsP kp = bitsP (kp.take k) ++ (unval kp[k].1 kp[k].2 ++ bitsP (kp.drop (k + 1))) := by
  have h1 : kp = kp.take k ++ (kp[k] :: kp.drop (k + 1)) := by simp
  have h2 : bitsP (kp[k] :: kp.drop (k + 1)) = unval kp[k].1 kp[k].2 ++ bitsP (kp.drop (k + 1)) := rfl
  rw [← h2, ← bitsP_append, ← h1]
theorem bitsP_take {kp : List (Nat × Nat)} {k : Nat} (h : k < kp.length) : (bitsP (kp.take (k + 1))).length = (bitsP (kp.take k)).length + kp[k].2 := by
  rw [List.take_succ_eq_append_getElem h, bitsP_append, List.length_append]
  simp [bitsP, length_unval]
theorem cellsP_at {kp : List (Nat × Nat)} {k : Nat} (h : k < kp.length) : (cellsP kp)[k * 2]? = some (.int .u64 kp[k].1) ∧ (cellsP kp)[k * 2 + 1]? = some (.int .i64 kp[k].2) := by
  have h1 : kp = kp.take k ++ (kp[k] :: kp.drop (k + 1)) := by simp
  have h2 : cellsP kp = cellsP (kp.take k) ++ ([.int .u64 kp[k].1, .int .i64 kp[k].2] ++ cellsP (kp.drop (k + 1))) := by
    have h3 : cellsP (kp[k] :: kp.drop (k + 1)) = [.int .u64 kp[k].1, .int .i64 kp[k].2] ++ cellsP (kp.drop (k + 1)) := rfl
    have h4 : ∀ a b, cellsP (a ++ b) = cellsP a ++ cellsP b := fun a b => by simp [cellsP]
    rw [← h3, ← h4, ← h1]
  have hl : (cellsP (kp.take k)).length = k * 2 := by rw [length_cellsP, List.length_take]; omega
  rw [h2]
  constructor
  · rw [List.getElem?_append_right (by omega), hl, Nat.sub_self]
    rfl
  · rw [List.getElem?_append_right (by omega), hl, show k * 2 + 1 - k * 2 = 1 by omega]
    rfl

/-- what is read is what was put -/
theorem seg_back {kp : List (Nat × Nat)} {k : Nat} (h : k < kp.length) (hv : kp[k].1 < 2 ^ kp[k].2) : val (seg (pack (bitsP kp)) (bitsP (kp.take k)).length kp[k].2) = kp[k].1 := by
  unfold seg
  rw [bitsOf_pack, bitsP_split h, List.append_assoc, List.drop_left, List.append_assoc, List.take_left' (length_unval _ _), val_unval]
  exact Nat.mod_eq_of_lt hv
theorem back_fits {kp : List (Nat × Nat)} {k : Nat} (h : k < kp.length) : (bitsP (kp.take k)).length + kp[k].2 ≤ 8 * (pack (bitsP kp)).length := by
  have h1 := congrArg List.length (bitsP_split h)
  rw [List.length_append, List.length_append, length_unval] at h1
  rw [length_pack]
  unfold packLen
  omega
theorem back_rest (bl : List Bool) : ∀ k, bl.length ≤ k → k < 8 * up bl.length → bitAt (pack bl) k = false := by
  intro k h1 h2
  unfold bitAt
  rw [bitsOf_pack, List.getD_eq_getElem?_getD, List.getElem?_append_right h1, List.getElem?_replicate]
  split <;> rfl
theorem pack_small (bl : List Bool) : ∀ b ∈ pack bl, b < 256 := by
  intro b hb
  unfold pack at hb
  simp only [List.mem_map] at hb
  obtain ⟨i, _, rfl⟩ := hb
  exact byteAt_lt _ _
end Go.Proofs.Ytfgjlhklioijmaa
