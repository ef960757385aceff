/-
  Fields go there and back: plain lists.
-/
import Derived.Test.YtdklddpkklodnaaFldWrite
import Derived.Test.YtdklddpkklodnaaCutMath
namespace Go.Proofs.Ytdklddpkklodnaa


theorem lens_texts (L : List RowB) : lens L = (texts L).map List.length := by simp [lens, texts]
theorem ok_last {ls : List Nat} (h : okTo ls ls.length = true) (h0 : 0 < ls.length) : ∃ x, ls.getLast? = some x ∧ 1 ≤ x := by
  have h1 : ls[ls.length - 1]? = some ls[ls.length - 1] := List.getElem?_eq_getElem (by omega)
  refine ⟨ls[ls.length - 1], by rw [List.getLast?_eq_getElem?]; exact h1, (okTo_small h h1).1⟩
theorem two_pow_wd {wd : Nat} (h : wd = 11 ∨ wd = 15) : 2048 ≤ 2 ^ wd := by rcases h with rfl | rfl <;> decide
/-- what was written is read -/
theorem fld_back {t : List (List Nat)} {wd : Nat} (hw : wd = 11 ∨ wd = 15) (h1 : 1 ≤ t.length) (h24 : t.length ≤ 24) (hok : okTo (t.map List.length) (t.map List.length).length = true) :
    fldR (tailF (t.map List.length) wd ++ t.flatten) (decide (1 < t.length)) wd = (0, t) := by
  have hl : (t.map List.length).length = t.length := by simp
  have hc : cutF t.flatten ((t.map List.length).take (t.length - 1)) = some t := by
    refine cutF_back t (fun e => by rw [e] at h1; simp at h1) (fun x hx e => ?_)
    obtain ⟨y, hy, hy1⟩ := ok_last hok (by omega)
    rw [List.getLast?_map, hx, e] at hy
    simp at hy
    omega
  by_cases h2 : 1 < t.length
  · have hpos := tail_lens hok
    rw [hl] at hpos
    have htl : ((t.map List.length).take (t.length - 1)).length = t.length - 1 := by rw [List.length_take, hl]; omega
    have hrb := read_back (w := wd) (z := t.flatten) (l := (t.map List.length).take (t.length - 1)) (fun e => by rw [e] at htl; simp at htl; omega) (by omega) (fun x hx => ⟨(hpos x hx).1, Nat.lt_of_lt_of_le (hpos x hx).2 (two_pow_wd hw)⟩)
    have hpl : (pack (wbl wd ((t.map List.length).take (t.length - 1)))).length = packLen (((t.map List.length).take (t.length - 1)).length * (wd + 1)) := by rw [length_pack, length_wbl]
    have hany : ((t.map List.length).take (t.length - 1)).any (fun x => decide (2047 < x)) = false := by
      rw [← Bool.not_eq_true, List.any_eq_true]
      rintro ⟨x, hx, h⟩
      rw [decide_eq_true_iff] at h
      have := hpos x hx
      omega
    unfold tailF fldR
    rw [hl, if_pos h2, decide_eq_true h2, hrb]
    simp only [if_true, hany, Bool.false_eq_true, if_false]
    rw [← hpl, List.drop_left, hc]
    rfl
  · have e1 : t.length - 1 = 0 := by omega
    rw [e1, List.take_zero] at hc
    unfold tailF fldR
    rw [hl, if_neg h2, decide_eq_false h2, List.nil_append]
    simp only [Bool.false_eq_true, if_false]
    rw [hc]
    rfl
theorem ansOf_zero {o : Option (List (List Nat))} {t : List (List Nat)} (h : ansOf o = (0, t)) : o = some t := by
  cases o with
  | none => simp [ansOf] at h
  | some x => simp [ansOf] at h; rw [h]
theorem okTo_of {ls : List Nat} (h : ∀ k m, ls[k]? = some m → 1 ≤ m ∧ m ≤ 4000 ∧ (k + 1 ≠ ls.length → m ≤ 2047)) : okTo ls ls.length = true := by
  unfold okTo
  rw [List.all_eq_true]
  intro j hj
  rw [List.mem_range] at hj
  have h1 := h j ls[j] (List.getElem?_eq_getElem hj)
  rw [List.getD_eq_getElem?_getD, List.getElem?_eq_getElem hj, Option.getD_some]
  unfold okAt
  by_cases e : j + 1 = ls.length
  · rw [if_pos e, decide_eq_true h1.1, decide_eq_true h1.2.1]
    rfl
  · rw [if_neg e, decide_eq_true h1.1, decide_eq_true (h1.2.2 e)]
    rfl
theorem sum_lens (t : List (List Nat)) : (t.map List.length).sum = t.flatten.length := by
  rw [List.length_flatten]
/-- what is read may be, and has, written, the bytes that it was read from -/
theorem fld_write {bs : List Nat} {more : Bool} {wd : Nat} {t : List (List Nat)} (hw : wd = 11 ∨ wd = 15) (hb : ∀ b ∈ bs, b < 256) (h4 : bs.length ≤ 4000) (h : fldR bs more wd = (0, t)) :
    1 ≤ t.length ∧ t.length ≤ 24 ∧ more = decide (1 < t.length) ∧ tailF (t.map List.length) wd ++ t.flatten = bs ∧ okTo (t.map List.length) (t.map List.length).length = true := by
  have hl : (t.map List.length).length = t.length := by simp
  have fin : ∀ ls z, cutF z ls = some t → z.length ≤ 4000 → (∀ x ∈ ls, 1 ≤ x ∧ x ≤ 2047) → okTo (t.map List.length) (t.map List.length).length = true := by
    intro ls z hc hz hls
    obtain ⟨c1, c2, c3, x, c4, c5⟩ := cutF_ok hc
    refine okTo_of (fun k m hm => ?_)
    have hmz : m ≤ 4000 := by
      have e1 := sumTo_succ hm
      have e2 := sumTo_le (t.map List.length) (k + 1)
      rw [sum_lens, c1] at e2
      omega
    rw [hl]
    have hk : k < t.length := by have := (List.getElem?_eq_some_iff.1 hm).1; rw [hl] at this; exact this
    by_cases e : k < ls.length
    · have h9 : ((t.map List.length).take ls.length)[k]? = some m := by rw [List.getElem?_take, if_pos e]; exact hm
      rw [c3] at h9
      have := hls m (List.mem_of_getElem? h9)
      exact ⟨this.1, hmz, fun _ => this.2⟩
    · have e2 : k = t.length - 1 := by omega
      subst e2
      rw [List.getLast?_eq_getElem?] at c4
      rw [List.getElem?_map, c4] at hm
      simp at hm
      refine ⟨?_, hmz, fun h => by omega⟩
      cases x with
      | nil => exact absurd rfl c5
      | cons a r => simp at hm; omega
  unfold fldR at h
  cases more
  · simp only [Bool.false_eq_true, if_false] at h
    have hc := ansOf_zero h
    obtain ⟨c1, c2, c3, x, c4, c5⟩ := cutF_ok hc
    simp only [List.length_nil, Nat.zero_add] at c2
    refine ⟨by omega, by omega, by rw [c2]; rfl, ?_, fin [] bs hc h4 (fun x hx => by cases hx)⟩
    unfold tailF
    rw [hl, if_neg (by omega), List.nil_append, c1]
  · simp only [if_true] at h
    by_cases h0 : (readF bs wd).2.2 = 0
    · obtain ⟨ls, k, hrf⟩ : ∃ ls k, readF bs wd = (ls, k, 0) := ⟨(readF bs wd).1, (readF bs wd).2.1, by rw [← h0]⟩
      rw [hrf] at h
      simp only [if_true] at h
      cases hany : ls.any fun x => decide (2047 < x)
      · rw [hany] at h
        simp only [Bool.false_eq_true, if_false] at h
        have hc := ansOf_zero h
        obtain ⟨c1, c2, c3, x, c4, c5⟩ := cutF_ok hc
        obtain ⟨q1, q2, q3, q4, q5, q6⟩ := read_write hb hrf
        have q7 : 1 ≤ ls.length := by
          cases ls with
          | nil => exact absurd rfl q1
          | cons => simp
        have hls : ∀ x ∈ ls, 1 ≤ x ∧ x ≤ 2047 := fun x hx => by
          refine ⟨(q3 x hx).1, ?_⟩
          rcases Nat.lt_or_ge 2047 x with h9 | h9
          · have : ls.any (fun x => decide (2047 < x)) = true := List.any_eq_true.2 ⟨x, hx, decide_eq_true h9⟩
            rw [hany] at this
            cases this
          · exact h9
        refine ⟨by omega, by omega, by rw [c2, decide_eq_true (by omega)], ?_, fin ls _ hc (by rw [List.length_drop]; omega) hls⟩
        unfold tailF
        rw [hl, if_pos (by omega), show t.length - 1 = ls.length by omega, c3, q6, c1, List.take_append_drop]
      · rw [hany] at h
        simp at h
    · rw [if_neg h0] at h
      simp only [Prod.mk.injEq] at h
      exact absurd h.1 h0
end Go.Proofs.Ytdklddpkklodnaa
