/-
  Fields go there and back: plain lists. A packet of umd goes there and back: plain lists. A packet of amd goes there and back: plain lists. A packet of amd goes there and back: plain lists, its fields too.
-/
import Derived.Test.YtgdpjaojlhdhdaaJAmdWrites08
import Derived.Test.YtgdpjaojlhdhdaaJAmdWrites09
import Derived.Test.YtgdpjaojlhdhdaaJAmdWrites10
import Derived.Test.YtgdpjaojlhdhdaaJAmdWrites21
namespace Go.Proofs.Ytgdpjaojlhdhdaa


theorem lens_texts (L : List RowB) : lens L = (texts L).map List.length := by simp [lens, texts]
theorem ok_last {ls : List Nat} (h : okTo ls ls.length = true) (h0 : 0 < ls.length) : ∃ x, ls.getLast? = some x ∧ 1 ≤ x := by
  have h1 : ls[ls.length - 1]? = some ls[ls.length - 1] := List.getElem?_eq_getElem (by omega)
  refine ⟨ls[ls.length - 1], by rw [List.getLast?_eq_getElem?]; exact h1, (okTo_small h h1).1⟩
theorem two_pow_wd {wd : Nat} (h : wd = 11 ∨ wd = 15) : 2048 ≤ 2 ^ wd := by rcases h with rfl | rfl <;> decide
/-- what was written is read -/
theorem fld_back {t : List (List Nat)} {wd : Nat} (hw : wd = 11 ∨ wd = 15) (h1 : 1 ≤ t.length) (h24 : t.length ≤ 24) (hok : okTo (t.map List.length) (t.map List.length).length = true) :
    fldR (tailF (t.map List.length) wd ++ t.flatten) (decide (1 < t.length)) wd = (0, t) := by
  have hl : (t.map List.length).length = t.length := by simp
  have hc : cutF t.flatten ((t.map List.length).take (t.length - 1)) = some t := by
    refine cutF_back t (fun e => by rw [e] at h1; simp at h1) (fun x hx e => ?_)
    obtain ⟨y, hy, hy1⟩ := ok_last hok (by omega)
    rw [List.getLast?_map, hx, e] at hy
    simp at hy
    omega
  by_cases h2 : 1 < t.length
  · have hpos := tail_lens hok
    rw [hl] at hpos
    have htl : ((t.map List.length).take (t.length - 1)).length = t.length - 1 := by rw [List.length_take, hl]; omega
    have hrb := read_back (w := wd) (z := t.flatten) (l := (t.map List.length).take (t.length - 1)) (fun e => by rw [e] at htl; simp at htl; omega) (by omega) (fun x hx => ⟨(hpos x hx).1, Nat.lt_of_lt_of_le (hpos x hx).2 (two_pow_wd hw)⟩)
    have hpl : (pack (wbl wd ((t.map List.length).take (t.length - 1)))).length = packLen (((t.map List.length).take (t.length - 1)).length * (wd + 1)) := by rw [length_pack, length_wbl]
    have hany : ((t.map List.length).take (t.length - 1)).any (fun x => decide (2047 < x)) = false := by
      rw [← Bool.not_eq_true, List.any_eq_true]
      rintro ⟨x, hx, h⟩
      rw [decide_eq_true_iff] at h
      have := hpos x hx
      omega
    unfold tailF fldR
    rw [hl, if_pos h2, decide_eq_true h2, hrb]
    simp only [if_true, hany, Bool.false_eq_true, if_false]
    rw [← hpl, List.drop_left, hc]
    rfl
  · have e1 : t.length - 1 = 0 := by omega
    rw [e1, List.take_zero] at hc
    unfold tailF fldR
    rw [hl, if_neg h2, decide_eq_false h2, List.nil_append]
    simp only [Bool.false_eq_true, if_false]
    rw [hc]
    rfl
theorem ansOf_zero {o : Option (List (List Nat))} {t : List (List Nat)} (h : ansOf o = (0, t)) : o = some t := by
  cases o with
  | none => simp [ansOf] at h
  | some x => simp [ansOf] at h; rw [h]
theorem okTo_of {ls : List Nat} (h : ∀ k m, ls[k]? = some m → 1 ≤ m ∧ m ≤ 4000 ∧ (k + 1 ≠ ls.length → m ≤ 2047)) : okTo ls ls.length = true := by
  unfold okTo
  rw [List.all_eq_true]
  intro j hj
  rw [List.mem_range] at hj
  have h1 := h j ls[j] (List.getElem?_eq_getElem hj)
  rw [List.getD_eq_getElem?_getD, List.getElem?_eq_getElem hj, Option.getD_some]
  unfold okAt
  by_cases e : j + 1 = ls.length
  · rw [if_pos e, decide_eq_true h1.1, decide_eq_true h1.2.1]
    rfl
  · rw [if_neg e, decide_eq_true h1.1, decide_eq_true (h1.2.2 e)]
    rfl
theorem sum_lens (t : List (List Nat)) : (t.map List.length).sum = t.flatten.length := by
  rw [List.length_flatten]
/-- what is read may be, and has, written, the bytes that it was read from -/
theorem fld_write {bs : List Nat} {more : Bool} {wd : Nat} {t : List (List Nat)} (_hw : wd = 11 ∨ wd = 15) (hb : ∀ b ∈ bs, b < 256) (h4 : bs.length ≤ 4000) (h : fldR bs more wd = (0, t)) :
    1 ≤ t.length ∧ t.length ≤ 24 ∧ more = decide (1 < t.length) ∧ tailF (t.map List.length) wd ++ t.flatten = bs ∧ okTo (t.map List.length) (t.map List.length).length = true := by
  have hl : (t.map List.length).length = t.length := by simp
  have fin : ∀ ls z, cutF z ls = some t → z.length ≤ 4000 → (∀ x ∈ ls, 1 ≤ x ∧ x ≤ 2047) → okTo (t.map List.length) (t.map List.length).length = true := by
    intro ls z hc hz hls
    obtain ⟨c1, c2, c3, x, c4, c5⟩ := cutF_ok hc
    refine okTo_of (fun k m hm => ?_)
    have hmz : m ≤ 4000 := by
      have e1 := sumTo_succ hm
      have e2 := sumTo_le (t.map List.length) (k + 1)
      rw [sum_lens, c1] at e2
      omega
    rw [hl]
    have hk : k < t.length := by have := (List.getElem?_eq_some_iff.1 hm).1; rw [hl] at this; exact this
    by_cases e : k < ls.length
    · have h9 : ((t.map List.length).take ls.length)[k]? = some m := by rw [List.getElem?_take, if_pos e]; exact hm
      rw [c3] at h9
      have := hls m (List.mem_of_getElem? h9)
      exact ⟨this.1, hmz, fun _ => this.2⟩
    · have e2 : k = t.length - 1 := by omega
      subst e2
      rw [List.getLast?_eq_getElem?] at c4
      rw [List.getElem?_map, c4] at hm
      simp at hm
      refine ⟨?_, hmz, fun h => by omega⟩
      cases x with
      | nil => exact absurd rfl c5
      | cons a r => simp at hm; omega
  unfold fldR at h
  cases more
  · simp only [Bool.false_eq_true, if_false] at h
    have hc := ansOf_zero h
    obtain ⟨c1, c2, c3, x, c4, c5⟩ := cutF_ok hc
    simp only [List.length_nil, Nat.zero_add] at c2
    refine ⟨by omega, by omega, by rw [c2]; rfl, ?_, fin [] bs hc h4 (fun x hx => by cases hx)⟩
    unfold tailF
    rw [hl, if_neg (by omega), List.nil_append, c1]
  · simp only [if_true] at h
    by_cases h0 : (readF bs wd).2.2 = 0
    · obtain ⟨ls, k, hrf⟩ : ∃ ls k, readF bs wd = (ls, k, 0) := ⟨(readF bs wd).1, (readF bs wd).2.1, by rw [← h0]⟩
      rw [hrf] at h
      simp only [if_true] at h
      cases hany : ls.any fun x => decide (2047 < x)
      · rw [hany] at h
        simp only [Bool.false_eq_true, if_false] at h
        have hc := ansOf_zero h
        obtain ⟨c1, c2, c3, x, c4, c5⟩ := cutF_ok hc
        obtain ⟨q1, q2, q3, q4, q5, q6⟩ := read_write hb hrf
        have q7 : 1 ≤ ls.length := by
          cases ls with
          | nil => exact absurd rfl q1
          | cons => simp
        have hls : ∀ x ∈ ls, 1 ≤ x ∧ x ≤ 2047 := fun x hx => by
          refine ⟨(q3 x hx).1, ?_⟩
          rcases Nat.lt_or_ge 2047 x with h9 | h9
          · have : ls.any (fun x => decide (2047 < x)) = true := List.any_eq_true.2 ⟨x, hx, decide_eq_true h9⟩
            rw [hany] at this
            cases this
          · exact h9
        refine ⟨by omega, by omega, by rw [c2, decide_eq_true (by omega)], ?_, fin ls _ hc (by rw [List.length_drop]; omega) hls⟩
        unfold tailF
        rw [hl, if_pos (by omega), show t.length - 1 = ls.length by omega, c3, q6, c1, List.take_append_drop]
      · rw [hany] at h
        simp at h
    · rw [if_neg h0] at h
      simp only [Prod.mk.injEq] at h
      exact absurd h.1 h0
end Go.Proofs.Ytgdpjaojlhdhdaa
namespace Go.Proofs.Ytgdpjaojlhdhdaa
open Go.RowKit


theorem bits_pack {b : List Bool} {h : Nat} (hl : b.length = 8 * h) : bitsOf (pack b) = b ∧ (pack b).length = h := by
  have e : packLen b.length = h := by rw [hl]; unfold packLen; omega
  refine ⟨?_, by rw [length_pack, e]⟩
  rw [bitsOf_pack, e, hl, Nat.sub_self]
  simp
theorem pack_bits {hd : List Nat} (hb : ∀ x ∈ hd, x < 256) : pack (bitsOf hd) = hd := by
  obtain ⟨h1, _⟩ := bits_pack (length_bitsOf hd)
  exact bitsOf_inj (fun x hx => pack_small _ x hx) hb h1
theorem seg_mid {a b c : List Bool} {hd : List Nat} {i n : Nat} (h : bitsOf hd = a ++ (b ++ c)) (ha : a.length = i) (hb : b.length = n) : seg hd i n = b := by
  unfold seg
  rw [h, ← ha, List.drop_left, ← hb, List.take_left]
theorem bit_mid {a c : List Bool} {b : Bool} {hd : List Nat} {i : Nat} (h : bitsOf hd = a ++ (b :: c)) (ha : a.length = i) : bitAt hd i = b := by
  unfold bitAt
  rw [h, List.getD_eq_getElem?_getD, List.getElem?_append_right (by omega), ha, Nat.sub_self]
  rfl
theorem unval_one (b : Bool) : unval b.toNat 1 = [b] := by cases b <;> rfl
/-- a head written is read -/
theorem head_back {fi sn nz wd h : Nat} {more : Bool} (hl : nz + 3 + wd = 8 * h) (hf : fi < 4) (hs : sn < 2 ^ wd) :
    val (seg (pack (((unval 0 nz ++ unval fi 2) ++ unval more.toNat 1) ++ unval sn wd)) 0 nz) = 0 ∧ val (seg (pack (((unval 0 nz ++ unval fi 2) ++ unval more.toNat 1) ++ unval sn wd)) nz 2) = fi ∧
    bitAt (pack (((unval 0 nz ++ unval fi 2) ++ unval more.toNat 1) ++ unval sn wd)) (nz + 2) = more ∧ val (seg (pack (((unval 0 nz ++ unval fi 2) ++ unval more.toNat 1) ++ unval sn wd)) (nz + 2 + 1) wd) = sn ∧
    (pack (((unval 0 nz ++ unval fi 2) ++ unval more.toNat 1) ++ unval sn wd)).length = h := by
  have hlen : (((unval 0 nz ++ unval fi 2) ++ unval more.toNat 1) ++ unval sn wd).length = 8 * h := by
    rw [List.length_append, List.length_append, List.length_append, length_unval, length_unval, length_unval, length_unval]
    omega
  obtain ⟨h1, h2⟩ := bits_pack hlen
  rw [unval_one] at *
  refine ⟨?_, ?_, ?_, ?_, h2⟩
  · rw [seg_mid (i := 0) (n := nz) (a := []) (b := unval 0 nz) (c := unval fi 2 ++ ([more] ++ unval sn wd)) (by rw [h1]; simp) rfl (length_unval _ _), val_unval, Nat.zero_mod]
  · rw [seg_mid (a := unval 0 nz) (b := unval fi 2) (c := [more] ++ unval sn wd) (by rw [h1]; simp) (length_unval _ _) (length_unval _ _), val_unval]
    omega
  · exact bit_mid (a := unval 0 nz ++ unval fi 2) (c := unval sn wd) (by rw [h1]; simp) (by rw [List.length_append, length_unval, length_unval])
  · rw [seg_mid (a := (unval 0 nz ++ unval fi 2) ++ [more]) (b := unval sn wd) (c := []) (by rw [h1]; simp) (by rw [List.length_append, List.length_append, length_unval, length_unval]; rfl) (length_unval _ _), val_unval]
    exact Nat.mod_eq_of_lt hs
/-- a head read is what was written -/
theorem head_write {hd : List Nat} {nz wd h : Nat} (hl : nz + 3 + wd = 8 * h) (hh : hd.length = h) (hb : ∀ x ∈ hd, x < 256) (h0 : val (seg hd 0 nz) = 0) :
    pack (((unval 0 nz ++ unval (val (seg hd nz 2)) 2) ++ unval (bitAt hd (nz + 2)).toNat 1) ++ unval (val (seg hd (nz + 2 + 1) wd)) wd) = hd := by
  have hlb : (bitsOf hd).length = 8 * h := by rw [length_bitsOf, hh]
  have u0 : unval 0 nz = seg hd 0 nz := by
    have := unval_val (seg hd 0 nz)
    rw [length_seg (by omega), h0] at this
    exact this
  have u1 : unval (val (seg hd nz 2)) 2 = seg hd nz 2 := by
    have := unval_val (seg hd nz 2)
    rwa [length_seg (by omega)] at this
  have u3 : unval (val (seg hd (nz + 2 + 1) wd)) wd = seg hd (nz + 2 + 1) wd := by
    have := unval_val (seg hd (nz + 2 + 1) wd)
    rwa [length_seg (by omega)] at this
  rw [u0, u1, u3, unval_one]
  have e : ((seg hd 0 nz ++ seg hd nz 2) ++ [bitAt hd (nz + 2)]) ++ seg hd (nz + 2 + 1) wd = bitsOf hd := by
    have s2 : seg hd (nz + 2) 1 = [bitAt hd (nz + 2)] := by
      have := seg_succ (bs := hd) (i := nz + 2) (m := 0) (by omega)
      rw [seg_zero] at this
      simpa using this
    rw [← s2]
    unfold seg
    have d := List.take_append_drop nz (bitsOf hd)
    have d2 := List.take_append_drop 2 ((bitsOf hd).drop nz)
    have d3 := List.take_append_drop 1 ((bitsOf hd).drop (nz + 2))
    rw [List.drop_drop] at d2 d3
    have d4 : ((bitsOf hd).drop (nz + 2 + 1)).take wd = (bitsOf hd).drop (nz + 2 + 1) := List.take_of_length_le (by rw [List.length_drop, hlb]; omega)
    rw [List.drop_zero, d4, List.append_assoc, List.append_assoc, d3, d2, d]
  rw [e]
  exact pack_bits hb

theorem umd_len {fi sn : Nat} {L : List RowB} {wd : Nat} (h : umdF fi sn (lens L) wd ≠ 0) : ((umdBytes fi sn L wd).length : Int) = umdF fi sn (lens L) wd := by
  obtain ⟨hw, _, _, _, h1, h2, _, h3⟩ := umdF_pos h
  have hl : ((tailF (lens L) 11).length : Int) = sizeF (((lens L).length : Int) - 1) 11 := length_tail 11 (.inl rfl) h1 h2
  unfold umdBytes
  rw [List.length_append, List.length_append, length_flat, length_pack, length_headB, h3]
  have e : ((packLen ((if wd = 10 then 3 else 0) + 3 + wd) : Nat) : Int) = (wd : Int) / 5 := by
    have : wd = 5 ∨ wd = 10 := by omega
    rcases this with rfl | rfl <;> rfl
  omega
theorem flat_texts (L : List RowB) : flat L = (texts L).flatten := rfl
theorem umd_back {fi sn : Nat} {L : List RowB} {wd : Nat} (h : umdF fi sn (lens L) wd ≠ 0) : umdRd (umdBytes fi sn L wd) wd = (0, fi, sn, texts L) := by
  have hlen := umd_len h
  have hbig := umdF_big fi sn (lens L) wd
  obtain ⟨hw, _, hf, hs, h1, h2, hok, _⟩ := umdF_pos h
  have hwd : wd = 5 ∨ wd = 10 := by omega
  have hsz := (of_decide_eq_true hs).2
  have hs2 : sn < 2 ^ wd := by
    rcases hwd with rfl | rfl
    · have e : sz ((5 : Nat) : Int) = 32 := by decide
      rw [e] at hsz; omega
    · have e : sz ((10 : Nat) : Int) = 1024 := by decide
      rw [e] at hsz; omega
  have hhb := head_back (fi := fi) (sn := sn) (nz := if wd = 10 then 3 else 0) (wd := wd) (h := wd / 5) (more := decide (1 < L.length)) (by rcases hwd with rfl | rfl <;> rfl) (by omega) hs2
  obtain ⟨b1, b2, b3, b4, b5⟩ := hhb
  have hU : umdBytes fi sn L wd = pack (headB fi sn (decide (1 < L.length)) wd) ++ (tailF (lens L) 11 ++ flat L) := by unfold umdBytes; rw [List.append_assoc]
  have b5' : (pack (headB fi sn (decide (1 < L.length)) wd)).length = wd / 5 := b5
  have htk : (umdBytes fi sn L wd).take (wd / 5) = pack (headB fi sn (decide (1 < L.length)) wd) := by rw [hU, ← b5', List.take_left]
  have hdr : (umdBytes fi sn L wd).drop (wd / 5) = tailF (lens L) 11 ++ flat L := by rw [hU, ← b5', List.drop_left]
  have hfb := fld_back (t := texts L) (wd := 11) (.inl rfl) (by rw [length_texts, ← length_lens]; exact h1) (by rw [length_texts, ← length_lens]; exact h2) (by rw [← lens_texts]; exact hok)
  rw [← lens_texts, ← flat_texts, length_texts] at hfb
  unfold umdRd
  rw [if_pos hwd, if_neg (by omega), if_neg (by
    have : ((wd / 5 : Nat) : Int) ≤ (umdBytes fi sn L wd).length := by
      rw [hU, List.length_append, b5']
      omega
    omega), htk, hdr]
  unfold headB
  rw [if_neg (fun h => h b1), b3, hfb, b2, b4]
  rfl
theorem umd_write {bs : List Nat} {wd fi sn : Nat} {L : List RowB} (hb : ∀ b ∈ bs, b < 256) (h : umdRd bs wd = (0, fi, sn, texts L)) : umdF fi sn (lens L) wd ≠ 0 ∧ umdBytes fi sn L wd = bs := by
  unfold umdRd at h
  by_cases hwd : wd = 5 ∨ wd = 10
  · rw [if_pos hwd] at h
    by_cases h4 : 4000 < bs.length
    · rw [if_pos h4] at h; simp at h
    · rw [if_neg h4] at h
      by_cases hs : bs.length < wd / 5
      · rw [if_pos hs] at h; simp at h
      · rw [if_neg hs] at h
        generalize hnz : (if wd = 10 then 3 else 0) = nz at *
        have hlw : nz + 3 + wd = 8 * (wd / 5) := by rcases hwd with rfl | rfl <;> simp at hnz <;> omega
        by_cases h0 : val (seg (bs.take (wd / 5)) 0 nz) = 0
        · rw [if_neg (fun h => h h0)] at h
          by_cases hf : (fldR (bs.drop (wd / 5)) (bitAt (bs.take (wd / 5)) (nz + 2)) 11).1 = 0
          · rw [if_pos hf] at h
            simp only [Prod.mk.injEq, true_and] at h
            obtain ⟨e1, e2, e3⟩ := h
            have hfr : fldR (bs.drop (wd / 5)) (bitAt (bs.take (wd / 5)) (nz + 2)) 11 = (0, texts L) := by rw [← hf, ← e3]
            have hth : (bs.take (wd / 5)).length = wd / 5 := by rw [List.length_take]; omega
            have hw := head_write hlw hth (fun x hx => hb x (List.mem_of_mem_take hx)) h0
            obtain ⟨q1, q2, q3, q4, q5⟩ := fld_write (.inl rfl) (fun x hx => hb x (List.mem_of_mem_drop hx)) (by rw [List.length_drop]; omega) hfr
            rw [← lens_texts] at q4 q5
            rw [length_texts] at q1 q2 q3
            have hby : umdBytes fi sn L wd = bs := by
              unfold umdBytes headB
              rw [hnz, ← q3, ← e1, ← e2, hw, List.append_assoc, flat_texts, q4, List.take_append_drop]
            refine ⟨?_, hby⟩
            have hv1 := val_lt (seg (bs.take (wd / 5)) nz 2)
            have hv2 := val_lt (seg (bs.take (wd / 5)) (nz + 2 + 1) wd)
            rw [length_seg (by omega)] at hv1 hv2
            rw [e1] at hv1
            rw [e2] at hv2
            have hokn : okn (wd : Int) (sn : Int) = true := by
              refine decide_eq_true ⟨by omega, ?_⟩
              rcases hwd with rfl | rfl
              · have e : sz ((5 : Nat) : Int) = 32 := by decide
                rw [e]; omega
              · have e : sz ((10 : Nat) : Int) = 1024 := by decide
                rw [e]; omega
            have hlt : ((tailF (lens L) 11).length : Int) = sizeF (((lens L).length : Int) - 1) 11 := length_tail (ls := lens L) 11 (.inl rfl) (by rw [length_lens]; exact q1) (by rw [length_lens]; exact q2)
            have hll := congrArg List.length hby
            unfold umdBytes at hll
            rw [List.length_append, List.length_append, length_flat, length_pack, length_headB] at hll
            have e : ((packLen ((if wd = 10 then 3 else 0) + 3 + wd) : Nat) : Int) = (wd : Int) / 5 := by rcases hwd with rfl | rfl <;> rfl
            have hd1 : 1 ≤ (wd : Int) / 5 := by rcases hwd with rfl | rfl <;> decide
            unfold umdF
            rw [if_pos ⟨by rcases hwd with rfl | rfl <;> simp, by omega, by omega, hokn⟩]
            unfold fieldsF
            have hn := sizeF_nonneg (((lens L).length : Int) - 1) 11
            rw [if_pos ⟨by rw [length_lens]; exact q1, by rw [length_lens]; exact q2, q5, by omega⟩]
            omega
          · rw [if_neg hf] at h
            simp only [Prod.mk.injEq] at h
            exact absurd h.1 hf
        · rw [if_pos h0] at h; simp at h
  · rw [if_neg hwd] at h; simp at h
end Go.Proofs.Ytgdpjaojlhdhdaa
namespace Go.Proofs.Ytgdpjaojlhdhdaa
open Go.RowKit

theorem seg_put {kp : List (Nat × Nat)} {k v n i : Nat} (h : kp[k]? = some (v, n)) (hi : (bitsP (kp.take k)).length = i) (hv : v < 2 ^ n) : val (seg (pack (bitsP kp)) i n) = v := by
  obtain ⟨hk, he⟩ := List.getElem?_eq_some_iff.1 h
  have h1 := seg_back (kp := kp) (k := k) hk (by rw [he]; exact hv)
  rw [he, hi] at h1
  exact h1
theorem bit_put {kp : List (Nat × Nat)} {k i : Nat} {b : Bool} (h : kp[k]? = some (b.toNat, 1)) (hi : (bitsP (kp.take k)).length = i) : bitAt (pack (bitsP kp)) i = b := by
  obtain ⟨hk, he⟩ := List.getElem?_eq_some_iff.1 h
  have h1 := seg_put h hi (bool_lt b).1
  have h2 := back_fits (kp := kp) (k := k) hk
  rw [hi, he] at h2
  rw [val_one (by omega)] at h1
  cases hb : bitAt (pack (bitsP kp)) i <;> cases b <;> rw [hb] at h1 <;> simp_all
/-- numbers got one behind the other, of so many bits each -/
def cutP (hd : List Nat) : Nat → List Nat → List (Nat × Nat)
  | _, [] => []
  | i, n :: r => (val (seg hd i n), n) :: cutP hd (i + n) r
theorem bits_cutP (hd : List Nat) : ∀ (ns : List Nat) (i : Nat), i + ns.sum ≤ 8 * hd.length → bitsP (cutP hd i ns) = ((bitsOf hd).drop i).take ns.sum := by
  intro ns
  induction ns with
  | nil => intro i _; simp [cutP, bitsP]
  | cons n r ih =>
    intro i h
    rw [List.sum_cons] at h
    have e : bitsP (cutP hd i (n :: r)) = unval (val (seg hd i n)) n ++ bitsP (cutP hd (i + n) r) := rfl
    have u := unval_val (seg hd i n)
    rw [length_seg (by omega)] at u
    rw [e, u, ih (i + n) (by omega), List.sum_cons]
    unfold seg
    rw [List.take_add, List.drop_drop]
theorem pack_cutP {hd : List Nat} {ns : List Nat} (hs : ns.sum = 8 * hd.length) (hb : ∀ b ∈ hd, b < 256) : pack (bitsP (cutP hd 0 ns)) = hd := by
  rw [bits_cutP hd ns 0 (by omega), List.drop_zero, hs, List.take_of_length_le (by rw [length_bitsOf]; omega)]
  exact pack_bits hb
theorem val_b {hd : List Nat} {i : Nat} {b : Bool} (h : i < 8 * hd.length) (hb : bitAt hd i = b) : val (seg hd i 1) = b.toNat := by rw [val_one h, hb]
/-- a head written tells what it was written of -/
theorem ahead_back (poll part last : Bool) (fi sn off : Nat) (more : Bool) (wd : Nat) (hw : wd = 10 ∨ wd = 16) (hf : fi < 2 ^ 2) (hs : sn < 2 ^ wd) (ho : off < 2 ^ owNA wd) (hp : part = false → last = false ∧ off = 0) :
    bitAt (pack (bitsP (putsA poll part last fi sn off more wd))) 0 = true ∧ bitAt (pack (bitsP (putsA poll part last fi sn off more wd))) 1 = part ∧ amdHd (pack (bitsP (putsA poll part last fi sn off more wd))) part wd = some (⟨poll, part, last, fi, sn, off⟩, more) := by
  rcases hw with rfl | rfl <;> cases part
  · obtain ⟨rfl, rfl⟩ := hp rfl
    have e : putsA poll false false fi sn 0 more 10 = [(1, 1), (0, 1), (poll.toNat, 1), (fi, 2), (more.toNat, 1), (sn, 10)] := rfl
    rw [e]
    refine ⟨bit_put (k := 0) (i := 0) (b := true) rfl rfl, bit_put (k := 1) (i := 1) (b := false) rfl (by simp [bitsP, length_unval]), ?_⟩
    unfold amdHd
    rw [if_pos rfl, if_neg (by decide), bit_put (k := 2) (i := 2) (b := poll) rfl (by simp [bitsP, length_unval]), bit_put (k := 4) (i := 5) (b := more) rfl (by simp [bitsP, length_unval]), seg_put (k := 3) (i := 3) (v := fi) rfl (by simp [bitsP, length_unval]) hf, seg_put (k := 5) (i := 6) (v := sn) rfl (by simp [bitsP, length_unval]) hs]
  · have e : putsA poll true last fi sn off more 10 = [(1, 1), (1, 1), (poll.toNat, 1), (fi, 2), (more.toNat, 1), (sn, 10), (last.toNat, 1), (off, 15)] := rfl
    rw [e]
    refine ⟨bit_put (k := 0) (i := 0) (b := true) rfl rfl, bit_put (k := 1) (i := 1) (b := true) rfl (by simp [bitsP, length_unval]), ?_⟩
    unfold amdHd
    rw [if_pos rfl, if_pos rfl, bit_put (k := 2) (i := 2) (b := poll) rfl (by simp [bitsP, length_unval]), bit_put (k := 4) (i := 5) (b := more) rfl (by simp [bitsP, length_unval]), seg_put (k := 3) (i := 3) (v := fi) rfl (by simp [bitsP, length_unval]) hf, seg_put (k := 5) (i := 6) (v := sn) rfl (by simp [bitsP, length_unval]) hs, bit_put (k := 6) (i := 16) (b := last) rfl (by simp [bitsP, length_unval]), seg_put (k := 7) (i := 17) (v := off) rfl (by simp [bitsP, length_unval]) (show off < 2 ^ 15 from ho)]
  · obtain ⟨rfl, rfl⟩ := hp rfl
    have e : putsA poll false false fi sn 0 more 16 = [(1, 1), (0, 1), (poll.toNat, 1), (fi, 2), (more.toNat, 1), (false.toNat, 1), (false.toNat, 1), (sn, 16)] := rfl
    rw [e]
    refine ⟨bit_put (k := 0) (i := 0) (b := true) rfl rfl, bit_put (k := 1) (i := 1) (b := false) rfl (by simp [bitsP, length_unval]), ?_⟩
    unfold amdHd
    rw [if_neg (by decide), bit_put (k := 6) (i := 7) (b := false) rfl (by simp [bitsP, length_unval]), if_neg (by decide), if_neg (by decide), bit_put (k := 5) (i := 6) (b := false) rfl (by simp [bitsP, length_unval]), if_neg (by decide), bit_put (k := 2) (i := 2) (b := poll) rfl (by simp [bitsP, length_unval]), bit_put (k := 4) (i := 5) (b := more) rfl (by simp [bitsP, length_unval]), seg_put (k := 3) (i := 3) (v := fi) rfl (by simp [bitsP, length_unval]) hf, seg_put (k := 7) (i := 8) (v := sn) rfl (by simp [bitsP, length_unval]) hs]
  · have e : putsA poll true last fi sn off more 16 = [(1, 1), (1, 1), (poll.toNat, 1), (fi, 2), (more.toNat, 1), (last.toNat, 1), (false.toNat, 1), (sn, 16), (off, 16)] := rfl
    rw [e]
    refine ⟨bit_put (k := 0) (i := 0) (b := true) rfl rfl, bit_put (k := 1) (i := 1) (b := true) rfl (by simp [bitsP, length_unval]), ?_⟩
    unfold amdHd
    rw [if_neg (by decide), bit_put (k := 6) (i := 7) (b := false) rfl (by simp [bitsP, length_unval]), if_neg (by decide), if_pos rfl, bit_put (k := 5) (i := 6) (b := last) rfl (by simp [bitsP, length_unval]), bit_put (k := 2) (i := 2) (b := poll) rfl (by simp [bitsP, length_unval]), bit_put (k := 4) (i := 5) (b := more) rfl (by simp [bitsP, length_unval]), seg_put (k := 3) (i := 3) (v := fi) rfl (by simp [bitsP, length_unval]) hf, seg_put (k := 7) (i := 8) (v := sn) rfl (by simp [bitsP, length_unval]) hs, seg_put (k := 8) (i := 24) (v := off) rfl (by simp [bitsP, length_unval]) (show off < 2 ^ 16 from ho)]
theorem seg_lt {hd : List Nat} {i n : Nat} (h : i + n ≤ 8 * hd.length) : val (seg hd i n) < 2 ^ n := by
  have := val_lt (seg hd i n)
  rwa [length_seg h] at this
/-- a head read, written, is the same -/
theorem ahead_write {hd : List Nat} {part : Bool} {wd : Nat} {h : HdA} {more : Bool} (hw : wd = 10 ∨ wd = 16) (hn : hd.length = headNA part wd) (hb : ∀ b ∈ hd, b < 256) (h0 : bitAt hd 0 = true) (h1 : bitAt hd 1 = part) (ha : amdHd hd part wd = some (h, more)) :
    pack (bitsP (putsA h.poll h.part h.last h.fi h.sn h.off more wd)) = hd ∧ h.part = part ∧ h.fi < 2 ^ 2 ∧ h.sn < 2 ^ wd ∧ h.off < 2 ^ owNA wd ∧ (part = false → h.last = false ∧ h.off = 0) := by
  rcases hw with rfl | rfl <;> cases part <;> simp only [amdHd, if_true] at ha
  · simp at ha
    obtain ⟨rfl, rfl⟩ := ha
    have hn : hd.length = 2 := hn
    refine ⟨?_, rfl, seg_lt (by omega), seg_lt (by omega), Nat.two_pow_pos _, fun _ => ⟨rfl, rfl⟩⟩
    have e : putsA (bitAt hd 2) false false (val (seg hd 3 2)) (val (seg hd 6 10)) 0 (bitAt hd 5) 10 = cutP hd 0 [1, 1, 1, 2, 1, 10] := by
      simp only [cutP, Nat.zero_add, Nat.reduceAdd]
      rw [val_b (by omega) h0, val_b (by omega) h1, val_b (b := bitAt hd 2) (by omega) rfl, val_b (b := bitAt hd 5) (by omega) rfl]
      rfl
    exact (congrArg (fun x => pack (bitsP x)) e).trans (pack_cutP (by rw [hn]; rfl) hb)
  · simp at ha
    obtain ⟨rfl, rfl⟩ := ha
    have hn : hd.length = 4 := hn
    refine ⟨?_, rfl, seg_lt (by omega), seg_lt (by omega), seg_lt (by omega), fun h => by cases h⟩
    have e : putsA (bitAt hd 2) true (bitAt hd 16) (val (seg hd 3 2)) (val (seg hd 6 10)) (val (seg hd 17 15)) (bitAt hd 5) 10 = cutP hd 0 [1, 1, 1, 2, 1, 10, 1, 15] := by
      simp only [cutP, Nat.zero_add, Nat.reduceAdd]
      rw [val_b (by omega) h0, val_b (by omega) h1, val_b (b := bitAt hd 2) (by omega) rfl, val_b (b := bitAt hd 5) (by omega) rfl, val_b (b := bitAt hd 16) (by omega) rfl]
      rfl
    exact (congrArg (fun x => pack (bitsP x)) e).trans (pack_cutP (by rw [hn]; rfl) hb)
  · have hn : hd.length = 3 := hn
    by_cases h7 : bitAt hd 7 = true
    · simp [h7] at ha
    · by_cases h6 : bitAt hd 6 = true
      · simp [h6] at ha
      · simp [h7, h6] at ha
        obtain ⟨rfl, rfl⟩ := ha
        refine ⟨?_, rfl, seg_lt (by omega), seg_lt (by omega), Nat.two_pow_pos _, fun _ => ⟨rfl, rfl⟩⟩
        have e : putsA (bitAt hd 2) false false (val (seg hd 3 2)) (val (seg hd 8 16)) 0 (bitAt hd 5) 16 = cutP hd 0 [1, 1, 1, 2, 1, 1, 1, 16] := by
          simp only [cutP, Nat.zero_add, Nat.reduceAdd]
          rw [val_b (by omega) h0, val_b (by omega) h1, val_b (b := bitAt hd 2) (by omega) rfl, val_b (b := bitAt hd 5) (by omega) rfl, val_b (by omega) (bit_not h6), val_b (by omega) (bit_not h7)]
          rfl
        exact (congrArg (fun x => pack (bitsP x)) e).trans (pack_cutP (by rw [hn]; rfl) hb)
  · have hn : hd.length = 5 := hn
    by_cases h7 : bitAt hd 7 = true
    · simp [h7] at ha
    · simp [h7] at ha
      obtain ⟨rfl, rfl⟩ := ha
      refine ⟨?_, rfl, seg_lt (by omega), seg_lt (by omega), seg_lt (by omega), fun h => by cases h⟩
      have e : putsA (bitAt hd 2) true (bitAt hd 6) (val (seg hd 3 2)) (val (seg hd 8 16)) (val (seg hd 24 16)) (bitAt hd 5) 16 = cutP hd 0 [1, 1, 1, 2, 1, 1, 1, 16, 16] := by
        simp only [cutP, Nat.zero_add, Nat.reduceAdd]
        rw [val_b (by omega) h0, val_b (by omega) h1, val_b (b := bitAt hd 2) (by omega) rfl, val_b (b := bitAt hd 5) (by omega) rfl, val_b (b := bitAt hd 6) (by omega) rfl, val_b (by omega) (bit_not h7)]
        rfl
      exact (congrArg (fun x => pack (bitsP x)) e).trans (pack_cutP (by rw [hn]; rfl) hb)
end Go.Proofs.Ytgdpjaojlhdhdaa
namespace Go.Proofs.Ytgdpjaojlhdhdaa
open Go.RowKit

theorem len_head (poll part last : Bool) (fi sn off : Nat) (more : Bool) (wd : Nat) : (pack (bitsP (putsA poll part last fi sn off more wd))).length = headNA part wd := by
  rw [length_pack, len_putsA]
  unfold packLen
  omega
theorem amd_len {poll part last : Bool} {fi sn off : Nat} {L : List RowB} {wd : Nat} (h : amdF part last fi sn off (lens L) wd ≠ 0) : ((amdBytes poll part last fi sn off L wd).length : Int) = amdF part last fi sn off (lens L) wd := by
  obtain ⟨hw, _, _, _, _, h1, h2, _, h3⟩ := amdF_pos h
  have hwd : wd = 10 ∨ wd = 16 := by omega
  obtain ⟨e1, e2, _⟩ := lwA_cast hwd
  have hl : ((tailF (lens L) (lwNA wd)).length : Int) = sizeF (((lens L).length : Int) - 1) (lwNA wd) := length_tail (lwNA wd) e2 h1 h2
  unfold amdBytes
  rw [List.length_append, List.length_append, length_flat, len_head, h3, headA_nat part hwd, e1]
  omega
theorem placed_not {part last : Bool} {off wd : Nat} (h : placedA part last (off : Int) (wd : Int) = true) : part = false → last = false ∧ off = 0 := by
  rintro rfl
  unfold placedA at h
  simp at h
  exact ⟨h.2, by omega⟩
theorem amd_back {poll part last : Bool} {fi sn off : Nat} {L : List RowB} {wd : Nat} (h : amdF part last fi sn off (lens L) wd ≠ 0) : amdRd (amdBytes poll part last fi sn off L wd) wd = (0, ⟨poll, part, last, fi, sn, off⟩, texts L) := by
  have hlen := amd_len (poll := poll) h
  have hbig := amdF_big part last fi sn off (lens L) wd
  obtain ⟨hw, _, hf, hs, hpl, h1, h2, hok, _⟩ := amdF_pos h
  have hwd : wd = 10 ∨ wd = 16 := by omega
  have hsn := okn_pow hwd hs
  have hof := placed_off hwd hpl
  obtain ⟨e1, e2, _⟩ := lwA_cast hwd
  obtain ⟨b0, b1, b2⟩ := ahead_back poll part last fi sn off (decide (1 < L.length)) wd hwd (by omega) hsn hof (placed_not hpl)
  have hh := len_head poll part last fi sn off (decide (1 < L.length)) wd
  have hU : amdBytes poll part last fi sn off L wd = pack (bitsP (putsA poll part last fi sn off (decide (1 < L.length)) wd)) ++ (tailF (lens L) (lwNA wd) ++ flat L) := by unfold amdBytes; rw [List.append_assoc]
  generalize pack (bitsP (putsA poll part last fi sn off (decide (1 < L.length)) wd)) = hd at *
  have hbd := headNA_bd part wd
  generalize hby : amdBytes poll part last fi sn off L wd = bs at *
  have htk : bs.take (headNA part wd) = hd := by rw [hU, ← hh, List.take_left]
  have hdr : bs.drop (headNA part wd) = tailF (lens L) (lwNA wd) ++ flat L := by rw [hU, ← hh, List.drop_left]
  have hle : headNA part wd ≤ bs.length := by rw [hU, List.length_append, hh]; omega
  have c0 : bitAt bs 0 = true := by rw [← bitAt_take (m := headNA part wd) (by omega) hle, htk, b0]
  have c1 : bitAt bs 1 = part := by rw [← bitAt_take (m := headNA part wd) (by omega) hle, htk, b1]
  have hR : headR bs wd = (headNA part wd, 0) := by
    unfold headR
    rw [if_pos hwd, if_neg (by omega), if_neg (by omega), c0, c1, if_neg (by decide), if_neg (by omega)]
  have hfb := fld_back (t := texts L) (wd := lwNA wd) e2 (by rw [length_texts, ← length_lens]; exact h1) (by rw [length_texts, ← length_lens]; exact h2) (by rw [← lens_texts]; exact hok)
  rw [← lens_texts, ← flat_texts, length_texts] at hfb
  unfold amdRd
  rw [hR, if_pos rfl, c1, htk, b2, hdr]
  unfold amdRd2
  simp only [hfb, if_true]
theorem okn_of {wd sn : Nat} (hw : wd = 10 ∨ wd = 16) (h : sn < 2 ^ wd) : okn (wd : Int) (sn : Int) = true := by
  refine decide_eq_true ⟨by omega, ?_⟩
  rcases hw with rfl | rfl
  · have e : sz ((10 : Nat) : Int) = 1024 := by decide
    rw [e]; omega
  · have e : sz ((16 : Nat) : Int) = 65536 := by decide
    rw [e]; omega
theorem placed_of {part last : Bool} {off wd : Nat} (hw : wd = 10 ∨ wd = 16) (h : off < 2 ^ owNA wd) (h2 : part = false → last = false ∧ off = 0) : placedA part last (off : Int) (wd : Int) = true := by
  unfold placedA
  cases part
  · obtain ⟨rfl, rfl⟩ := h2 rfl
    rfl
  · simp only [if_true]
    refine decide_eq_true ⟨by omega, ?_⟩
    rcases hw with rfl | rfl
    · have e : topA ((10 : Nat) : Int) = 32768 := rfl
      have : off < 2 ^ 15 := h
      rw [e]; omega
    · have e : topA ((16 : Nat) : Int) = 65536 := rfl
      have : off < 2 ^ 16 := h
      rw [e]; omega
theorem amd_write {bs : List Nat} {wd : Nat} {h : HdA} {L : List RowB} (hb : ∀ b ∈ bs, b < 256) (he : amdRd bs wd = (0, h, texts L)) : amdF h.part h.last h.fi h.sn h.off (lens L) wd ≠ 0 ∧ amdBytes h.poll h.part h.last h.fi h.sn h.off L wd = bs := by
  by_cases hwd : wd = 10 ∨ wd = 16
  · by_cases h0 : (headR bs wd).2 = 0
    · obtain ⟨g1, g2, g3, g4, g5, g6⟩ := headR_ok hwd h0
      obtain ⟨e1, e2, _⟩ := lwA_cast hwd
      unfold amdRd at he
      rw [if_pos h0, g4] at he
      generalize hpart : bitAt bs 1 = part at *
      have hbd := headNA_bd part wd
      have hth : (bs.take (headNA part wd)).length = headNA part wd := by rw [List.length_take]; omega
      have hsm : ∀ b ∈ bs.take (headNA part wd), b < 256 := fun b h => hb b (List.mem_of_mem_take h)
      have c0 : bitAt (bs.take (headNA part wd)) 0 = true := by rw [bitAt_take (by omega) g5, g3]
      have c1 : bitAt (bs.take (headNA part wd)) 1 = part := by rw [bitAt_take (by omega) g5, hpart]
      cases ha : amdHd (bs.take (headNA part wd)) part wd with
      | none => rw [ha] at he; simp [amdRd2] at he
      | some hq =>
        obtain ⟨hh, more⟩ := hq
        rw [ha] at he
        unfold amdRd2 at he
        simp only at he
        by_cases hz : (fldR (bs.drop (headNA part wd)) more (lwNA wd)).1 = 0
        · rw [if_pos hz] at he
          simp only [Prod.mk.injEq, true_and] at he
          obtain ⟨rfl, ht⟩ := he
          obtain ⟨p1, p2, p3, p4, p5, p6⟩ := ahead_write hwd hth hsm c0 c1 ha
          have hfr : fldR (bs.drop (headNA part wd)) more (lwNA wd) = (0, texts L) := by rw [← hz, ← ht]
          obtain ⟨q1, q2, q3, q4, q5⟩ := fld_write e2 (fun x hx => hb x (List.mem_of_mem_drop hx)) (by rw [List.length_drop]; omega) hfr
          rw [← lens_texts] at q4 q5
          rw [length_texts] at q1 q2 q3
          have hby : amdBytes hh.poll hh.part hh.last hh.fi hh.sn hh.off L wd = bs := by
            unfold amdBytes
            rw [← q3, p1, List.append_assoc, flat_texts, q4, List.take_append_drop]
          refine ⟨?_, hby⟩
          have hlt : ((tailF (lens L) (lwNA wd)).length : Int) = sizeF (((lens L).length : Int) - 1) (lwNA wd) := length_tail (ls := lens L) (lwNA wd) e2 (by rw [length_lens]; exact q1) (by rw [length_lens]; exact q2)
          have hll := congrArg List.length hby
          unfold amdBytes at hll
          rw [List.length_append, List.length_append, length_flat, len_head] at hll
          unfold amdF
          rw [if_pos ⟨by omega, by omega, by omega, okn_of hwd p4, placed_of hwd p5 (by rw [p2]; exact p6)⟩]
          unfold fieldsF
          have hn := sizeF_nonneg (((lens L).length : Int) - 1) (lwNA wd)
          have hbh := headNA_bd hh.part wd
          rw [headA_nat _ hwd, e1, if_pos ⟨by rw [length_lens]; exact q1, by rw [length_lens]; exact q2, q5, by omega⟩]
          omega
        · rw [if_neg hz] at he
          simp only [Prod.mk.injEq] at he
          exact absurd he.1 hz
    · unfold amdRd at he
      rw [if_neg h0] at he
      simp only [Prod.mk.injEq] at he
      exact absurd he.1 h0
  · have := amdRd_kind (bs := bs) hwd
    rw [he] at this
    cases this
end Go.Proofs.Ytgdpjaojlhdhdaa
