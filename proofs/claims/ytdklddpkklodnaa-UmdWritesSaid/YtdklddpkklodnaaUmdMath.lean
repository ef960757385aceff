/-
  A packet of umd goes there and back: plain lists.
-/
import Derived.Test.YtdklddpkklodnaaFldBack
import Derived.Test.YtdklddpkklodnaaUmdRead
namespace Go.Proofs.Ytdklddpkklodnaa
open Go.RowKit


theorem bits_pack {b : List Bool} {h : Nat} (hl : b.length = 8 * h) : bitsOf (pack b) = b ∧ (pack b).length = h := by
  have e : packLen b.length = h := by rw [hl]; unfold packLen; omega
  refine ⟨?_, by rw [length_pack, e]⟩
  rw [bitsOf_pack, e, hl, Nat.sub_self]
  simp
theorem pack_bits {hd : List Nat} (hb : ∀ x ∈ hd, x < 256) : pack (bitsOf hd) = hd := by
  obtain ⟨h1, _⟩ := bits_pack (length_bitsOf hd)
  exact bitsOf_inj (fun x hx => pack_small _ x hx) hb h1
theorem seg_mid {a b c : List Bool} {hd : List Nat} {i n : Nat} (h : bitsOf hd = a ++ (b ++ c)) (ha : a.length = i) (hb : b.length = n) : seg hd i n = b := by
  unfold seg
  rw [h, ← ha, List.drop_left, ← hb, List.take_left]
theorem bit_mid {a c : List Bool} {b : Bool} {hd : List Nat} {i : Nat} (h : bitsOf hd = a ++ (b :: c)) (ha : a.length = i) : bitAt hd i = b := by
  unfold bitAt
  rw [h, List.getD_eq_getElem?_getD, List.getElem?_append_right (by omega), ha, Nat.sub_self]
  rfl
theorem unval_one (b : Bool) : unval b.toNat 1 = [b] := by cases b <;> rfl
/-- a head written is read -/
theorem head_back {fi sn nz wd h : Nat} {more : Bool} (hl : nz + 3 + wd = 8 * h) (hf : fi < 4) (hs : sn < 2 ^ wd) :
    val (seg (pack (((unval 0 nz ++ unval fi 2) ++ unval more.toNat 1) ++ unval sn wd)) 0 nz) = 0 ∧ val (seg (pack (((unval 0 nz ++ unval fi 2) ++ unval more.toNat 1) ++ unval sn wd)) nz 2) = fi ∧
    bitAt (pack (((unval 0 nz ++ unval fi 2) ++ unval more.toNat 1) ++ unval sn wd)) (nz + 2) = more ∧ val (seg (pack (((unval 0 nz ++ unval fi 2) ++ unval more.toNat 1) ++ unval sn wd)) (nz + 2 + 1) wd) = sn ∧
    (pack (((unval 0 nz ++ unval fi 2) ++ unval more.toNat 1) ++ unval sn wd)).length = h := by
  have hlen : (((unval 0 nz ++ unval fi 2) ++ unval more.toNat 1) ++ unval sn wd).length = 8 * h := by
    rw [List.length_append, List.length_append, List.length_append, length_unval, length_unval, length_unval, length_unval]
    omega
  obtain ⟨h1, h2⟩ := bits_pack hlen
  rw [unval_one] at *
  refine ⟨?_, ?_, ?_, ?_, h2⟩
  · rw [seg_mid (i := 0) (n := nz) (a := []) (b := unval 0 nz) (c := unval fi 2 ++ ([more] ++ unval sn wd)) (by rw [h1]; simp) rfl (length_unval _ _), val_unval, Nat.zero_mod]
  · rw [seg_mid (a := unval 0 nz) (b := unval fi 2) (c := [more] ++ unval sn wd) (by rw [h1]; simp) (length_unval _ _) (length_unval _ _), val_unval]
    omega
  · exact bit_mid (a := unval 0 nz ++ unval fi 2) (c := unval sn wd) (by rw [h1]; simp) (by rw [List.length_append, length_unval, length_unval])
  · rw [seg_mid (a := (unval 0 nz ++ unval fi 2) ++ [more]) (b := unval sn wd) (c := []) (by rw [h1]; simp) (by rw [List.length_append, List.length_append, length_unval, length_unval]; rfl) (length_unval _ _), val_unval]
    exact Nat.mod_eq_of_lt hs
/-- a head read is what was written -/
theorem head_write {hd : List Nat} {nz wd h : Nat} (hl : nz + 3 + wd = 8 * h) (hh : hd.length = h) (hb : ∀ x ∈ hd, x < 256) (h0 : val (seg hd 0 nz) = 0) :
    pack (((unval 0 nz ++ unval (val (seg hd nz 2)) 2) ++ unval (bitAt hd (nz + 2)).toNat 1) ++ unval (val (seg hd (nz + 2 + 1) wd)) wd) = hd := by
  have hlb : (bitsOf hd).length = 8 * h := by rw [length_bitsOf, hh]
  have u0 : unval 0 nz = seg hd 0 nz := by
    have := unval_val (seg hd 0 nz)
    rw [length_seg (by omega), h0] at this
    exact this
  have u1 : unval (val (seg hd nz 2)) 2 = seg hd nz 2 := by
    have := unval_val (seg hd nz 2)
    rwa [length_seg (by omega)] at this
  have u3 : unval (val (seg hd (nz + 2 + 1) wd)) wd = seg hd (nz + 2 + 1) wd := by
    have := unval_val (seg hd (nz + 2 + 1) wd)
    rwa [length_seg (by omega)] at this
  rw [u0, u1, u3, unval_one]
  have e : ((seg hd 0 nz ++ seg hd nz 2) ++ [bitAt hd (nz + 2)]) ++ seg hd (nz + 2 + 1) wd = bitsOf hd := by
    have s2 : seg hd (nz + 2) 1 = [bitAt hd (nz + 2)] := by
      have := seg_succ (bs := hd) (i := nz + 2) (m := 0) (by omega)
      rw [seg_zero] at this
      simpa using this
    rw [← s2]
    unfold seg
    have d := List.take_append_drop nz (bitsOf hd)
    have d2 := List.take_append_drop 2 ((bitsOf hd).drop nz)
    have d3 := List.take_append_drop 1 ((bitsOf hd).drop (nz + 2))
    rw [List.drop_drop] at d2 d3
    have d4 : ((bitsOf hd).drop (nz + 2 + 1)).take wd = (bitsOf hd).drop (nz + 2 + 1) := List.take_of_length_le (by rw [List.length_drop, hlb]; omega)
    rw [List.drop_zero, d4, List.append_assoc, List.append_assoc, d3, d2, d]
  rw [e]
  exact pack_bits hb

theorem umd_len {fi sn : Nat} {L : List RowB} {wd : Nat} (h : umdF fi sn (lens L) wd ≠ 0) : ((umdBytes fi sn L wd).length : Int) = umdF fi sn (lens L) wd := by
  obtain ⟨hw, _, _, _, h1, h2, _, h3⟩ := umdF_pos h
  have hl : ((tailF (lens L) 11).length : Int) = sizeF (((lens L).length : Int) - 1) 11 := length_tail 11 (.inl rfl) h1 h2
  unfold umdBytes
  rw [List.length_append, List.length_append, length_flat, length_pack, length_headB, h3]
  have e : ((packLen ((if wd = 10 then 3 else 0) + 3 + wd) : Nat) : Int) = (wd : Int) / 5 := by
    have : wd = 5 ∨ wd = 10 := by omega
    rcases this with rfl | rfl <;> rfl
  omega
theorem flat_texts (L : List RowB) : flat L = (texts L).flatten := rfl
theorem umd_back {fi sn : Nat} {L : List RowB} {wd : Nat} (h : umdF fi sn (lens L) wd ≠ 0) : umdRd (umdBytes fi sn L wd) wd = (0, fi, sn, texts L) := by
  have hlen := umd_len h
  have hbig := umdF_big fi sn (lens L) wd
  obtain ⟨hw, _, hf, hs, h1, h2, hok, _⟩ := umdF_pos h
  have hwd : wd = 5 ∨ wd = 10 := by omega
  have hsz := (of_decide_eq_true hs).2
  have hs2 : sn < 2 ^ wd := by
    rcases hwd with rfl | rfl
    · have e : sz ((5 : Nat) : Int) = 32 := by decide
      rw [e] at hsz; omega
    · have e : sz ((10 : Nat) : Int) = 1024 := by decide
      rw [e] at hsz; omega
  have hhb := head_back (fi := fi) (sn := sn) (nz := if wd = 10 then 3 else 0) (wd := wd) (h := wd / 5) (more := decide (1 < L.length)) (by rcases hwd with rfl | rfl <;> rfl) (by omega) hs2
  obtain ⟨b1, b2, b3, b4, b5⟩ := hhb
  have hU : umdBytes fi sn L wd = pack (headB fi sn (decide (1 < L.length)) wd) ++ (tailF (lens L) 11 ++ flat L) := by unfold umdBytes; rw [List.append_assoc]
  have b5' : (pack (headB fi sn (decide (1 < L.length)) wd)).length = wd / 5 := b5
  have htk : (umdBytes fi sn L wd).take (wd / 5) = pack (headB fi sn (decide (1 < L.length)) wd) := by rw [hU, ← b5', List.take_left]
  have hdr : (umdBytes fi sn L wd).drop (wd / 5) = tailF (lens L) 11 ++ flat L := by rw [hU, ← b5', List.drop_left]
  have hfb := fld_back (t := texts L) (wd := 11) (.inl rfl) (by rw [length_texts, ← length_lens]; exact h1) (by rw [length_texts, ← length_lens]; exact h2) (by rw [← lens_texts]; exact hok)
  rw [← lens_texts, ← flat_texts, length_texts] at hfb
  unfold umdRd
  rw [if_pos hwd, if_neg (by omega), if_neg (by
    have : ((wd / 5 : Nat) : Int) ≤ (umdBytes fi sn L wd).length := by
      rw [hU, List.length_append, b5']
      omega
    omega), htk, hdr]
  unfold headB
  rw [if_neg (fun h => h b1), b3, hfb, b2, b4]
  rfl
theorem umd_write {bs : List Nat} {wd fi sn : Nat} {L : List RowB} (hb : ∀ b ∈ bs, b < 256) (h : umdRd bs wd = (0, fi, sn, texts L)) : umdF fi sn (lens L) wd ≠ 0 ∧ umdBytes fi sn L wd = bs := by
  unfold umdRd at h
  by_cases hwd : wd = 5 ∨ wd = 10
  · rw [if_pos hwd] at h
    by_cases h4 : 4000 < bs.length
    · rw [if_pos h4] at h; simp at h
    · rw [if_neg h4] at h
      by_cases hs : bs.length < wd / 5
      · rw [if_pos hs] at h; simp at h
      · rw [if_neg hs] at h
        generalize hnz : (if wd = 10 then 3 else 0) = nz at *
        have hlw : nz + 3 + wd = 8 * (wd / 5) := by rcases hwd with rfl | rfl <;> simp at hnz <;> omega
        by_cases h0 : val (seg (bs.take (wd / 5)) 0 nz) = 0
        · rw [if_neg (fun h => h h0)] at h
          by_cases hf : (fldR (bs.drop (wd / 5)) (bitAt (bs.take (wd / 5)) (nz + 2)) 11).1 = 0
          · rw [if_pos hf] at h
            simp only [Prod.mk.injEq, true_and] at h
            obtain ⟨e1, e2, e3⟩ := h
            have hfr : fldR (bs.drop (wd / 5)) (bitAt (bs.take (wd / 5)) (nz + 2)) 11 = (0, texts L) := by rw [← hf, ← e3]
            have hth : (bs.take (wd / 5)).length = wd / 5 := by rw [List.length_take]; omega
            have hw := head_write hlw hth (fun x hx => hb x (List.mem_of_mem_take hx)) h0
            obtain ⟨q1, q2, q3, q4, q5⟩ := fld_write (.inl rfl) (fun x hx => hb x (List.mem_of_mem_drop hx)) (by rw [List.length_drop]; omega) hfr
            rw [← lens_texts] at q4 q5
            rw [length_texts] at q1 q2 q3
            have hby : umdBytes fi sn L wd = bs := by
              unfold umdBytes headB
              rw [hnz, ← q3, ← e1, ← e2, hw, List.append_assoc, flat_texts, q4, List.take_append_drop]
            refine ⟨?_, hby⟩
            have hv1 := val_lt (seg (bs.take (wd / 5)) nz 2)
            have hv2 := val_lt (seg (bs.take (wd / 5)) (nz + 2 + 1) wd)
            rw [length_seg (by omega)] at hv1 hv2
            rw [e1] at hv1
            rw [e2] at hv2
            have hokn : okn (wd : Int) (sn : Int) = true := by
              refine decide_eq_true ⟨by omega, ?_⟩
              rcases hwd with rfl | rfl
              · have e : sz ((5 : Nat) : Int) = 32 := by decide
                rw [e]; omega
              · have e : sz ((10 : Nat) : Int) = 1024 := by decide
                rw [e]; omega
            have hlt : ((tailF (lens L) 11).length : Int) = sizeF (((lens L).length : Int) - 1) 11 := length_tail (ls := lens L) 11 (.inl rfl) (by rw [length_lens]; exact q1) (by rw [length_lens]; exact q2)
            have hll := congrArg List.length hby
            unfold umdBytes at hll
            rw [List.length_append, List.length_append, length_flat, length_pack, length_headB] at hll
            have e : ((packLen ((if wd = 10 then 3 else 0) + 3 + wd) : Nat) : Int) = (wd : Int) / 5 := by rcases hwd with rfl | rfl <;> rfl
            have hd1 : 1 ≤ (wd : Int) / 5 := by rcases hwd with rfl | rfl <;> decide
            unfold umdF
            rw [if_pos ⟨by rcases hwd with rfl | rfl <;> simp, by omega, by omega, hokn⟩]
            unfold fieldsF
            have hn := sizeF_nonneg (((lens L).length : Int) - 1) 11
            rw [if_pos ⟨by rw [length_lens]; exact q1, by rw [length_lens]; exact q2, q5, by omega⟩]
            omega
          · rw [if_neg hf] at h
            simp only [Prod.mk.injEq] at h
            exact absurd h.1 hf
        · rw [if_pos h0] at h; simp at h
  · rw [if_neg hwd] at h; simp at h
end Go.Proofs.Ytdklddpkklodnaa
