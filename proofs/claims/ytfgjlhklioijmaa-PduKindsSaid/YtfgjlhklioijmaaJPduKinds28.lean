/-
  A packet of umd goes there and back: plain lists. pdu: what bytes are is of the mode and of their first bit. A law's row follows from its walk: the call returns true, and below the heap's old size the world is as it was; then every argument reads as it did.
-/
import Derived.Test.YtfgjlhklioijmaaJPduKinds27
import Derived.Test.YtfgjlhklioijmaaJPduKinds18
import Derived.Test.YtfgjlhklioijmaaJPduKinds26
import Derived.Test.YtfgjlhklioijmaaRows
import Derived.WalkKit
import Derived.ProofKit
import Derived.OpenShut
namespace Go.Proofs.Ytfgjlhklioijmaa
open Go.RowKit


theorem bits_pack {b : List Bool} {h : Nat} (hl : b.length = 8 * h) : bitsOf (pack b) = b ∧ (pack b).length = h := by
  have e : packLen b.length = h := by rw [hl]; unfold packLen; omega
  refine ⟨?_, by rw [length_pack, e]⟩
  rw [bitsOf_pack, e, hl, Nat.sub_self]
  simp
theorem pack_bits {hd : List Nat} (hb : ∀ x ∈ hd, x < 256) : pack (bitsOf hd) = hd := by
  obtain ⟨h1, _⟩ := bits_pack (length_bitsOf hd)
  exact bitsOf_inj (fun x hx => pack_small _ x hx) hb h1
theorem seg_mid {a b c : List Bool} {hd : List Nat} {i n : Nat} (h : bitsOf hd = a ++ (b ++ c)) (ha : a.length = i) (hb : b.length = n) : seg hd i n = b := by
  unfold seg
  rw [h, ← ha, List.drop_left, ← hb, List.take_left]
theorem bit_mid {a c : List Bool} {b : Bool} {hd : List Nat} {i : Nat} (h : bitsOf hd = a ++ (b :: c)) (ha : a.length = i) : bitAt hd i = b := by
  unfold bitAt
  rw [h, List.getD_eq_getElem?_getD, List.getElem?_append_right (by omega), ha, Nat.sub_self]
  rfl
theorem unval_one (b : Bool) : unval b.toNat 1 = [b] := by cases b <;> rfl
/-- a head written is read -/
theorem head_back {fi sn nz wd h : Nat} {more : Bool} (hl : nz + 3 + wd = 8 * h) (hf : fi < 4) (hs : sn < 2 ^ wd) :
    val (seg (pack (((unval 0 nz ++ unval fi 2) ++ unval more.toNat 1) ++ unval sn wd)) 0 nz) = 0 ∧ val (seg (pack (((unval 0 nz ++ unval fi 2) ++ unval more.toNat 1) ++ unval sn wd)) nz 2) = fi ∧
    bitAt (pack (((unval 0 nz ++ unval fi 2) ++ unval more.toNat 1) ++ unval sn wd)) (nz + 2) = more ∧ val (seg (pack (((unval 0 nz ++ unval fi 2) ++ unval more.toNat 1) ++ unval sn wd)) (nz + 2 + 1) wd) = sn ∧
    (pack (((unval 0 nz ++ unval fi 2) ++ unval more.toNat 1) ++ unval sn wd)).length = h := by
  have hlen : (((unval 0 nz ++ unval fi 2) ++ unval more.toNat 1) ++ unval sn wd).length = 8 * h := by
    rw [List.length_append, List.length_append, List.length_append, length_unval, length_unval, length_unval, length_unval]
    omega
  obtain ⟨h1, h2⟩ := bits_pack hlen
  rw [unval_one] at *
  refine ⟨?_, ?_, ?_, ?_, h2⟩
  · rw [seg_mid (i := 0) (n := nz) (a := []) (b := unval 0 nz) (c := unval fi 2 ++ ([more] ++ unval sn wd)) (by rw [h1]; simp) rfl (length_unval _ _), val_unval, Nat.zero_mod]
  · rw [seg_mid (a := unval 0 nz) (b := unval fi 2) (c := [more] ++ unval sn wd) (by rw [h1]; simp) (length_unval _ _) (length_unval _ _), val_unval]
    omega
  · exact bit_mid (a := unval 0 nz ++ unval fi 2) (c := unval sn wd) (by rw [h1]; simp) (by rw [List.length_append, length_unval, length_unval])
  · rw [seg_mid (a := (unval 0 nz ++ unval fi 2) ++ [more]) (b := unval sn wd) (c := []) (by rw [h1]; simp) (by rw [List.length_append, List.length_append, length_unval, length_unval]; rfl) (length_unval _ _), val_unval]
    exact Nat.mod_eq_of_lt hs
/-- a head read is what was written -/
theorem head_write {hd : List Nat} {nz wd h : Nat} (hl : nz + 3 + wd = 8 * h) (hh : hd.length = h) (hb : ∀ x ∈ hd, x < 256) (h0 : val (seg hd 0 nz) = 0) :
    pack (((unval 0 nz ++ unval (val (seg hd nz 2)) 2) ++ unval (bitAt hd (nz + 2)).toNat 1) ++ unval (val (seg hd (nz + 2 + 1) wd)) wd) = hd := by
  have hlb : (bitsOf hd).length = 8 * h := by rw [length_bitsOf, hh]
  have u0 : unval 0 nz = seg hd 0 nz := by
    have := unval_val (seg hd 0 nz)
    rw [length_seg (by omega), h0] at this
    exact this
  have u1 : unval (val (seg hd nz 2)) 2 = seg hd nz 2 := by
    have := unval_val (seg hd nz 2)
    rwa [length_seg (by omega)] at this
  have u3 : unval (val (seg hd (nz + 2 + 1) wd)) wd = seg hd (nz + 2 + 1) wd := by
    have := unval_val (seg hd (nz + 2 + 1) wd)
    rwa [length_seg (by omega)] at this
  rw [u0, u1, u3, unval_one]
  have e : ((seg hd 0 nz ++ seg hd nz 2) ++ [bitAt hd (nz + 2)]) ++ seg hd (nz + 2 + 1) wd = bitsOf hd := by
    have s2 : seg hd (nz + 2) 1 = [bitAt hd (nz + 2)] := by
      have := seg_succ (bs := hd) (i := nz + 2) (m := 0) (by omega)
      rw [seg_zero] at this
      simpa using this
    rw [← s2]
    unfold seg
    have d := List.take_append_drop nz (bitsOf hd)
    have d2 := List.take_append_drop 2 ((bitsOf hd).drop nz)
    have d3 := List.take_append_drop 1 ((bitsOf hd).drop (nz + 2))
    rw [List.drop_drop] at d2 d3
    have d4 : ((bitsOf hd).drop (nz + 2 + 1)).take wd = (bitsOf hd).drop (nz + 2 + 1) := List.take_of_length_le (by rw [List.length_drop, hlb]; omega)
    rw [List.drop_zero, d4, List.append_assoc, List.append_assoc, d3, d2, d]
  rw [e]
  exact pack_bits hb

theorem umd_len {fi sn : Nat} {L : List RowB} {wd : Nat} (h : umdF fi sn (lens L) wd ≠ 0) : ((umdBytes fi sn L wd).length : Int) = umdF fi sn (lens L) wd := by
  obtain ⟨hw, _, _, _, h1, h2, _, h3⟩ := umdF_pos h
  have hl : ((tailF (lens L) 11).length : Int) = sizeF (((lens L).length : Int) - 1) 11 := length_tail 11 (.inl rfl) h1 h2
  unfold umdBytes
  rw [List.length_append, List.length_append, length_flat, length_pack, length_headB, h3]
  have e : ((packLen ((if wd = 10 then 3 else 0) + 3 + wd) : Nat) : Int) = (wd : Int) / 5 := by
    have : wd = 5 ∨ wd = 10 := by omega
    rcases this with rfl | rfl <;> rfl
  omega
theorem flat_texts (L : List RowB) : flat L = (texts L).flatten := rfl
theorem umd_back {fi sn : Nat} {L : List RowB} {wd : Nat} (h : umdF fi sn (lens L) wd ≠ 0) : umdRd (umdBytes fi sn L wd) wd = (0, fi, sn, texts L) := by
  have hlen := umd_len h
  have hbig := umdF_big fi sn (lens L) wd
  obtain ⟨hw, _, hf, hs, h1, h2, hok, _⟩ := umdF_pos h
  have hwd : wd = 5 ∨ wd = 10 := by omega
  have hsz := (of_decide_eq_true hs).2
  have hs2 : sn < 2 ^ wd := by
    rcases hwd with rfl | rfl
    · have e : sz ((5 : Nat) : Int) = 32 := by decide
      rw [e] at hsz; omega
    · have e : sz ((10 : Nat) : Int) = 1024 := by decide
      rw [e] at hsz; omega
  have hhb := head_back (fi := fi) (sn := sn) (nz := if wd = 10 then 3 else 0) (wd := wd) (h := wd / 5) (more := decide (1 < L.length)) (by rcases hwd with rfl | rfl <;> rfl) (by omega) hs2
  obtain ⟨b1, b2, b3, b4, b5⟩ := hhb
  have hU : umdBytes fi sn L wd = pack (headB fi sn (decide (1 < L.length)) wd) ++ (tailF (lens L) 11 ++ flat L) := by unfold umdBytes; rw [List.append_assoc]
  have b5' : (pack (headB fi sn (decide (1 < L.length)) wd)).length = wd / 5 := b5
  have htk : (umdBytes fi sn L wd).take (wd / 5) = pack (headB fi sn (decide (1 < L.length)) wd) := by rw [hU, ← b5', List.take_left]
  have hdr : (umdBytes fi sn L wd).drop (wd / 5) = tailF (lens L) 11 ++ flat L := by rw [hU, ← b5', List.drop_left]
  have hfb := fld_back (t := texts L) (wd := 11) (.inl rfl) (by rw [length_texts, ← length_lens]; exact h1) (by rw [length_texts, ← length_lens]; exact h2) (by rw [← lens_texts]; exact hok)
  rw [← lens_texts, ← flat_texts, length_texts] at hfb
  unfold umdRd
  rw [if_pos hwd, if_neg (by omega), if_neg (by
    have : ((wd / 5 : Nat) : Int) ≤ (umdBytes fi sn L wd).length := by
      rw [hU, List.length_append, b5']
      omega
    omega), htk, hdr]
  unfold headB
  rw [if_neg (fun h => h b1), b3, hfb, b2, b4]
  rfl
theorem umd_write {bs : List Nat} {wd fi sn : Nat} {L : List RowB} (hb : ∀ b ∈ bs, b < 256) (h : umdRd bs wd = (0, fi, sn, texts L)) : umdF fi sn (lens L) wd ≠ 0 ∧ umdBytes fi sn L wd = bs := by
  unfold umdRd at h
  by_cases hwd : wd = 5 ∨ wd = 10
  · rw [if_pos hwd] at h
    by_cases h4 : 4000 < bs.length
    · rw [if_pos h4] at h; simp at h
    · rw [if_neg h4] at h
      by_cases hs : bs.length < wd / 5
      · rw [if_pos hs] at h; simp at h
      · rw [if_neg hs] at h
        generalize hnz : (if wd = 10 then 3 else 0) = nz at *
        have hlw : nz + 3 + wd = 8 * (wd / 5) := by rcases hwd with rfl | rfl <;> simp at hnz <;> omega
        by_cases h0 : val (seg (bs.take (wd / 5)) 0 nz) = 0
        · rw [if_neg (fun h => h h0)] at h
          by_cases hf : (fldR (bs.drop (wd / 5)) (bitAt (bs.take (wd / 5)) (nz + 2)) 11).1 = 0
          · rw [if_pos hf] at h
            simp only [Prod.mk.injEq, true_and] at h
            obtain ⟨e1, e2, e3⟩ := h
            have hfr : fldR (bs.drop (wd / 5)) (bitAt (bs.take (wd / 5)) (nz + 2)) 11 = (0, texts L) := by rw [← hf, ← e3]
            have hth : (bs.take (wd / 5)).length = wd / 5 := by rw [List.length_take]; omega
            have hw := head_write hlw hth (fun x hx => hb x (List.mem_of_mem_take hx)) h0
            obtain ⟨q1, q2, q3, q4, q5⟩ := fld_write (.inl rfl) (fun x hx => hb x (List.mem_of_mem_drop hx)) (by rw [List.length_drop]; omega) hfr
            rw [← lens_texts] at q4 q5
            rw [length_texts] at q1 q2 q3
            have hby : umdBytes fi sn L wd = bs := by
              unfold umdBytes headB
              rw [hnz, ← q3, ← e1, ← e2, hw, List.append_assoc, flat_texts, q4, List.take_append_drop]
            refine ⟨?_, hby⟩
            have hv1 := val_lt (seg (bs.take (wd / 5)) nz 2)
            have hv2 := val_lt (seg (bs.take (wd / 5)) (nz + 2 + 1) wd)
            rw [length_seg (by omega)] at hv1 hv2
            rw [e1] at hv1
            rw [e2] at hv2
            have hokn : okn (wd : Int) (sn : Int) = true := by
              refine decide_eq_true ⟨by omega, ?_⟩
              rcases hwd with rfl | rfl
              · have e : sz ((5 : Nat) : Int) = 32 := by decide
                rw [e]; omega
              · have e : sz ((10 : Nat) : Int) = 1024 := by decide
                rw [e]; omega
            have hlt : ((tailF (lens L) 11).length : Int) = sizeF (((lens L).length : Int) - 1) 11 := length_tail (ls := lens L) 11 (.inl rfl) (by rw [length_lens]; exact q1) (by rw [length_lens]; exact q2)
            have hll := congrArg List.length hby
            unfold umdBytes at hll
            rw [List.length_append, List.length_append, length_flat, length_pack, length_headB] at hll
            have e : ((packLen ((if wd = 10 then 3 else 0) + 3 + wd) : Nat) : Int) = (wd : Int) / 5 := by rcases hwd with rfl | rfl <;> rfl
            have hd1 : 1 ≤ (wd : Int) / 5 := by rcases hwd with rfl | rfl <;> decide
            unfold umdF
            rw [if_pos ⟨by rcases hwd with rfl | rfl <;> simp, by omega, by omega, hokn⟩]
            unfold fieldsF
            have hn := sizeF_nonneg (((lens L).length : Int) - 1) 11
            rw [if_pos ⟨by rw [length_lens]; exact q1, by rw [length_lens]; exact q2, q5, by omega⟩]
            omega
          · rw [if_neg hf] at h
            simp only [Prod.mk.injEq] at h
            exact absurd h.1 hf
        · rw [if_pos h0] at h; simp at h
  · rw [if_neg hwd] at h; simp at h
end Go.Proofs.Ytfgjlhklioijmaa
namespace Go.Proofs.Ytfgjlhklioijmaa
open Go.RowKit

theorem big_of {W0 w W : World} (h1 : Below w.heap.size w W0) (h2 : Below W0.heap.size W0 W) : Below w.heap.size w W := bl_step h1 h2
theorem kind_is {A : Option Addr} {bs : List Nat} {m k : Int} (cap : Nat) (w : World) (hs : Src w A (bts bs)) (hb : ∀ b ∈ bs, b < 256) (hk : kindF m bs = k) :
    ∀ W0, Below w.heap.size w W0 → ∀ W, Below W0.heap.size W0 W → Calls Try.prog 154 #[.int .i64 m, .slice A bs.length cap] W fun e w' => e = .returned (.int .i64 k) ∧ W = w' := by
  intro W0 h0 W h1
  have h := pkind_any m bs.length cap W rfl (st_src_later hs (bl_step h0 h1)) hb
  rw [hk] at h
  exact h
theorem umd_some {bs : List Nat} {d : Nat} (hb : ∀ b ∈ bs, b < 256) {L : List RowB} (h0 : (umdRd bs d).1 = 0) (hL : (umdRd bs d).2.2.2 = texts L) : 0 < L.length := by
  have h := (umd_write (L := L) (fi := (umdRd bs d).2.1) (sn := (umdRd bs d).2.2.1) hb (by rw [← h0, ← hL])).1
  rcases L with _ | ⟨r, t⟩
  · exfalso
    apply h
    unfold umdF fieldsF
    simp [lens]
  · simp
theorem ur_any {A : Option Addr} {bs : List Nat} (d cap : Nat) (w : World) (hd : d = 5 ∨ d = 10) (hm : bs.length ≤ 8192) (hc : bs.length ≤ cap) (hcm : cap ≤ 9223372036854775807) (hs : Src w A (bts bs)) (hb : ∀ b ∈ bs, b < 256) :
    Calls Try.prog 103 #[.slice A bs.length cap, .int .i64 d] w (UrdAns w.heap.size w (umdRd bs d)) := by
  rcases hd with rfl | rfl
  · exact uread_5 bs.length cap w rfl hm hc hcm hs hb
  · exact uread_10 bs.length cap w rfl hm hc hcm hs hb
theorem pk_um_all {A : Option Addr} {bs : List Nat} (d cap : Nat) (win reo prx pro ppd pby mrx qb : Int) (w : World) (hd : d = 5 ∨ d = 10) (hl : bs.length ≤ 4100) (hcap : bs.length ≤ cap) (hcm : cap ≤ 9223372036854775807) (hs : Src w A (bts bs)) (hb : ∀ b ∈ bs, b < 256)
    (hck : checkF ⟨1, d, win, reo, prx, pro, ppd, pby, mrx, qb⟩ = 0) :
    Calls Try.prog 5 #[.agg #[.int .i64 1, .int .i64 d, .int .i64 win, .int .i64 reo, .int .i64 prx, .int .i64 pro, .int .i64 ppd, .int .i64 pby, .int .i64 mrx, .int .i64 qb], .slice A bs.length cap] w fun e w' => e = .returned (.bool true) ∧ Below w.heap.size w w' := by
  have hk : kindF 1 bs = 1 := by unfold kindF; rfl
  by_cases h0 : (umdRd bs d).1 = 0
  · refine pk_um d win reo prx pro ppd pby mrx qb bs.length cap w hl hck (fun W0 hW0 => ?_)
    refine pread_um_ok d win reo prx pro ppd pby mrx qb bs.length cap W0 hck (kind_is cap w hs hb hk W0 hW0) (fun W hW => ?_)
    refine (ur_any d cap W hd (by omega) hcap hcm (st_src_later hs (bl_step hW0 hW)) hb).mono ?_
    rintro e w' ⟨⟨_, v, L, h1, rfl, ho⟩ | ⟨h1, _⟩, hbl⟩
    · obtain ⟨Av, cv, rfl, _, _⟩ := ho.form
      exact ⟨_, _, Av, L.length, cv, umd_some hb h0 h1, rfl, hbl⟩
    · exact absurd h0 h1
  · refine pk_err 1 d win reo prx pro ppd pby mrx qb (umdRd bs d).1 bs.length cap w hl hck h0 (by decide) (fun W0 hW0 => ?_)
    refine pread_um_err d win reo prx pro ppd pby mrx qb (umdRd bs d).1 bs.length cap W0 hck (kind_is cap w hs hb hk W0 hW0) h0 (fun W hW => ?_)
    refine (ur_any d cap W hd (by omega) hcap hcm (st_src_later hs (bl_step hW0 hW)) hb).mono ?_
    rintro e w' ⟨⟨h1, _⟩ | ⟨_, rfl⟩, hbl⟩
    · exact absurd h1 h0
    · exact ⟨rfl, hbl⟩
theorem pk_am_all {A : Option Addr} {bs : List Nat} (d cap : Nat) (win reo prx pro ppd pby mrx qb : Int) (w : World) (hd : d = 10 ∨ d = 16) (hl : bs.length ≤ 4100) (hcap : bs.length ≤ cap) (hcm : cap ≤ 9223372036854775807) (hs : Src w A (bts bs)) (hb : ∀ b ∈ bs, b < 256)
    (hk : kindF 2 bs = 2) (hck : checkF ⟨2, d, win, reo, prx, pro, ppd, pby, mrx, qb⟩ = 0) :
    Calls Try.prog 5 #[.agg #[.int .i64 2, .int .i64 d, .int .i64 win, .int .i64 reo, .int .i64 prx, .int .i64 pro, .int .i64 ppd, .int .i64 pby, .int .i64 mrx, .int .i64 qb], .slice A bs.length cap] w fun e w' => e = .returned (.bool true) ∧ Below w.heap.size w w' := by
  by_cases h0 : (amdRd bs d).1 = 0
  · cases bs with
    | nil =>
      exfalso
      rcases hd with rfl | rfl
      · exact absurd h0 (by decide +kernel)
      · exact absurd h0 (by decide +kernel)
    | cons b r =>
      obtain ⟨ad, rfl, hc⟩ := hs (by simp [bts])
      have hge : 128 ≤ b := by
        unfold kindF at hk
        simp at hk
        omega
      refine pk_am (b := b) d win reo prx pro ppd pby mrx qb (amdRd (b :: r) d).2.1.sn (b :: r).length cap w hl (by simp) hck hge (fun W hW => ?_) (fun W0 hW0 => ?_)
      · obtain ⟨ad', e1, hc'⟩ := st_src_later hs hW (by simp [bts])
        injection e1 with e1
        subst e1
        have := hc' 0 (.int .u8 b) rfl
        simpa [Addr.add] using this
      · refine pread_am_ok d win reo prx pro ppd pby mrx qb _ (b :: r).length cap W0 hck (kind_is cap w hs hb hk W0 hW0) (fun W hW => ?_)
        refine (aread_yes d (b :: r).length cap W hd rfl (by omega) hcap hcm (st_src_later hs (bl_step hW0 hW)) hb).mono ?_
        rintro e w' ⟨⟨_, v, L, h1, rfl, ho⟩ | ⟨h1, _⟩, hbl⟩
        · obtain ⟨Av, cv, rfl, _, _⟩ := ho.form
          exact ⟨_, _, _, _, _, Av, L.length, cv, rfl, hbl⟩
        · exact absurd h0 h1
  · refine pk_err 2 d win reo prx pro ppd pby mrx qb (amdRd bs d).1 bs.length cap w hl hck h0 (by decide) (fun W0 hW0 => ?_)
    refine pread_am_err d win reo prx pro ppd pby mrx qb (amdRd bs d).1 bs.length cap W0 hck (kind_is cap w hs hb hk W0 hW0) h0 (fun W hW => ?_)
    refine (aread_yes d bs.length cap W hd rfl (by omega) hcap hcm (st_src_later hs (bl_step hW0 hW)) hb).mono ?_
    rintro e w' ⟨⟨h1, _⟩ | ⟨_, rfl⟩, hbl⟩
    · exact absurd h1 h0
    · exact ⟨rfl, hbl⟩
set_option maxRecDepth 100000 in
theorem pk_st_all {A : Option Addr} {bs : List Nat} (x : Nat) (cap : Nat) (win reo prx pro ppd pby mrx qb : Int) (w : World) (hl : bs.length ≤ 4100) (hcap : bs.length ≤ cap) (hs : Src w A (bts bs)) (hb : ∀ b ∈ bs, b < 256)
    (hk : kindF 2 bs = 3) (hck : checkF ⟨2, x, win, reo, prx, pro, ppd, pby, mrx, qb⟩ = 0) :
    Calls Try.prog 5 #[.agg #[.int .i64 2, .int .i64 x, .int .i64 win, .int .i64 reo, .int .i64 prx, .int .i64 pro, .int .i64 ppd, .int .i64 pby, .int .i64 mrx, .int .i64 qb], .slice A bs.length cap] w fun e w' => e = .returned (.bool true) ∧ Below w.heap.size w w' := by
  rcases hr : stRd bs x with ⟨cd, a, M⟩
  by_cases h0 : cd = 0
  · subst h0
    cases bs with
    | nil =>
      exfalso
      unfold kindF at hk
      simp at hk
    | cons b r =>
      obtain ⟨ad, rfl, hc⟩ := hs (by simp [bts])
      have hlt : b < 128 := by
        unfold kindF at hk
        simp at hk
        omega
      refine pk_st (b := b) x win reo prx pro ppd pby mrx qb a (b :: r).length cap w hl (by simp) hck hlt (fun W hW => ?_) (fun W0 hW0 => ?_)
      · obtain ⟨ad', e1, hc'⟩ := st_src_later hs hW (by simp [bts])
        injection e1 with e1
        subst e1
        have := hc' 0 (.int .u8 b) rfl
        simpa [Addr.add] using this
      · refine pread_st_ok x win reo prx pro ppd pby mrx qb a (b :: r).length cap W0 hck (kind_is cap w hs hb hk W0 hW0) (fun W hW => ?_)
        refine (sread_yes x (b :: r).length cap W rfl (by omega) hcap (st_src_later hs (bl_step hW0 hW)) hb hr).mono ?_
        rintro e w' ⟨A', c', rfl, _, _, _, hbl⟩
        exact ⟨A', _, c', rfl, hbl⟩
  · refine pk_err 2 x win reo prx pro ppd pby mrx qb cd bs.length cap w hl hck h0 (by decide) (fun W0 hW0 => ?_)
    refine pread_st_err x win reo prx pro ppd pby mrx qb cd bs.length cap W0 hck (kind_is cap w hs hb hk W0 hW0) h0 (fun W hW => ?_)
    exact sread_err x bs.length cap W rfl (by omega) hcap (st_src_later hs (bl_step hW0 hW)) hb hr h0
theorem pk_tm_all {A : Option Addr} {bs : List Nat} (cap : Nat) (bits win reo prx pro ppd pby mrx qb : Int) (w : World) (hl : bs.length ≤ 4100) (hs : Src w A (bts bs)) (hb : ∀ b ∈ bs, b < 256)
    (hck : checkF ⟨0, bits, win, reo, prx, pro, ppd, pby, mrx, qb⟩ = 0) :
    Calls Try.prog 5 #[.agg #[.int .i64 0, .int .i64 bits, .int .i64 win, .int .i64 reo, .int .i64 prx, .int .i64 pro, .int .i64 ppd, .int .i64 pby, .int .i64 mrx, .int .i64 qb], .slice A bs.length cap] w fun e w' => e = .returned (.bool true) ∧ Below w.heap.size w w' := by
  have hk : kindF 0 bs = 0 := by unfold kindF; rfl
  by_cases hn : bs.length = 0 ∨ 1000 < bs.length
  · have h0 : (if bs.length = 0 then (8 : Int) else 2) ≠ 0 := by split <;> decide
    have hrd : ∀ W, Below w.heap.size w W → Calls Try.prog 37 #[.agg #[.int .i64 0, .int .i64 bits, .int .i64 win, .int .i64 reo, .int .i64 prx, .int .i64 pro, .int .i64 ppd, .int .i64 pby, .int .i64 mrx, .int .i64 qb], .slice A bs.length cap] W fun e w' => e = .returned (.tuple #[.agg #[.int .i64 0, .slice none 0 0, .int .i64 0, .int .i64 0, .slice none 0 0, .bool false, .int .i64 0, .int .i64 0, .bool false, .bool false, .int .i64 0, .slice none 0 0, .int .i64 0, .slice none 0 0], .int .i64 (if bs.length = 0 then 8 else 2)]) ∧ Below W.heap.size W w' :=
      fun W0 hW0 => pread_tm_err bits win reo prx pro ppd pby mrx qb _ bs.length cap W0 hck (kind_is cap w hs hb hk W0 hW0) h0 (fun W _ => ptext_no bs.length cap W hn)
    by_cases h1 : bs.length = 0
    · exact pk_err0 bits win reo prx pro ppd pby mrx qb _ bs.length cap w hl hck h0 h1 hrd
    · exact pk_err1 bits win reo prx pro ppd pby mrx qb _ bs.length cap w hl hck h0 (by omega) hrd
  · refine pk_tm bits win reo prx pro ppd pby mrx qb bs.length cap w hl hck rfl hs hb (fun W0 hW0 => ?_)
    refine pread_tm_ok (bs := bs) bits win reo prx pro ppd pby mrx qb bs.length cap W0 hck (kind_is cap w hs hb hk W0 hW0) (fun W hW => ?_)
    exact ptext_ok bs.length cap W rfl (by omega) (by omega) (st_src_later hs (bl_step hW0 hW))
theorem check_bits {mode bits win reo prx pro ppd pby mrx qb : Int} (h : checkF ⟨mode, bits, win, reo, prx, pro, ppd, pby, mrx, qb⟩ = 0) : mode = 0 ∨ (mode = 1 ∧ (bits = 5 ∨ bits = 10)) ∨ (mode = 2 ∧ (bits = 10 ∨ bits = 16)) := by
  by_cases h0 : mode = 0
  · exact .inl h0
  · by_cases h1 : mode = 1
    · refine .inr (.inl ⟨h1, ?_⟩)
      subst h1
      by_cases hc : (qbB ⟨1, bits, win, reo, prx, pro, ppd, pby, mrx, qb⟩ && (numB ⟨1, bits, win, reo, prx, pro, ppd, pby, mrx, qb⟩ 5 10 && z5 ⟨1, bits, win, reo, prx, pro, ppd, pby, mrx, qb⟩)) = true
      · simp only [Bool.and_eq_true] at hc
        have := hc.2.1
        unfold numB at this
        simp only [Bool.and_eq_true, in2, Bool.or_eq_true, beq_iff_eq] at this
        exact this.1
      · exfalso
        unfold checkF at h
        simp [hc] at h
    · by_cases h2 : mode = 2
      · refine .inr (.inr ⟨h2, ?_⟩)
        subst h2
        by_cases hc : (qbB ⟨2, bits, win, reo, prx, pro, ppd, pby, mrx, qb⟩ && (numB ⟨2, bits, win, reo, prx, pro, ppd, pby, mrx, qb⟩ 10 16 && askB ⟨2, bits, win, reo, prx, pro, ppd, pby, mrx, qb⟩)) = true
        · simp only [Bool.and_eq_true] at hc
          have := hc.2.1
          unfold numB at this
          simp only [Bool.and_eq_true, in2, Bool.or_eq_true, beq_iff_eq] at this
          exact this.1
        · exfalso
          unfold checkF at h
          simp [hc] at h
      · exfalso
        unfold checkF at h
        simp [h0, h1, h2] at h
theorem pkinds_all {A : Option Addr} {bs : List Nat} (c : Cf) (cap : Nat) (w : World) (hcap : bs.length ≤ cap) (hcm : cap ≤ 9223372036854775807) (hs : Src w A (bts bs)) (hb : ∀ b ∈ bs, b < 256) :
    Calls Try.prog 5 #[.agg c.a, .slice A bs.length cap] w fun e w' => e = .returned (.bool true) ∧ Below w.heap.size w w' := by
  obtain ⟨mode, bits, win, reo, prx, pro, ppd, pby, mrx, qb⟩ := c
  by_cases hl : 4100 < bs.length
  · exact pk_big mode bits win reo prx pro ppd pby mrx qb bs.length cap w hl
  · have hl' : bs.length ≤ 4100 := by omega
    by_cases hck : checkF ⟨mode, bits, win, reo, prx, pro, ppd, pby, mrx, qb⟩ = 0
    · rcases check_bits hck with rfl | ⟨rfl, hbt⟩ | ⟨rfl, hbt⟩
      · exact pk_tm_all cap bits win reo prx pro ppd pby mrx qb w hl' hs hb hck
      · rcases hbt with rfl | rfl
        · exact pk_um_all 5 cap win reo prx pro ppd pby mrx qb w (.inl rfl) hl' hcap hcm hs hb hck
        · exact pk_um_all 10 cap win reo prx pro ppd pby mrx qb w (.inr rfl) hl' hcap hcm hs hb hck
      · have hk : kindF 2 bs = 2 ∨ kindF 2 bs = 3 := by
          unfold kindF
          split
          · omega
          · split
            · omega
            · split
              · exact .inl rfl
              · split
                · exact .inr rfl
                · exact .inl rfl
        rcases hk with hk | hk
        · rcases hbt with rfl | rfl
          · exact pk_am_all 10 cap win reo prx pro ppd pby mrx qb w (.inl rfl) hl' hcap hcm hs hb hk hck
          · exact pk_am_all 16 cap win reo prx pro ppd pby mrx qb w (.inr rfl) hl' hcap hcm hs hb hk hck
        · rcases hbt with rfl | rfl
          · exact pk_st_all 10 cap win reo prx pro ppd pby mrx qb w hl' hcap hs hb hk hck
          · exact pk_st_all 16 cap win reo prx pro ppd pby mrx qb w hl' hcap hs hb hk hck
    · exact pk_chk mode bits win reo prx pro ppd pby mrx qb bs.length cap w hl' hck
end Go.Proofs.Ytfgjlhklioijmaa
namespace Go.Proofs.Ytfgjlhklioijmaa
open Go.ChangeShapes Go.WideShapes Go.ChangeAt Go.RowKit

theorem lawOwn : ownKnob Try.prog.godebug = none := by kernel_rfl
theorem lawLaid : laidOutB Try.prog = true := by kernel_rfl

section
variable {H : Type} {enc : TypeId × Value → H} {P : Program}
/-- what was read in the old world is read in the new one -/
theorem args_stay (hl : laidOutB P = true) {W W' : World} (hb : Below W.heap.size W W') : ∀ (ts : List TypeId) (vs : List Value) (ds : List (DataW H)) (ps : List MemPlace),
    (∀ t ∈ ts, P.readableRec t = true ∧ t < P.types.size) → DataW.TrodAll enc P W 0 (fun _ => true) true ts vs ds ps → (∀ x ∈ ps, x.block < W.heap.size) →
    DataW.TrodAll enc P W' 0 (fun b => decide (b < W.heap.size)) true ts vs ds ps := by
  intro ts
  induction ts with
  | nil =>
    intro vs ds ps _ h _
    obtain ⟨rfl, rfl, rfl⟩ := trodAll_nil h
    exact trodAll_mk0
  | cons t ts ih =>
    intro vs ds ps hr h hlt
    obtain ⟨v, vs', d, ds', p, q, rfl, rfl, rfl, h1, h2⟩ := trodAll_cons h
    have ht := hr t (List.mem_cons_self ..)
    exact trodAll_cons_mk (Below.trod hl ht.1 ht.2 h1 hb fun x hx => hlt x (List.mem_append_left _ hx))
      (ih vs' ds' q (fun u hu => hr u (List.mem_cons_of_mem _ hu)) h2 fun x hx => hlt x (List.mem_append_right _ hx))

theorem law_post {f : Func} {s : ChangeSpec} {W W' : World} {args : Array Value} {ds gs : List (DataW H)} {before : List MemPlace} {B : TypeId}
    (hl : laidOutB P = true) (hr : f.params.toList.all (fun t => P.readableRec t && decide (t < P.types.size)) = true) (hv : s.vars = [])
    (hW : DataW.Whole enc P f.params.toList s.vars false W args.toList ds gs before)
    (hs : s.fn H (ds ++ gs) = { results := [.lit (.bool true)], args := ds }) (ht : f.resultTypes = #[B]) (hB : P.underlying B = some .bool)
    (hb : Below W.heap.size W W') : s.post enc P f false true false false W args (.bool true) W' := by
  have hW' := hW
  obtain ⟨p, q, hA, hV, rfl, _, _⟩ := hW
  rw [hv] at hV
  obtain ⟨rfl, rfl⟩ := trodVars_none hV
  refine ⟨ds, [], p ++ [], [], p, [], hW', ?_, ?_, ?_, hb.frame _, fun h => by cases h⟩
  · rw [hs, ht]
    exact trodAll_mk1 (shut_bool hB true)
  · rw [hs]
    exact args_stay hl hb _ _ _ _ (fun t h => by have := List.all_eq_true.1 hr t h; simpa using this) hA fun x hx => hW'.lt x (List.mem_append_left _ hx)
  · rw [hs, hv]
    exact rfl
end
end Go.Proofs.Ytfgjlhklioijmaa
