/-
  A packet of amd goes there and back: plain lists. A packet of amd goes there and back: plain lists, its fields too. The packet that bytes are, of 5 bits.
-/
import Derived.Test.YtgdpjaojlhdhdaaJAmdReads21
import Derived.Test.YtgdpjaojlhdhdaaJAmdReads22
import Derived.Test.YtgdpjaojlhdhdaaJAmdReads10
import Derived.Test.YtgdpjaojlhdhdaaJAmdReads02
namespace Go.Proofs.Ytgdpjaojlhdhdaa
open Go.RowKit

theorem seg_put {kp : List (Nat × Nat)} {k v n i : Nat} (h : kp[k]? = some (v, n)) (hi : (bitsP (kp.take k)).length = i) (hv : v < 2 ^ n) : val (seg (pack (bitsP kp)) i n) = v := by
  obtain ⟨hk, he⟩ := List.getElem?_eq_some_iff.1 h
  have h1 := seg_back (kp := kp) (k := k) hk (by rw [he]; exact hv)
  rw [he, hi] at h1
  exact h1
theorem bit_put {kp : List (Nat × Nat)} {k i : Nat} {b : Bool} (h : kp[k]? = some (b.toNat, 1)) (hi : (bitsP (kp.take k)).length = i) : bitAt (pack (bitsP kp)) i = b := by
  obtain ⟨hk, he⟩ := List.getElem?_eq_some_iff.1 h
  have h1 := seg_put h hi (bool_lt b).1
  have h2 := back_fits (kp := kp) (k := k) hk
  rw [hi, he] at h2
  rw [val_one (by omega)] at h1
  cases hb : bitAt (pack (bitsP kp)) i <;> cases b <;> rw [hb] at h1 <;> simp_all
/-- numbers got one behind the other, of so many bits each -/
def cutP (hd : List Nat) : Nat → List Nat → List (Nat × Nat)
  | _, [] => []
  | i, n :: r => (val (seg hd i n), n) :: cutP hd (i + n) r
theorem bits_cutP (hd : List Nat) : ∀ (ns : List Nat) (i : Nat), i + ns.sum ≤ 8 * hd.length → bitsP (cutP hd i ns) = ((bitsOf hd).drop i).take ns.sum := by
  intro ns
  induction ns with
  | nil => intro i _; simp [cutP, bitsP]
  | cons n r ih =>
    intro i h
    rw [List.sum_cons] at h
    have e : bitsP (cutP hd i (n :: r)) = unval (val (seg hd i n)) n ++ bitsP (cutP hd (i + n) r) := rfl
    have u := unval_val (seg hd i n)
    rw [length_seg (by omega)] at u
    rw [e, u, ih (i + n) (by omega), List.sum_cons]
    unfold seg
    rw [List.take_add, List.drop_drop]
theorem pack_cutP {hd : List Nat} {ns : List Nat} (hs : ns.sum = 8 * hd.length) (hb : ∀ b ∈ hd, b < 256) : pack (bitsP (cutP hd 0 ns)) = hd := by
  rw [bits_cutP hd ns 0 (by omega), List.drop_zero, hs, List.take_of_length_le (by rw [length_bitsOf]; omega)]
  exact pack_bits hb
theorem val_b {hd : List Nat} {i : Nat} {b : Bool} (h : i < 8 * hd.length) (hb : bitAt hd i = b) : val (seg hd i 1) = b.toNat := by rw [val_one h, hb]
/-- a head written tells what it was written of -/
theorem ahead_back (poll part last : Bool) (fi sn off : Nat) (more : Bool) (wd : Nat) (hw : wd = 10 ∨ wd = 16) (hf : fi < 2 ^ 2) (hs : sn < 2 ^ wd) (ho : off < 2 ^ owNA wd) (hp : part = false → last = false ∧ off = 0) :
    bitAt (pack (bitsP (putsA poll part last fi sn off more wd))) 0 = true ∧ bitAt (pack (bitsP (putsA poll part last fi sn off more wd))) 1 = part ∧ amdHd (pack (bitsP (putsA poll part last fi sn off more wd))) part wd = some (⟨poll, part, last, fi, sn, off⟩, more) := by
  rcases hw with rfl | rfl <;> cases part
  · obtain ⟨rfl, rfl⟩ := hp rfl
    have e : putsA poll false false fi sn 0 more 10 = [(1, 1), (0, 1), (poll.toNat, 1), (fi, 2), (more.toNat, 1), (sn, 10)] := rfl
    rw [e]
    refine ⟨bit_put (k := 0) (i := 0) (b := true) rfl rfl, bit_put (k := 1) (i := 1) (b := false) rfl (by simp [bitsP, length_unval]), ?_⟩
    unfold amdHd
    rw [if_pos rfl, if_neg (by decide), bit_put (k := 2) (i := 2) (b := poll) rfl (by simp [bitsP, length_unval]), bit_put (k := 4) (i := 5) (b := more) rfl (by simp [bitsP, length_unval]), seg_put (k := 3) (i := 3) (v := fi) rfl (by simp [bitsP, length_unval]) hf, seg_put (k := 5) (i := 6) (v := sn) rfl (by simp [bitsP, length_unval]) hs]
  · have e : putsA poll true last fi sn off more 10 = [(1, 1), (1, 1), (poll.toNat, 1), (fi, 2), (more.toNat, 1), (sn, 10), (last.toNat, 1), (off, 15)] := rfl
    rw [e]
    refine ⟨bit_put (k := 0) (i := 0) (b := true) rfl rfl, bit_put (k := 1) (i := 1) (b := true) rfl (by simp [bitsP, length_unval]), ?_⟩
    unfold amdHd
    rw [if_pos rfl, if_pos rfl, bit_put (k := 2) (i := 2) (b := poll) rfl (by simp [bitsP, length_unval]), bit_put (k := 4) (i := 5) (b := more) rfl (by simp [bitsP, length_unval]), seg_put (k := 3) (i := 3) (v := fi) rfl (by simp [bitsP, length_unval]) hf, seg_put (k := 5) (i := 6) (v := sn) rfl (by simp [bitsP, length_unval]) hs, bit_put (k := 6) (i := 16) (b := last) rfl (by simp [bitsP, length_unval]), seg_put (k := 7) (i := 17) (v := off) rfl (by simp [bitsP, length_unval]) (show off < 2 ^ 15 from ho)]
  · obtain ⟨rfl, rfl⟩ := hp rfl
    have e : putsA poll false false fi sn 0 more 16 = [(1, 1), (0, 1), (poll.toNat, 1), (fi, 2), (more.toNat, 1), (false.toNat, 1), (false.toNat, 1), (sn, 16)] := rfl
    rw [e]
    refine ⟨bit_put (k := 0) (i := 0) (b := true) rfl rfl, bit_put (k := 1) (i := 1) (b := false) rfl (by simp [bitsP, length_unval]), ?_⟩
    unfold amdHd
    rw [if_neg (by decide), bit_put (k := 6) (i := 7) (b := false) rfl (by simp [bitsP, length_unval]), if_neg (by decide), if_neg (by decide), bit_put (k := 5) (i := 6) (b := false) rfl (by simp [bitsP, length_unval]), if_neg (by decide), bit_put (k := 2) (i := 2) (b := poll) rfl (by simp [bitsP, length_unval]), bit_put (k := 4) (i := 5) (b := more) rfl (by simp [bitsP, length_unval]), seg_put (k := 3) (i := 3) (v := fi) rfl (by simp [bitsP, length_unval]) hf, seg_put (k := 7) (i := 8) (v := sn) rfl (by simp [bitsP, length_unval]) hs]
  · have e : putsA poll true last fi sn off more 16 = [(1, 1), (1, 1), (poll.toNat, 1), (fi, 2), (more.toNat, 1), (last.toNat, 1), (false.toNat, 1), (sn, 16), (off, 16)] := rfl
    rw [e]
    refine ⟨bit_put (k := 0) (i := 0) (b := true) rfl rfl, bit_put (k := 1) (i := 1) (b := true) rfl (by simp [bitsP, length_unval]), ?_⟩
    unfold amdHd
    rw [if_neg (by decide), bit_put (k := 6) (i := 7) (b := false) rfl (by simp [bitsP, length_unval]), if_neg (by decide), if_pos rfl, bit_put (k := 5) (i := 6) (b := last) rfl (by simp [bitsP, length_unval]), bit_put (k := 2) (i := 2) (b := poll) rfl (by simp [bitsP, length_unval]), bit_put (k := 4) (i := 5) (b := more) rfl (by simp [bitsP, length_unval]), seg_put (k := 3) (i := 3) (v := fi) rfl (by simp [bitsP, length_unval]) hf, seg_put (k := 7) (i := 8) (v := sn) rfl (by simp [bitsP, length_unval]) hs, seg_put (k := 8) (i := 24) (v := off) rfl (by simp [bitsP, length_unval]) (show off < 2 ^ 16 from ho)]
theorem seg_lt {hd : List Nat} {i n : Nat} (h : i + n ≤ 8 * hd.length) : val (seg hd i n) < 2 ^ n := by
  have := val_lt (seg hd i n)
  rwa [length_seg h] at this
/-- a head read, written, is the same -/
theorem ahead_write {hd : List Nat} {part : Bool} {wd : Nat} {h : HdA} {more : Bool} (hw : wd = 10 ∨ wd = 16) (hn : hd.length = headNA part wd) (hb : ∀ b ∈ hd, b < 256) (h0 : bitAt hd 0 = true) (h1 : bitAt hd 1 = part) (ha : amdHd hd part wd = some (h, more)) :
    pack (bitsP (putsA h.poll h.part h.last h.fi h.sn h.off more wd)) = hd ∧ h.part = part ∧ h.fi < 2 ^ 2 ∧ h.sn < 2 ^ wd ∧ h.off < 2 ^ owNA wd ∧ (part = false → h.last = false ∧ h.off = 0) := by
  rcases hw with rfl | rfl <;> cases part <;> simp only [amdHd, if_true] at ha
  · simp at ha
    obtain ⟨rfl, rfl⟩ := ha
    have hn : hd.length = 2 := hn
    refine ⟨?_, rfl, seg_lt (by omega), seg_lt (by omega), Nat.two_pow_pos _, fun _ => ⟨rfl, rfl⟩⟩
    have e : putsA (bitAt hd 2) false false (val (seg hd 3 2)) (val (seg hd 6 10)) 0 (bitAt hd 5) 10 = cutP hd 0 [1, 1, 1, 2, 1, 10] := by
      simp only [cutP, Nat.zero_add, Nat.reduceAdd]
      rw [val_b (by omega) h0, val_b (by omega) h1, val_b (b := bitAt hd 2) (by omega) rfl, val_b (b := bitAt hd 5) (by omega) rfl]
      rfl
    exact (congrArg (fun x => pack (bitsP x)) e).trans (pack_cutP (by rw [hn]; rfl) hb)
  · simp at ha
    obtain ⟨rfl, rfl⟩ := ha
    have hn : hd.length = 4 := hn
    refine ⟨?_, rfl, seg_lt (by omega), seg_lt (by omega), seg_lt (by omega), fun h => by cases h⟩
    have e : putsA (bitAt hd 2) true (bitAt hd 16) (val (seg hd 3 2)) (val (seg hd 6 10)) (val (seg hd 17 15)) (bitAt hd 5) 10 = cutP hd 0 [1, 1, 1, 2, 1, 10, 1, 15] := by
      simp only [cutP, Nat.zero_add, Nat.reduceAdd]
      rw [val_b (by omega) h0, val_b (by omega) h1, val_b (b := bitAt hd 2) (by omega) rfl, val_b (b := bitAt hd 5) (by omega) rfl, val_b (b := bitAt hd 16) (by omega) rfl]
      rfl
    exact (congrArg (fun x => pack (bitsP x)) e).trans (pack_cutP (by rw [hn]; rfl) hb)
  · have hn : hd.length = 3 := hn
    by_cases h7 : bitAt hd 7 = true
    · simp [h7] at ha
    · by_cases h6 : bitAt hd 6 = true
      · simp [h6] at ha
      · simp [h7, h6] at ha
        obtain ⟨rfl, rfl⟩ := ha
        refine ⟨?_, rfl, seg_lt (by omega), seg_lt (by omega), Nat.two_pow_pos _, fun _ => ⟨rfl, rfl⟩⟩
        have e : putsA (bitAt hd 2) false false (val (seg hd 3 2)) (val (seg hd 8 16)) 0 (bitAt hd 5) 16 = cutP hd 0 [1, 1, 1, 2, 1, 1, 1, 16] := by
          simp only [cutP, Nat.zero_add, Nat.reduceAdd]
          rw [val_b (by omega) h0, val_b (by omega) h1, val_b (b := bitAt hd 2) (by omega) rfl, val_b (b := bitAt hd 5) (by omega) rfl, val_b (by omega) (bit_not h6), val_b (by omega) (bit_not h7)]
          rfl
        exact (congrArg (fun x => pack (bitsP x)) e).trans (pack_cutP (by rw [hn]; rfl) hb)
  · have hn : hd.length = 5 := hn
    by_cases h7 : bitAt hd 7 = true
    · simp [h7] at ha
    · simp [h7] at ha
      obtain ⟨rfl, rfl⟩ := ha
      refine ⟨?_, rfl, seg_lt (by omega), seg_lt (by omega), seg_lt (by omega), fun h => by cases h⟩
      have e : putsA (bitAt hd 2) true (bitAt hd 6) (val (seg hd 3 2)) (val (seg hd 8 16)) (val (seg hd 24 16)) (bitAt hd 5) 16 = cutP hd 0 [1, 1, 1, 2, 1, 1, 1, 16, 16] := by
        simp only [cutP, Nat.zero_add, Nat.reduceAdd]
        rw [val_b (by omega) h0, val_b (by omega) h1, val_b (b := bitAt hd 2) (by omega) rfl, val_b (b := bitAt hd 5) (by omega) rfl, val_b (b := bitAt hd 6) (by omega) rfl, val_b (by omega) (bit_not h7)]
        rfl
      exact (congrArg (fun x => pack (bitsP x)) e).trans (pack_cutP (by rw [hn]; rfl) hb)
end Go.Proofs.Ytgdpjaojlhdhdaa
namespace Go.Proofs.Ytgdpjaojlhdhdaa
open Go.RowKit

theorem len_head (poll part last : Bool) (fi sn off : Nat) (more : Bool) (wd : Nat) : (pack (bitsP (putsA poll part last fi sn off more wd))).length = headNA part wd := by
  rw [length_pack, len_putsA]
  unfold packLen
  omega
theorem amd_len {poll part last : Bool} {fi sn off : Nat} {L : List RowB} {wd : Nat} (h : amdF part last fi sn off (lens L) wd ≠ 0) : ((amdBytes poll part last fi sn off L wd).length : Int) = amdF part last fi sn off (lens L) wd := by
  obtain ⟨hw, _, _, _, _, h1, h2, _, h3⟩ := amdF_pos h
  have hwd : wd = 10 ∨ wd = 16 := by omega
  obtain ⟨e1, e2, _⟩ := lwA_cast hwd
  have hl : ((tailF (lens L) (lwNA wd)).length : Int) = sizeF (((lens L).length : Int) - 1) (lwNA wd) := length_tail (lwNA wd) e2 h1 h2
  unfold amdBytes
  rw [List.length_append, List.length_append, length_flat, len_head, h3, headA_nat part hwd, e1]
  omega
theorem placed_not {part last : Bool} {off wd : Nat} (h : placedA part last (off : Int) (wd : Int) = true) : part = false → last = false ∧ off = 0 := by
  rintro rfl
  unfold placedA at h
  simp at h
  exact ⟨h.2, by omega⟩
theorem amd_back {poll part last : Bool} {fi sn off : Nat} {L : List RowB} {wd : Nat} (h : amdF part last fi sn off (lens L) wd ≠ 0) : amdRd (amdBytes poll part last fi sn off L wd) wd = (0, ⟨poll, part, last, fi, sn, off⟩, texts L) := by
  have hlen := amd_len (poll := poll) h
  have hbig := amdF_big part last fi sn off (lens L) wd
  obtain ⟨hw, _, hf, hs, hpl, h1, h2, hok, _⟩ := amdF_pos h
  have hwd : wd = 10 ∨ wd = 16 := by omega
  have hsn := okn_pow hwd hs
  have hof := placed_off hwd hpl
  obtain ⟨e1, e2, _⟩ := lwA_cast hwd
  obtain ⟨b0, b1, b2⟩ := ahead_back poll part last fi sn off (decide (1 < L.length)) wd hwd (by omega) hsn hof (placed_not hpl)
  have hh := len_head poll part last fi sn off (decide (1 < L.length)) wd
  have hU : amdBytes poll part last fi sn off L wd = pack (bitsP (putsA poll part last fi sn off (decide (1 < L.length)) wd)) ++ (tailF (lens L) (lwNA wd) ++ flat L) := by unfold amdBytes; rw [List.append_assoc]
  generalize pack (bitsP (putsA poll part last fi sn off (decide (1 < L.length)) wd)) = hd at *
  have hbd := headNA_bd part wd
  generalize hby : amdBytes poll part last fi sn off L wd = bs at *
  have htk : bs.take (headNA part wd) = hd := by rw [hU, ← hh, List.take_left]
  have hdr : bs.drop (headNA part wd) = tailF (lens L) (lwNA wd) ++ flat L := by rw [hU, ← hh, List.drop_left]
  have hle : headNA part wd ≤ bs.length := by rw [hU, List.length_append, hh]; omega
  have c0 : bitAt bs 0 = true := by rw [← bitAt_take (m := headNA part wd) (by omega) hle, htk, b0]
  have c1 : bitAt bs 1 = part := by rw [← bitAt_take (m := headNA part wd) (by omega) hle, htk, b1]
  have hR : headR bs wd = (headNA part wd, 0) := by
    unfold headR
    rw [if_pos hwd, if_neg (by omega), if_neg (by omega), c0, c1, if_neg (by decide), if_neg (by omega)]
  have hfb := fld_back (t := texts L) (wd := lwNA wd) e2 (by rw [length_texts, ← length_lens]; exact h1) (by rw [length_texts, ← length_lens]; exact h2) (by rw [← lens_texts]; exact hok)
  rw [← lens_texts, ← flat_texts, length_texts] at hfb
  unfold amdRd
  rw [hR, if_pos rfl, c1, htk, b2, hdr]
  unfold amdRd2
  simp only [hfb, if_true]
theorem okn_of {wd sn : Nat} (hw : wd = 10 ∨ wd = 16) (h : sn < 2 ^ wd) : okn (wd : Int) (sn : Int) = true := by
  refine decide_eq_true ⟨by omega, ?_⟩
  rcases hw with rfl | rfl
  · have e : sz ((10 : Nat) : Int) = 1024 := by decide
    rw [e]; omega
  · have e : sz ((16 : Nat) : Int) = 65536 := by decide
    rw [e]; omega
theorem placed_of {part last : Bool} {off wd : Nat} (hw : wd = 10 ∨ wd = 16) (h : off < 2 ^ owNA wd) (h2 : part = false → last = false ∧ off = 0) : placedA part last (off : Int) (wd : Int) = true := by
  unfold placedA
  cases part
  · obtain ⟨rfl, rfl⟩ := h2 rfl
    rfl
  · simp only [if_true]
    refine decide_eq_true ⟨by omega, ?_⟩
    rcases hw with rfl | rfl
    · have e : topA ((10 : Nat) : Int) = 32768 := rfl
      have : off < 2 ^ 15 := h
      rw [e]; omega
    · have e : topA ((16 : Nat) : Int) = 65536 := rfl
      have : off < 2 ^ 16 := h
      rw [e]; omega
theorem amd_write {bs : List Nat} {wd : Nat} {h : HdA} {L : List RowB} (hb : ∀ b ∈ bs, b < 256) (he : amdRd bs wd = (0, h, texts L)) : amdF h.part h.last h.fi h.sn h.off (lens L) wd ≠ 0 ∧ amdBytes h.poll h.part h.last h.fi h.sn h.off L wd = bs := by
  by_cases hwd : wd = 10 ∨ wd = 16
  · by_cases h0 : (headR bs wd).2 = 0
    · obtain ⟨g1, g2, g3, g4, g5, g6⟩ := headR_ok hwd h0
      obtain ⟨e1, e2, _⟩ := lwA_cast hwd
      unfold amdRd at he
      rw [if_pos h0, g4] at he
      generalize hpart : bitAt bs 1 = part at *
      have hbd := headNA_bd part wd
      have hth : (bs.take (headNA part wd)).length = headNA part wd := by rw [List.length_take]; omega
      have hsm : ∀ b ∈ bs.take (headNA part wd), b < 256 := fun b h => hb b (List.mem_of_mem_take h)
      have c0 : bitAt (bs.take (headNA part wd)) 0 = true := by rw [bitAt_take (by omega) g5, g3]
      have c1 : bitAt (bs.take (headNA part wd)) 1 = part := by rw [bitAt_take (by omega) g5, hpart]
      cases ha : amdHd (bs.take (headNA part wd)) part wd with
      | none => rw [ha] at he; simp [amdRd2] at he
      | some hq =>
        obtain ⟨hh, more⟩ := hq
        rw [ha] at he
        unfold amdRd2 at he
        simp only at he
        by_cases hz : (fldR (bs.drop (headNA part wd)) more (lwNA wd)).1 = 0
        · rw [if_pos hz] at he
          simp only [Prod.mk.injEq, true_and] at he
          obtain ⟨rfl, ht⟩ := he
          obtain ⟨p1, p2, p3, p4, p5, p6⟩ := ahead_write hwd hth hsm c0 c1 ha
          have hfr : fldR (bs.drop (headNA part wd)) more (lwNA wd) = (0, texts L) := by rw [← hz, ← ht]
          obtain ⟨q1, q2, q3, q4, q5⟩ := fld_write e2 (fun x hx => hb x (List.mem_of_mem_drop hx)) (by rw [List.length_drop]; omega) hfr
          rw [← lens_texts] at q4 q5
          rw [length_texts] at q1 q2 q3
          have hby : amdBytes hh.poll hh.part hh.last hh.fi hh.sn hh.off L wd = bs := by
            unfold amdBytes
            rw [← q3, p1, List.append_assoc, flat_texts, q4, List.take_append_drop]
          refine ⟨?_, hby⟩
          have hlt : ((tailF (lens L) (lwNA wd)).length : Int) = sizeF (((lens L).length : Int) - 1) (lwNA wd) := length_tail (ls := lens L) (lwNA wd) e2 (by rw [length_lens]; exact q1) (by rw [length_lens]; exact q2)
          have hll := congrArg List.length hby
          unfold amdBytes at hll
          rw [List.length_append, List.length_append, length_flat, len_head] at hll
          unfold amdF
          rw [if_pos ⟨by omega, by omega, by omega, okn_of hwd p4, placed_of hwd p5 (by rw [p2]; exact p6)⟩]
          unfold fieldsF
          have hn := sizeF_nonneg (((lens L).length : Int) - 1) (lwNA wd)
          have hbh := headNA_bd hh.part wd
          rw [headA_nat _ hwd, e1, if_pos ⟨by rw [length_lens]; exact q1, by rw [length_lens]; exact q2, q5, by omega⟩]
          omega
        · rw [if_neg hz] at he
          simp only [Prod.mk.injEq] at he
          exact absurd he.1 hz
    · unfold amdRd at he
      rw [if_neg h0] at he
      simp only [Prod.mk.injEq] at he
      exact absurd he.1 h0
  · have := amdRd_kind (bs := bs) hwd
    rw [he] at this
    cases this
end Go.Proofs.Ytgdpjaojlhdhdaa
namespace Go.Proofs.Ytgdpjaojlhdhdaa
open Go.RowKit


set_option maxRecDepth 100000 in
set_option maxHeartbeats 6400000 in
theorem uread_5 {A : Option Addr} {bs : List Nat} (n cap : Nat) (w : World) (hn : bs.length = n) (hm : n ≤ 8192) (hc : n ≤ cap) (hcm : cap ≤ 9223372036854775807) (hs : Src w A (bts bs)) (hb : ∀ b ∈ bs, b < 256) :
    Calls Try.prog 25 #[.slice A n cap, .int .i64 5] w (UrdAns w.heap.size w (umdRd bs 5)) := by
  have HSH := Lib.hid (fun W => (show Calls Try.prog 160 #[.int .i64 5] W fun e w' => e = .returned (.tuple #[.int .i64 1, .int .i64 0]) ∧ W = w' from shape_any 5 W))
  rcases Nat.lt_or_ge 4000 n with h1 | h1
  · have HF := Lib.hid (show (umdRd bs 5).1 = 2 by unfold umdRd; rw [if_pos (by decide), if_pos (by omega)])
    have h1' : (4000 : Int) < n := by omega
    clear hs hb hn
    go_enter Try.func25, Try.ntmps25
    go_wp2_with (go_at_call 160; refine (HSH.out _).mono ?_; rintro e w1 ⟨rfl, rfl⟩)
    exact bodyPost_ret (v := .tuple #[.agg #[.int .i64 0, .int .i64 0, .slice none 0 0], .int .i64 2]) (by simp [results, Try.results25, go_sem]) rfl (urd_bad HF.out (by decide) (by first | exact bl_alloc (Below.refl _ _) _ | exact (bl_alloc (Below.refl _ _) _).setCell (by simp) _))
  · have h1' : ¬ (4000 : Int) < n := by omega
    rcases Nat.lt_or_ge n 1 with h2 | h2
    · have HF := Lib.hid (show (umdRd bs 5).1 = 8 by unfold umdRd; rw [if_pos (by decide), if_neg (by omega), if_pos (by omega)])
      have h2' : (n : Int) < 1 := by omega
      clear hs hb hn
      go_enter Try.func25, Try.ntmps25
      go_wp2_with (go_at_call 160; refine (HSH.out _).mono ?_; rintro e w1 ⟨rfl, rfl⟩)
      exact bodyPost_ret (v := .tuple #[.agg #[.int .i64 0, .int .i64 0, .slice none 0 0], .int .i64 8]) (by simp [results, Try.results25, go_sem]) rfl (urd_bad HF.out (by decide) (by first | exact bl_alloc (Below.refl _ _) _ | exact (bl_alloc (Below.refl _ _) _).setCell (by simp) _))
    · have h2' : ¬ (n : Int) < 1 := by omega
      have hth : (bs.take 1).length = 1 := by rw [List.length_take]; omega
      have hF : umdRd bs 5 = if val (seg (bs.take 1) 0 0) ≠ 0 then (3, 0, 0, []) else if (fldR (bs.drop 1) (bitAt (bs.take 1) (0 + 2)) 11).1 = 0 then (0, val (seg (bs.take 1) 0 2), val (seg (bs.take 1) (0 + 2 + 1) 5), (fldR (bs.drop 1) (bitAt (bs.take 1) (0 + 2)) 11).2) else ((fldR (bs.drop 1) (bitAt (bs.take 1) (0 + 2)) 11).1, 0, 0, []) := by
        unfold umdRd
        rw [if_pos (by decide), if_neg (by omega), if_neg (by omega)]
        rfl
      obtain ⟨ad, rfl, _⟩ := hs (by rw [length_bts]; omega)
      have HS := Lib.hid hs
      have HRD := Lib.hid (fun W (hb1 : Below w.heap.size w W) => (show Calls Try.prog 161 #[.slice (some ad) 1 cap] W fun e w' => ∃ p g, e = .returned (.pointer (some ⟨p, 0, none⟩)) ∧ W.heap.size ≤ p ∧ W.heap.size ≤ g ∧ RRep w' p g (bs.take 1) 0 ∧ Below W.heap.size W w' from by
        have h9 := read_any (some ad) cap (bs.take 1) W (by omega) (by omega) (src_take _ (src_later hs hb1)) (fun b hx => hb b (List.mem_of_mem_take hx))
        rw [hth] at h9
        exact h9))
      have hdl : (bs.drop 1).length = n - 1 := by rw [List.length_drop, hn]
      have HFR := Lib.hid (fun W Ab cb more (hb1 : Below w.heap.size w W) (hsb : Src w Ab (bts (bs.drop 1))) (hcb : n - 1 ≤ cb) (hcm2 : cb ≤ 9223372036854775807) => fread_any (A := Ab) (bs := bs.drop 1) more 11 (n - 1) cb 11 W (.inl rfl) rfl hdl (by omega) hcb hcm2 (src_later hsb hb1) (fun b h => hb b (List.mem_of_mem_drop h)))
      have HDL := Lib.hid hdl
      generalize bs.take 1 = hd at *
      have HT := Lib.hid hth
      have HF := Lib.hid hF
      clear hs hb hn hF hdl hth
      have ROW0 := Row.made w 42 #[.int .i64 0, .int .i64 0, .slice none 0 0]
      by_cases hz : val (seg hd 0 0) = 0
      · rw [if_neg (fun h => h hz)] at HF
        have HV0 := Lib.hid (show ((val (seg hd 0 0) : Nat) : Int) = 0 by omega)
        have HMO := Lib.hid (show ((val (seg hd (0 + 0 + 2) 1) : Nat) : Int) = ((bitAt hd (0 + 2)).toNat : Int) from by rw [show 0 + 0 + 2 = 0 + 2 from rfl]; exact one_bit (by rw [HT.out]; omega))
        have hmo : (((bitAt hd (0 + 2)).toNat : Int) == 1) = bitAt hd (0 + 2) := bit_eq _
        obtain ⟨fi, hfi⟩ : ∃ x, val (seg hd (0 + 0) 2) = x := ⟨_, rfl⟩
        obtain ⟨sn, hsn⟩ : ∃ x, val (seg hd (0 + 0 + 2 + 1) 5) = x := ⟨_, rfl⟩
        rw [show val (seg hd 0 2) = fi from hfi, show val (seg hd (0 + 2 + 1) 5) = sn from hsn] at HF
        have HFI := Lib.hid hfi
        have HSN := Lib.hid hsn
        clear hfi hsn
        generalize bitAt hd (0 + 2) = more at *
        clear hz
        by_cases hkc : cap = 1
        · obtain rfl : n = 1 := by omega
          subst hkc
          have HS0 := Lib.hid (show Src w (some ad) (bts (bs.drop 1)) from fun h0 => absurd h0 (by rw [length_bts, HDL.out]; omega))
          have HFR := Lib.hid (fun W more hb1 => (show Calls Try.prog 164 #[.slice (some ad) 0 0, .bool more, .int .i64 11] W (FldAns W.heap.size W (fldR (bs.drop 1) more 11)) from HFR.out W (some ad) 0 more hb1 HS0.out (by omega) (by omega)))
          go_enter Try.func25, Try.ntmps25
          go_wp2_with (first
            | (go_at_call 160; refine (HSH.out _).mono ?_; rintro e w1 ⟨rfl, rfl⟩)
            | (go_at_call 161; refine (HRD.out _ (bl_alloc (Below.refl _ _) _)).mono ?_; rintro e w2 ⟨p, g, rfl, hp2, hg2, hr2, hb2⟩
               have hpp : w.heap.size + 1 ≤ p := by simpa using hp2
               have hbb : Below (w.heap.size + 1) (w.alloc (.cells #[.int .i64 0, .int .i64 0, .slice none 0 0] 42)) w2 := by simpa using hb2
               have hsz2 : w.heap.size + 1 ≤ w2.heap.size := by have := hbb.size; simpa using hb2.size
               have ST2 := Lib.hid (show RdSt (w.heap.size + 1) (w.alloc (.cells #[.int .i64 0, .int .i64 0, .slice none 0 0] 42)) w2.heap.size p g hd 0 (w2.alloc (.cells #[.pointer (some ⟨p, 0, none⟩)] 224)) from
                 ⟨hr2.later (bl_alloc (Below.refl _ _) _), Row.made _ _ _, hbb.trans ((bl_alloc (Below.refl w2.heap.size w2) _).mono hsz2), hpp, by simp; omega⟩)
               have CG2 := Lib.hid (ST2.out.get 0 0 rfl (by omega) (by rw [HT.out]; omega))
               clear hr2 hb2 hbb hp2 hg2)
            | ((with_reducible refine CG2.out.mono ?_); rintro e w3 ⟨rfl, hst⟩; rw [HV0.out]
               have ST3 := Lib.hid hst
               have CG3 := Lib.hid (ST3.out.get 2 2 rfl (by omega) (by rw [HT.out]; omega))
               clear hst
               skip)
            | ((with_reducible refine CG3.out.mono ?_); rintro e w4 ⟨rfl, hst⟩; rw [HFI.out]
               have ST4 := Lib.hid hst
               have CG4 := Lib.hid (ST4.out.get 1 1 rfl (by omega) (by rw [HT.out]; omega))
               clear hst)
            | ((with_reducible refine CG4.out.mono ?_); rintro e w5 ⟨rfl, hst⟩; rw [HMO.out]
               have ST5 := Lib.hid hst
               have CG5 := Lib.hid (ST5.out.get 5 5 rfl (by omega) (by rw [HT.out]; omega))
               clear hst)
            | ((with_reducible refine CG5.out.mono ?_); rintro e w6 ⟨rfl, hst⟩; rw [HSN.out]
               have ST6 := Lib.hid hst
               clear hst
               have HB6 := Lib.hid ((bl_alloc (Below.refl w.heap.size w) (.cells #[.int .i64 0, .int .i64 0, .slice none 0 0] 42)).trans (ST6.out.below.mono (by omega))))
            | (go_at_call 164; refine (HFR.out w6 more HB6.out).mono ?_; rintro e w7 ⟨h3 | h3, h4⟩
               (obtain ⟨her, v, L, hL, rfl, ho⟩ := h3; obtain ⟨Av, cv, rfl, hv1, hv2⟩ := ho.form
                have HO := Lib.hid ho
                have HER := Lib.hid her
                have HLL := Lib.hid hL
                have ST7 := Lib.hid (ST6.out.below.trans (h4.mono ST6.out.size))
                clear ho her hL h4
                have R7 := ROW0.under ST7.out (by omega)
                have RW7 := Lib.hid R7
                have HB7 := Lib.hid ((bl_alloc (Below.refl w.heap.size w) (.cells #[.int .i64 0, .int .i64 0, .slice none 0 0] 42)).trans (ST7.out.mono (by omega)))
                have c70 : w7.cell? ⟨w.heap.size, 0, none⟩ = some (.int .i64 0) := R7.read rfl
                have c71 : w7.cell? ⟨w.heap.size, 1, none⟩ = some (.int .i64 0) := R7.read rfl
                have c72 : w7.cell? ⟨w.heap.size, 2, none⟩ = some (.slice none 0 0) := R7.read rfl
                have f70 := R7.free 0
                have f71 := R7.free 1
                have f72 := R7.free 2
                clear R7)
               rotate_left 1
               (obtain ⟨her, rfl⟩ := h3
                have her2 : ((fldR (bs.drop 1) more 11).1 != 0) = true := by simpa using her
                have HER := Lib.hid her
                have ST7 := Lib.hid (ST6.out.below.trans (h4.mono ST6.out.size))
                clear her h4
                generalize (fldR (bs.drop 1) more 11).1 = er at *
                have R7 := ROW0.under ST7.out (by omega)
                have RW7 := Lib.hid R7
                have HB7 := Lib.hid ((bl_alloc (Below.refl w.heap.size w) (.cells #[.int .i64 0, .int .i64 0, .slice none 0 0] 42)).trans (ST7.out.mono (by omega)))
                have c70 : w7.cell? ⟨w.heap.size, 0, none⟩ = some (.int .i64 0) := R7.read rfl
                have c71 : w7.cell? ⟨w.heap.size, 1, none⟩ = some (.int .i64 0) := R7.read rfl
                have c72 : w7.cell? ⟨w.heap.size, 2, none⟩ = some (.slice none 0 0) := R7.read rfl
                have f70 := R7.free 0
                have f71 := R7.free 1
                have f72 := R7.free 2
                clear R7)
               rotate_left 1))
          · obtain ⟨d24, hu24⟩ := under42_parts
            have HOW := Lib.hid (show OwnR w.heap.size ((((w7.setCell ⟨w.heap.size, 0, none⟩ (.int .i64 fi)).setCell ⟨w.heap.size, 1, none⟩ (.int .i64 sn)).setCell ⟨w.heap.size, 2, none⟩ (.slice Av L.length cv))) (.slice Av L.length cv) L from
              (HO.out.only (S := fun k => k = w.heap.size) ((((Only.refl (fun k => k = w.heap.size) w7).set (p := ⟨w.heap.size, 0, none⟩) (.inl rfl) (.int .i64 fi)).set (p := ⟨w.heap.size, 1, none⟩) (.inl rfl) (.int .i64 sn)).set (p := ⟨w.heap.size, 2, none⟩) (.inl rfl) (.slice Av L.length cv)) (fun k hk => by have := (HO.out.own.lt k hk).1; have := HB6.out.size; have := ST6.out.size; omega) (fun k cs hr hk => by have := ST6.out.size; omega)).down HB6.out.size)
            refine bodyPost_ret (results_two rfl _ _ w.heap.size 42 #[.int .i64 fi, .int .i64 sn, .slice Av L.length cv] d24 rfl (((RW7.out.written 0 (.int .i64 fi)).written 1 (.int .i64 sn)).written 2 (.slice Av L.length cv)) hu24 Try.info42s) rfl ?_
            rw [HF.out, if_pos HER.out]
            exact ⟨.inl ⟨rfl, _, L, HLL.out, rfl, HOW.out⟩, (((HB7.out.setCell (p := ⟨w.heap.size, 0, none⟩) (Nat.le_refl _) (.int .i64 fi)).setCell (p := ⟨w.heap.size, 1, none⟩) (Nat.le_refl _) (.int .i64 sn)).setCell (p := ⟨w.heap.size, 2, none⟩) (Nat.le_refl _) (.slice Av L.length cv))⟩
          · obtain ⟨d24, hu24⟩ := under42_parts
            refine bodyPost_ret (results_two rfl _ _ w.heap.size 42 #[.int .i64 0, .int .i64 0, .slice none 0 0] d24 rfl (((RW7.out.written 0 (.int .i64 0)).written 1 (.int .i64 0)).written 2 (.slice none 0 0)) hu24 Try.info42s) rfl ?_
            rw [HF.out, if_neg HER.out]
            exact ⟨.inr ⟨HER.out, rfl⟩, (((HB7.out.setCell (p := ⟨w.heap.size, 0, none⟩) (Nat.le_refl _) (.int .i64 0)).setCell (p := ⟨w.heap.size, 1, none⟩) (Nat.le_refl _) (.int .i64 0)).setCell (p := ⟨w.heap.size, 2, none⟩) (Nat.le_refl _) (.slice none 0 0))⟩
        · have hkc2 : 1 < cap := by omega
          have HS0 := Lib.hid (show Src w (some (ad.add 1)) (bts (bs.drop 1)) from by
            have h9 := src_dropc (c := 0) 1 (show Src w (some ad) (bts (bs.drop 0)) from HS.out)
            rw [Nat.zero_add] at h9
            exact h9)
          have HFR := Lib.hid (fun W more hb1 => HFR.out W (some (ad.add 1)) (cap - 1) more hb1 HS0.out (by omega) (by omega))
          go_enter Try.func25, Try.ntmps25
          go_wp2_with (first
            | (go_at_call 160; refine (HSH.out _).mono ?_; rintro e w1 ⟨rfl, rfl⟩)
            | (go_at_call 161; refine (HRD.out _ (bl_alloc (Below.refl _ _) _)).mono ?_; rintro e w2 ⟨p, g, rfl, hp2, hg2, hr2, hb2⟩
               have hpp : w.heap.size + 1 ≤ p := by simpa using hp2
               have hbb : Below (w.heap.size + 1) (w.alloc (.cells #[.int .i64 0, .int .i64 0, .slice none 0 0] 42)) w2 := by simpa using hb2
               have hsz2 : w.heap.size + 1 ≤ w2.heap.size := by have := hbb.size; simpa using hb2.size
               have ST2 := Lib.hid (show RdSt (w.heap.size + 1) (w.alloc (.cells #[.int .i64 0, .int .i64 0, .slice none 0 0] 42)) w2.heap.size p g hd 0 (w2.alloc (.cells #[.pointer (some ⟨p, 0, none⟩)] 224)) from
                 ⟨hr2.later (bl_alloc (Below.refl _ _) _), Row.made _ _ _, hbb.trans ((bl_alloc (Below.refl w2.heap.size w2) _).mono hsz2), hpp, by simp; omega⟩)
               have CG2 := Lib.hid (ST2.out.get 0 0 rfl (by omega) (by rw [HT.out]; omega))
               clear hr2 hb2 hbb hp2 hg2)
            | ((with_reducible refine CG2.out.mono ?_); rintro e w3 ⟨rfl, hst⟩; rw [HV0.out]
               have ST3 := Lib.hid hst
               have CG3 := Lib.hid (ST3.out.get 2 2 rfl (by omega) (by rw [HT.out]; omega))
               clear hst
               skip)
            | ((with_reducible refine CG3.out.mono ?_); rintro e w4 ⟨rfl, hst⟩; rw [HFI.out]
               have ST4 := Lib.hid hst
               have CG4 := Lib.hid (ST4.out.get 1 1 rfl (by omega) (by rw [HT.out]; omega))
               clear hst)
            | ((with_reducible refine CG4.out.mono ?_); rintro e w5 ⟨rfl, hst⟩; rw [HMO.out]
               have ST5 := Lib.hid hst
               have CG5 := Lib.hid (ST5.out.get 5 5 rfl (by omega) (by rw [HT.out]; omega))
               clear hst)
            | ((with_reducible refine CG5.out.mono ?_); rintro e w6 ⟨rfl, hst⟩; rw [HSN.out]
               have ST6 := Lib.hid hst
               clear hst
               have HB6 := Lib.hid ((bl_alloc (Below.refl w.heap.size w) (.cells #[.int .i64 0, .int .i64 0, .slice none 0 0] 42)).trans (ST6.out.below.mono (by omega))))
            | (go_at_call 164; refine (HFR.out w6 more HB6.out).mono ?_; rintro e w7 ⟨h3 | h3, h4⟩
               (obtain ⟨her, v, L, hL, rfl, ho⟩ := h3; obtain ⟨Av, cv, rfl, hv1, hv2⟩ := ho.form
                have HO := Lib.hid ho
                have HER := Lib.hid her
                have HLL := Lib.hid hL
                have ST7 := Lib.hid (ST6.out.below.trans (h4.mono ST6.out.size))
                clear ho her hL h4
                have R7 := ROW0.under ST7.out (by omega)
                have RW7 := Lib.hid R7
                have HB7 := Lib.hid ((bl_alloc (Below.refl w.heap.size w) (.cells #[.int .i64 0, .int .i64 0, .slice none 0 0] 42)).trans (ST7.out.mono (by omega)))
                have c70 : w7.cell? ⟨w.heap.size, 0, none⟩ = some (.int .i64 0) := R7.read rfl
                have c71 : w7.cell? ⟨w.heap.size, 1, none⟩ = some (.int .i64 0) := R7.read rfl
                have c72 : w7.cell? ⟨w.heap.size, 2, none⟩ = some (.slice none 0 0) := R7.read rfl
                have f70 := R7.free 0
                have f71 := R7.free 1
                have f72 := R7.free 2
                clear R7)
               rotate_left 1
               (obtain ⟨her, rfl⟩ := h3
                have her2 : ((fldR (bs.drop 1) more 11).1 != 0) = true := by simpa using her
                have HER := Lib.hid her
                have ST7 := Lib.hid (ST6.out.below.trans (h4.mono ST6.out.size))
                clear her h4
                generalize (fldR (bs.drop 1) more 11).1 = er at *
                have R7 := ROW0.under ST7.out (by omega)
                have RW7 := Lib.hid R7
                have HB7 := Lib.hid ((bl_alloc (Below.refl w.heap.size w) (.cells #[.int .i64 0, .int .i64 0, .slice none 0 0] 42)).trans (ST7.out.mono (by omega)))
                have c70 : w7.cell? ⟨w.heap.size, 0, none⟩ = some (.int .i64 0) := R7.read rfl
                have c71 : w7.cell? ⟨w.heap.size, 1, none⟩ = some (.int .i64 0) := R7.read rfl
                have c72 : w7.cell? ⟨w.heap.size, 2, none⟩ = some (.slice none 0 0) := R7.read rfl
                have f70 := R7.free 0
                have f71 := R7.free 1
                have f72 := R7.free 2
                clear R7)
               rotate_left 1))
          · obtain ⟨d24, hu24⟩ := under42_parts
            have HOW := Lib.hid (show OwnR w.heap.size ((((w7.setCell ⟨w.heap.size, 0, none⟩ (.int .i64 fi)).setCell ⟨w.heap.size, 1, none⟩ (.int .i64 sn)).setCell ⟨w.heap.size, 2, none⟩ (.slice Av L.length cv))) (.slice Av L.length cv) L from
              (HO.out.only (S := fun k => k = w.heap.size) ((((Only.refl (fun k => k = w.heap.size) w7).set (p := ⟨w.heap.size, 0, none⟩) (.inl rfl) (.int .i64 fi)).set (p := ⟨w.heap.size, 1, none⟩) (.inl rfl) (.int .i64 sn)).set (p := ⟨w.heap.size, 2, none⟩) (.inl rfl) (.slice Av L.length cv)) (fun k hk => by have := (HO.out.own.lt k hk).1; have := HB6.out.size; have := ST6.out.size; omega) (fun k cs hr hk => by have := ST6.out.size; omega)).down HB6.out.size)
            refine bodyPost_ret (results_two rfl _ _ w.heap.size 42 #[.int .i64 fi, .int .i64 sn, .slice Av L.length cv] d24 rfl (((RW7.out.written 0 (.int .i64 fi)).written 1 (.int .i64 sn)).written 2 (.slice Av L.length cv)) hu24 Try.info42s) rfl ?_
            rw [HF.out, if_pos HER.out]
            exact ⟨.inl ⟨rfl, _, L, HLL.out, rfl, HOW.out⟩, (((HB7.out.setCell (p := ⟨w.heap.size, 0, none⟩) (Nat.le_refl _) (.int .i64 fi)).setCell (p := ⟨w.heap.size, 1, none⟩) (Nat.le_refl _) (.int .i64 sn)).setCell (p := ⟨w.heap.size, 2, none⟩) (Nat.le_refl _) (.slice Av L.length cv))⟩
          · obtain ⟨d24, hu24⟩ := under42_parts
            refine bodyPost_ret (results_two rfl _ _ w.heap.size 42 #[.int .i64 0, .int .i64 0, .slice none 0 0] d24 rfl (((RW7.out.written 0 (.int .i64 0)).written 1 (.int .i64 0)).written 2 (.slice none 0 0)) hu24 Try.info42s) rfl ?_
            rw [HF.out, if_neg HER.out]
            exact ⟨.inr ⟨HER.out, rfl⟩, (((HB7.out.setCell (p := ⟨w.heap.size, 0, none⟩) (Nat.le_refl _) (.int .i64 0)).setCell (p := ⟨w.heap.size, 1, none⟩) (Nat.le_refl _) (.int .i64 0)).setCell (p := ⟨w.heap.size, 2, none⟩) (Nat.le_refl _) (.slice none 0 0))⟩
      · rw [if_pos hz] at HF
        have HR3 := Lib.hid (show (umdRd bs 5).1 = 3 by rw [HF.out])
        have hz1 : (((val (seg hd 0 0) : Nat) : Int) != 0) = true := by simp; omega
        obtain ⟨v0, hv0⟩ : ∃ x, ((val (seg hd 0 0) : Nat) : Int) = x := ⟨_, rfl⟩
        rw [hv0] at hz1
        have HV0 := Lib.hid hv0
        clear hz HFR hv0
        go_enter Try.func25, Try.ntmps25
        go_wp2_with (first
          | (go_at_call 160; refine (HSH.out _).mono ?_; rintro e w1 ⟨rfl, rfl⟩)
          | (go_at_call 161; refine (HRD.out _ (bl_alloc (Below.refl _ _) _)).mono ?_; rintro e w2 ⟨p, g, rfl, hp2, hg2, hr2, hb2⟩
             have hpp : w.heap.size + 1 ≤ p := by simpa using hp2
             have hbb : Below (w.heap.size + 1) (w.alloc (.cells #[.int .i64 0, .int .i64 0, .slice none 0 0] 42)) w2 := by simpa using hb2
             have hsz2 : w.heap.size + 1 ≤ w2.heap.size := by have := hbb.size; simpa using hb2.size
             have ST2 := Lib.hid (show RdSt (w.heap.size + 1) (w.alloc (.cells #[.int .i64 0, .int .i64 0, .slice none 0 0] 42)) w2.heap.size p g hd 0 (w2.alloc (.cells #[.pointer (some ⟨p, 0, none⟩)] 224)) from
               ⟨hr2.later (bl_alloc (Below.refl _ _) _), Row.made _ _ _, hbb.trans ((bl_alloc (Below.refl w2.heap.size w2) _).mono hsz2), hpp, by simp; omega⟩)
             have CG2 := Lib.hid (ST2.out.get 0 0 rfl (by omega) (by rw [HT.out]; omega))
             clear hr2 hb2 hbb hp2 hg2)
          | ((with_reducible refine CG2.out.mono ?_); rintro e w3 ⟨rfl, hst⟩; rw [HV0.out]
             have ST3 := Lib.hid hst
             have CG3 := Lib.hid (ST3.out.get 2 2 rfl (by omega) (by rw [HT.out]; omega))
             clear hst
             have R3 := ROW0.under ST3.out.below (by omega)
             have RW3 := Lib.hid R3
             have HB3 := Lib.hid ((bl_alloc (Below.refl w.heap.size w) (.cells #[.int .i64 0, .int .i64 0, .slice none 0 0] 42)).trans (ST3.out.below.mono (by omega)))
             have c30 : w3.cell? ⟨w.heap.size, 0, none⟩ = some (.int .i64 0) := R3.read rfl
             have c31 : w3.cell? ⟨w.heap.size, 1, none⟩ = some (.int .i64 0) := R3.read rfl
             have c32 : w3.cell? ⟨w.heap.size, 2, none⟩ = some (.slice none 0 0) := R3.read rfl
             have f30 := R3.free 0
             have f31 := R3.free 1
             have f32 := R3.free 2
             clear R3))
        obtain ⟨d24, hu24⟩ := under42_parts
        refine bodyPost_ret (results_two rfl _ _ w.heap.size 42 #[.int .i64 0, .int .i64 0, .slice none 0 0] d24 rfl (((RW3.out.written 0 (.int .i64 0)).written 1 (.int .i64 0)).written 2 (.slice none 0 0)) hu24 Try.info42s) rfl ?_
        exact urd_bad HR3.out (by decide) (((HB3.out.setCell (p := ⟨w.heap.size, 0, none⟩) (Nat.le_refl _) (.int .i64 0)).setCell (p := ⟨w.heap.size, 1, none⟩) (Nat.le_refl _) (.int .i64 0)).setCell (p := ⟨w.heap.size, 2, none⟩) (Nat.le_refl _) (.slice none 0 0))
end Go.Proofs.Ytgdpjaojlhdhdaa
