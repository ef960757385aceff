/-
  The packet that bytes are, of 10 bits. What umd answers to fixed calls. What amd answers to fixed calls. Are fields too much for a statement?. AmdBack: packets go there and back: what its calls answer.
-/
import Derived.Test.YtgdpjaojlhdhdaaJAmdReads10
import Derived.Test.YtgdpjaojlhdhdaaJAmdReads02
import Derived.Test.YtgdpjaojlhdhdaaJAmdReads09
import Derived.Test.YtgdpjaojlhdhdaaJAmdReads23
import Derived.Test.YtgdpjaojlhdhdaaJAmdReads07
import Derived.Test.YtgdpjaojlhdhdaaJAmdReads15
namespace Go.Proofs.Ytgdpjaojlhdhdaa
open Go.RowKit


set_option maxRecDepth 100000 in
set_option maxHeartbeats 6400000 in
theorem uread_10 {A : Option Addr} {bs : List Nat} (n cap : Nat) (w : World) (hn : bs.length = n) (hm : n ≤ 8192) (hc : n ≤ cap) (hcm : cap ≤ 9223372036854775807) (hs : Src w A (bts bs)) (hb : ∀ b ∈ bs, b < 256) :
    Calls Try.prog 25 #[.slice A n cap, .int .i64 10] w (UrdAns w.heap.size w (umdRd bs 10)) := by
  have HSH := Lib.hid (fun W => (show Calls Try.prog 160 #[.int .i64 10] W fun e w' => e = .returned (.tuple #[.int .i64 2, .int .i64 3]) ∧ W = w' from shape_any 10 W))
  rcases Nat.lt_or_ge 4000 n with h1 | h1
  · have HF := Lib.hid (show (umdRd bs 10).1 = 2 by unfold umdRd; rw [if_pos (by decide), if_pos (by omega)])
    have h1' : (4000 : Int) < n := by omega
    clear hs hb hn
    go_enter Try.func25, Try.ntmps25
    go_wp2_with (go_at_call 160; refine (HSH.out _).mono ?_; rintro e w1 ⟨rfl, rfl⟩)
    exact bodyPost_ret (v := .tuple #[.agg #[.int .i64 0, .int .i64 0, .slice none 0 0], .int .i64 2]) (by simp [results, Try.results25, go_sem]) rfl (urd_bad HF.out (by decide) (by first | exact bl_alloc (Below.refl _ _) _ | exact (bl_alloc (Below.refl _ _) _).setCell (by simp) _))
  · have h1' : ¬ (4000 : Int) < n := by omega
    rcases Nat.lt_or_ge n 2 with h2 | h2
    · have HF := Lib.hid (show (umdRd bs 10).1 = 8 by unfold umdRd; rw [if_pos (by decide), if_neg (by omega), if_pos (by omega)])
      have h2' : (n : Int) < 2 := by omega
      clear hs hb hn
      go_enter Try.func25, Try.ntmps25
      go_wp2_with (go_at_call 160; refine (HSH.out _).mono ?_; rintro e w1 ⟨rfl, rfl⟩)
      exact bodyPost_ret (v := .tuple #[.agg #[.int .i64 0, .int .i64 0, .slice none 0 0], .int .i64 8]) (by simp [results, Try.results25, go_sem]) rfl (urd_bad HF.out (by decide) (by first | exact bl_alloc (Below.refl _ _) _ | exact (bl_alloc (Below.refl _ _) _).setCell (by simp) _))
    · have h2' : ¬ (n : Int) < 2 := by omega
      have hth : (bs.take 2).length = 2 := by rw [List.length_take]; omega
      have hF : umdRd bs 10 = if val (seg (bs.take 2) 0 3) ≠ 0 then (3, 0, 0, []) else if (fldR (bs.drop 2) (bitAt (bs.take 2) (3 + 2)) 11).1 = 0 then (0, val (seg (bs.take 2) 3 2), val (seg (bs.take 2) (3 + 2 + 1) 10), (fldR (bs.drop 2) (bitAt (bs.take 2) (3 + 2)) 11).2) else ((fldR (bs.drop 2) (bitAt (bs.take 2) (3 + 2)) 11).1, 0, 0, []) := by
        unfold umdRd
        rw [if_pos (by decide), if_neg (by omega), if_neg (by omega)]
        rfl
      obtain ⟨ad, rfl, _⟩ := hs (by rw [length_bts]; omega)
      have HS := Lib.hid hs
      have HRD := Lib.hid (fun W (hb1 : Below w.heap.size w W) => (show Calls Try.prog 161 #[.slice (some ad) 2 cap] W fun e w' => ∃ p g, e = .returned (.pointer (some ⟨p, 0, none⟩)) ∧ W.heap.size ≤ p ∧ W.heap.size ≤ g ∧ RRep w' p g (bs.take 2) 0 ∧ Below W.heap.size W w' from by
        have h9 := read_any (some ad) cap (bs.take 2) W (by omega) (by omega) (src_take _ (src_later hs hb1)) (fun b hx => hb b (List.mem_of_mem_take hx))
        rw [hth] at h9
        exact h9))
      have hdl : (bs.drop 2).length = n - 2 := by rw [List.length_drop, hn]
      have HFR := Lib.hid (fun W Ab cb more (hb1 : Below w.heap.size w W) (hsb : Src w Ab (bts (bs.drop 2))) (hcb : n - 2 ≤ cb) (hcm2 : cb ≤ 9223372036854775807) => fread_any (A := Ab) (bs := bs.drop 2) more 11 (n - 2) cb 11 W (.inl rfl) rfl hdl (by omega) hcb hcm2 (src_later hsb hb1) (fun b h => hb b (List.mem_of_mem_drop h)))
      have HDL := Lib.hid hdl
      generalize bs.take 2 = hd at *
      have HT := Lib.hid hth
      have HF := Lib.hid hF
      clear hs hb hn hF hdl hth
      have ROW0 := Row.made w 42 #[.int .i64 0, .int .i64 0, .slice none 0 0]
      by_cases hz : val (seg hd 0 3) = 0
      · rw [if_neg (fun h => h hz)] at HF
        have HV0 := Lib.hid (show ((val (seg hd 0 3) : Nat) : Int) = 0 by omega)
        have HMO := Lib.hid (show ((val (seg hd (0 + 3 + 2) 1) : Nat) : Int) = ((bitAt hd (3 + 2)).toNat : Int) from by rw [show 0 + 3 + 2 = 3 + 2 from rfl]; exact one_bit (by rw [HT.out]; omega))
        have hmo : (((bitAt hd (3 + 2)).toNat : Int) == 1) = bitAt hd (3 + 2) := bit_eq _
        obtain ⟨fi, hfi⟩ : ∃ x, val (seg hd (0 + 3) 2) = x := ⟨_, rfl⟩
        obtain ⟨sn, hsn⟩ : ∃ x, val (seg hd (0 + 3 + 2 + 1) 10) = x := ⟨_, rfl⟩
        rw [show val (seg hd 3 2) = fi from hfi, show val (seg hd (3 + 2 + 1) 10) = sn from hsn] at HF
        have HFI := Lib.hid hfi
        have HSN := Lib.hid hsn
        clear hfi hsn
        generalize bitAt hd (3 + 2) = more at *
        clear hz
        by_cases hkc : cap = 2
        · obtain rfl : n = 2 := by omega
          subst hkc
          have HS0 := Lib.hid (show Src w (some ad) (bts (bs.drop 2)) from fun h0 => absurd h0 (by rw [length_bts, HDL.out]; omega))
          have HFR := Lib.hid (fun W more hb1 => (show Calls Try.prog 164 #[.slice (some ad) 0 0, .bool more, .int .i64 11] W (FldAns W.heap.size W (fldR (bs.drop 2) more 11)) from HFR.out W (some ad) 0 more hb1 HS0.out (by omega) (by omega)))
          go_enter Try.func25, Try.ntmps25
          go_wp2_with (first
            | (go_at_call 160; refine (HSH.out _).mono ?_; rintro e w1 ⟨rfl, rfl⟩)
            | (go_at_call 161; refine (HRD.out _ (bl_alloc (Below.refl _ _) _)).mono ?_; rintro e w2 ⟨p, g, rfl, hp2, hg2, hr2, hb2⟩
               have hpp : w.heap.size + 1 ≤ p := by simpa using hp2
               have hbb : Below (w.heap.size + 1) (w.alloc (.cells #[.int .i64 0, .int .i64 0, .slice none 0 0] 42)) w2 := by simpa using hb2
               have hsz2 : w.heap.size + 1 ≤ w2.heap.size := by have := hbb.size; simpa using hb2.size
               have ST2 := Lib.hid (show RdSt (w.heap.size + 1) (w.alloc (.cells #[.int .i64 0, .int .i64 0, .slice none 0 0] 42)) w2.heap.size p g hd 0 (w2.alloc (.cells #[.pointer (some ⟨p, 0, none⟩)] 224)) from
                 ⟨hr2.later (bl_alloc (Below.refl _ _) _), Row.made _ _ _, hbb.trans ((bl_alloc (Below.refl w2.heap.size w2) _).mono hsz2), hpp, by simp; omega⟩)
               have CG2 := Lib.hid (ST2.out.get 3 3 rfl (by omega) (by rw [HT.out]; omega))
               clear hr2 hb2 hbb hp2 hg2)
            | ((with_reducible refine CG2.out.mono ?_); rintro e w3 ⟨rfl, hst⟩; rw [HV0.out]
               have ST3 := Lib.hid hst
               have CG3 := Lib.hid (ST3.out.get 2 2 rfl (by omega) (by rw [HT.out]; omega))
               clear hst
               skip)
            | ((with_reducible refine CG3.out.mono ?_); rintro e w4 ⟨rfl, hst⟩; rw [HFI.out]
               have ST4 := Lib.hid hst
               have CG4 := Lib.hid (ST4.out.get 1 1 rfl (by omega) (by rw [HT.out]; omega))
               clear hst)
            | ((with_reducible refine CG4.out.mono ?_); rintro e w5 ⟨rfl, hst⟩; rw [HMO.out]
               have ST5 := Lib.hid hst
               have CG5 := Lib.hid (ST5.out.get 10 10 rfl (by omega) (by rw [HT.out]; omega))
               clear hst)
            | ((with_reducible refine CG5.out.mono ?_); rintro e w6 ⟨rfl, hst⟩; rw [HSN.out]
               have ST6 := Lib.hid hst
               clear hst
               have HB6 := Lib.hid ((bl_alloc (Below.refl w.heap.size w) (.cells #[.int .i64 0, .int .i64 0, .slice none 0 0] 42)).trans (ST6.out.below.mono (by omega))))
            | (go_at_call 164; refine (HFR.out w6 more HB6.out).mono ?_; rintro e w7 ⟨h3 | h3, h4⟩
               (obtain ⟨her, v, L, hL, rfl, ho⟩ := h3; obtain ⟨Av, cv, rfl, hv1, hv2⟩ := ho.form
                have HO := Lib.hid ho
                have HER := Lib.hid her
                have HLL := Lib.hid hL
                have ST7 := Lib.hid (ST6.out.below.trans (h4.mono ST6.out.size))
                clear ho her hL h4
                have R7 := ROW0.under ST7.out (by omega)
                have RW7 := Lib.hid R7
                have HB7 := Lib.hid ((bl_alloc (Below.refl w.heap.size w) (.cells #[.int .i64 0, .int .i64 0, .slice none 0 0] 42)).trans (ST7.out.mono (by omega)))
                have c70 : w7.cell? ⟨w.heap.size, 0, none⟩ = some (.int .i64 0) := R7.read rfl
                have c71 : w7.cell? ⟨w.heap.size, 1, none⟩ = some (.int .i64 0) := R7.read rfl
                have c72 : w7.cell? ⟨w.heap.size, 2, none⟩ = some (.slice none 0 0) := R7.read rfl
                have f70 := R7.free 0
                have f71 := R7.free 1
                have f72 := R7.free 2
                clear R7)
               rotate_left 1
               (obtain ⟨her, rfl⟩ := h3
                have her2 : ((fldR (bs.drop 2) more 11).1 != 0) = true := by simpa using her
                have HER := Lib.hid her
                have ST7 := Lib.hid (ST6.out.below.trans (h4.mono ST6.out.size))
                clear her h4
                generalize (fldR (bs.drop 2) more 11).1 = er at *
                have R7 := ROW0.under ST7.out (by omega)
                have RW7 := Lib.hid R7
                have HB7 := Lib.hid ((bl_alloc (Below.refl w.heap.size w) (.cells #[.int .i64 0, .int .i64 0, .slice none 0 0] 42)).trans (ST7.out.mono (by omega)))
                have c70 : w7.cell? ⟨w.heap.size, 0, none⟩ = some (.int .i64 0) := R7.read rfl
                have c71 : w7.cell? ⟨w.heap.size, 1, none⟩ = some (.int .i64 0) := R7.read rfl
                have c72 : w7.cell? ⟨w.heap.size, 2, none⟩ = some (.slice none 0 0) := R7.read rfl
                have f70 := R7.free 0
                have f71 := R7.free 1
                have f72 := R7.free 2
                clear R7)
               rotate_left 1))
          · obtain ⟨d24, hu24⟩ := under42_parts
            have HOW := Lib.hid (show OwnR w.heap.size ((((w7.setCell ⟨w.heap.size, 0, none⟩ (.int .i64 fi)).setCell ⟨w.heap.size, 1, none⟩ (.int .i64 sn)).setCell ⟨w.heap.size, 2, none⟩ (.slice Av L.length cv))) (.slice Av L.length cv) L from
              (HO.out.only (S := fun k => k = w.heap.size) ((((Only.refl (fun k => k = w.heap.size) w7).set (p := ⟨w.heap.size, 0, none⟩) (.inl rfl) (.int .i64 fi)).set (p := ⟨w.heap.size, 1, none⟩) (.inl rfl) (.int .i64 sn)).set (p := ⟨w.heap.size, 2, none⟩) (.inl rfl) (.slice Av L.length cv)) (fun k hk => by have := (HO.out.own.lt k hk).1; have := HB6.out.size; have := ST6.out.size; omega) (fun k cs hr hk => by have := ST6.out.size; omega)).down HB6.out.size)
            refine bodyPost_ret (results_two rfl _ _ w.heap.size 42 #[.int .i64 fi, .int .i64 sn, .slice Av L.length cv] d24 rfl (((RW7.out.written 0 (.int .i64 fi)).written 1 (.int .i64 sn)).written 2 (.slice Av L.length cv)) hu24 Try.info42s) rfl ?_
            rw [HF.out, if_pos HER.out]
            exact ⟨.inl ⟨rfl, _, L, HLL.out, rfl, HOW.out⟩, (((HB7.out.setCell (p := ⟨w.heap.size, 0, none⟩) (Nat.le_refl _) (.int .i64 fi)).setCell (p := ⟨w.heap.size, 1, none⟩) (Nat.le_refl _) (.int .i64 sn)).setCell (p := ⟨w.heap.size, 2, none⟩) (Nat.le_refl _) (.slice Av L.length cv))⟩
          · obtain ⟨d24, hu24⟩ := under42_parts
            refine bodyPost_ret (results_two rfl _ _ w.heap.size 42 #[.int .i64 0, .int .i64 0, .slice none 0 0] d24 rfl (((RW7.out.written 0 (.int .i64 0)).written 1 (.int .i64 0)).written 2 (.slice none 0 0)) hu24 Try.info42s) rfl ?_
            rw [HF.out, if_neg HER.out]
            exact ⟨.inr ⟨HER.out, rfl⟩, (((HB7.out.setCell (p := ⟨w.heap.size, 0, none⟩) (Nat.le_refl _) (.int .i64 0)).setCell (p := ⟨w.heap.size, 1, none⟩) (Nat.le_refl _) (.int .i64 0)).setCell (p := ⟨w.heap.size, 2, none⟩) (Nat.le_refl _) (.slice none 0 0))⟩
        · have hkc2 : 2 < cap := by omega
          have HS0 := Lib.hid (show Src w (some (ad.add 2)) (bts (bs.drop 2)) from by
            have h9 := src_dropc (c := 0) 2 (show Src w (some ad) (bts (bs.drop 0)) from HS.out)
            rw [Nat.zero_add] at h9
            exact h9)
          have HFR := Lib.hid (fun W more hb1 => HFR.out W (some (ad.add 2)) (cap - 2) more hb1 HS0.out (by omega) (by omega))
          go_enter Try.func25, Try.ntmps25
          go_wp2_with (first
            | (go_at_call 160; refine (HSH.out _).mono ?_; rintro e w1 ⟨rfl, rfl⟩)
            | (go_at_call 161; refine (HRD.out _ (bl_alloc (Below.refl _ _) _)).mono ?_; rintro e w2 ⟨p, g, rfl, hp2, hg2, hr2, hb2⟩
               have hpp : w.heap.size + 1 ≤ p := by simpa using hp2
               have hbb : Below (w.heap.size + 1) (w.alloc (.cells #[.int .i64 0, .int .i64 0, .slice none 0 0] 42)) w2 := by simpa using hb2
               have hsz2 : w.heap.size + 1 ≤ w2.heap.size := by have := hbb.size; simpa using hb2.size
               have ST2 := Lib.hid (show RdSt (w.heap.size + 1) (w.alloc (.cells #[.int .i64 0, .int .i64 0, .slice none 0 0] 42)) w2.heap.size p g hd 0 (w2.alloc (.cells #[.pointer (some ⟨p, 0, none⟩)] 224)) from
                 ⟨hr2.later (bl_alloc (Below.refl _ _) _), Row.made _ _ _, hbb.trans ((bl_alloc (Below.refl w2.heap.size w2) _).mono hsz2), hpp, by simp; omega⟩)
               have CG2 := Lib.hid (ST2.out.get 3 3 rfl (by omega) (by rw [HT.out]; omega))
               clear hr2 hb2 hbb hp2 hg2)
            | ((with_reducible refine CG2.out.mono ?_); rintro e w3 ⟨rfl, hst⟩; rw [HV0.out]
               have ST3 := Lib.hid hst
               have CG3 := Lib.hid (ST3.out.get 2 2 rfl (by omega) (by rw [HT.out]; omega))
               clear hst
               skip)
            | ((with_reducible refine CG3.out.mono ?_); rintro e w4 ⟨rfl, hst⟩; rw [HFI.out]
               have ST4 := Lib.hid hst
               have CG4 := Lib.hid (ST4.out.get 1 1 rfl (by omega) (by rw [HT.out]; omega))
               clear hst)
            | ((with_reducible refine CG4.out.mono ?_); rintro e w5 ⟨rfl, hst⟩; rw [HMO.out]
               have ST5 := Lib.hid hst
               have CG5 := Lib.hid (ST5.out.get 10 10 rfl (by omega) (by rw [HT.out]; omega))
               clear hst)
            | ((with_reducible refine CG5.out.mono ?_); rintro e w6 ⟨rfl, hst⟩; rw [HSN.out]
               have ST6 := Lib.hid hst
               clear hst
               have HB6 := Lib.hid ((bl_alloc (Below.refl w.heap.size w) (.cells #[.int .i64 0, .int .i64 0, .slice none 0 0] 42)).trans (ST6.out.below.mono (by omega))))
            | (go_at_call 164; refine (HFR.out w6 more HB6.out).mono ?_; rintro e w7 ⟨h3 | h3, h4⟩
               (obtain ⟨her, v, L, hL, rfl, ho⟩ := h3; obtain ⟨Av, cv, rfl, hv1, hv2⟩ := ho.form
                have HO := Lib.hid ho
                have HER := Lib.hid her
                have HLL := Lib.hid hL
                have ST7 := Lib.hid (ST6.out.below.trans (h4.mono ST6.out.size))
                clear ho her hL h4
                have R7 := ROW0.under ST7.out (by omega)
                have RW7 := Lib.hid R7
                have HB7 := Lib.hid ((bl_alloc (Below.refl w.heap.size w) (.cells #[.int .i64 0, .int .i64 0, .slice none 0 0] 42)).trans (ST7.out.mono (by omega)))
                have c70 : w7.cell? ⟨w.heap.size, 0, none⟩ = some (.int .i64 0) := R7.read rfl
                have c71 : w7.cell? ⟨w.heap.size, 1, none⟩ = some (.int .i64 0) := R7.read rfl
                have c72 : w7.cell? ⟨w.heap.size, 2, none⟩ = some (.slice none 0 0) := R7.read rfl
                have f70 := R7.free 0
                have f71 := R7.free 1
                have f72 := R7.free 2
                clear R7)
               rotate_left 1
               (obtain ⟨her, rfl⟩ := h3
                have her2 : ((fldR (bs.drop 2) more 11).1 != 0) = true := by simpa using her
                have HER := Lib.hid her
                have ST7 := Lib.hid (ST6.out.below.trans (h4.mono ST6.out.size))
                clear her h4
                generalize (fldR (bs.drop 2) more 11).1 = er at *
                have R7 := ROW0.under ST7.out (by omega)
                have RW7 := Lib.hid R7
                have HB7 := Lib.hid ((bl_alloc (Below.refl w.heap.size w) (.cells #[.int .i64 0, .int .i64 0, .slice none 0 0] 42)).trans (ST7.out.mono (by omega)))
                have c70 : w7.cell? ⟨w.heap.size, 0, none⟩ = some (.int .i64 0) := R7.read rfl
                have c71 : w7.cell? ⟨w.heap.size, 1, none⟩ = some (.int .i64 0) := R7.read rfl
                have c72 : w7.cell? ⟨w.heap.size, 2, none⟩ = some (.slice none 0 0) := R7.read rfl
                have f70 := R7.free 0
                have f71 := R7.free 1
                have f72 := R7.free 2
                clear R7)
               rotate_left 1))
          · obtain ⟨d24, hu24⟩ := under42_parts
            have HOW := Lib.hid (show OwnR w.heap.size ((((w7.setCell ⟨w.heap.size, 0, none⟩ (.int .i64 fi)).setCell ⟨w.heap.size, 1, none⟩ (.int .i64 sn)).setCell ⟨w.heap.size, 2, none⟩ (.slice Av L.length cv))) (.slice Av L.length cv) L from
              (HO.out.only (S := fun k => k = w.heap.size) ((((Only.refl (fun k => k = w.heap.size) w7).set (p := ⟨w.heap.size, 0, none⟩) (.inl rfl) (.int .i64 fi)).set (p := ⟨w.heap.size, 1, none⟩) (.inl rfl) (.int .i64 sn)).set (p := ⟨w.heap.size, 2, none⟩) (.inl rfl) (.slice Av L.length cv)) (fun k hk => by have := (HO.out.own.lt k hk).1; have := HB6.out.size; have := ST6.out.size; omega) (fun k cs hr hk => by have := ST6.out.size; omega)).down HB6.out.size)
            refine bodyPost_ret (results_two rfl _ _ w.heap.size 42 #[.int .i64 fi, .int .i64 sn, .slice Av L.length cv] d24 rfl (((RW7.out.written 0 (.int .i64 fi)).written 1 (.int .i64 sn)).written 2 (.slice Av L.length cv)) hu24 Try.info42s) rfl ?_
            rw [HF.out, if_pos HER.out]
            exact ⟨.inl ⟨rfl, _, L, HLL.out, rfl, HOW.out⟩, (((HB7.out.setCell (p := ⟨w.heap.size, 0, none⟩) (Nat.le_refl _) (.int .i64 fi)).setCell (p := ⟨w.heap.size, 1, none⟩) (Nat.le_refl _) (.int .i64 sn)).setCell (p := ⟨w.heap.size, 2, none⟩) (Nat.le_refl _) (.slice Av L.length cv))⟩
          · obtain ⟨d24, hu24⟩ := under42_parts
            refine bodyPost_ret (results_two rfl _ _ w.heap.size 42 #[.int .i64 0, .int .i64 0, .slice none 0 0] d24 rfl (((RW7.out.written 0 (.int .i64 0)).written 1 (.int .i64 0)).written 2 (.slice none 0 0)) hu24 Try.info42s) rfl ?_
            rw [HF.out, if_neg HER.out]
            exact ⟨.inr ⟨HER.out, rfl⟩, (((HB7.out.setCell (p := ⟨w.heap.size, 0, none⟩) (Nat.le_refl _) (.int .i64 0)).setCell (p := ⟨w.heap.size, 1, none⟩) (Nat.le_refl _) (.int .i64 0)).setCell (p := ⟨w.heap.size, 2, none⟩) (Nat.le_refl _) (.slice none 0 0))⟩
      · rw [if_pos hz] at HF
        have HR3 := Lib.hid (show (umdRd bs 10).1 = 3 by rw [HF.out])
        have hz1 : (((val (seg hd 0 3) : Nat) : Int) != 0) = true := by simp; omega
        obtain ⟨v0, hv0⟩ : ∃ x, ((val (seg hd 0 3) : Nat) : Int) = x := ⟨_, rfl⟩
        rw [hv0] at hz1
        have HV0 := Lib.hid hv0
        clear hz HFR hv0
        go_enter Try.func25, Try.ntmps25
        go_wp2_with (first
          | (go_at_call 160; refine (HSH.out _).mono ?_; rintro e w1 ⟨rfl, rfl⟩)
          | (go_at_call 161; refine (HRD.out _ (bl_alloc (Below.refl _ _) _)).mono ?_; rintro e w2 ⟨p, g, rfl, hp2, hg2, hr2, hb2⟩
             have hpp : w.heap.size + 1 ≤ p := by simpa using hp2
             have hbb : Below (w.heap.size + 1) (w.alloc (.cells #[.int .i64 0, .int .i64 0, .slice none 0 0] 42)) w2 := by simpa using hb2
             have hsz2 : w.heap.size + 1 ≤ w2.heap.size := by have := hbb.size; simpa using hb2.size
             have ST2 := Lib.hid (show RdSt (w.heap.size + 1) (w.alloc (.cells #[.int .i64 0, .int .i64 0, .slice none 0 0] 42)) w2.heap.size p g hd 0 (w2.alloc (.cells #[.pointer (some ⟨p, 0, none⟩)] 224)) from
               ⟨hr2.later (bl_alloc (Below.refl _ _) _), Row.made _ _ _, hbb.trans ((bl_alloc (Below.refl w2.heap.size w2) _).mono hsz2), hpp, by simp; omega⟩)
             have CG2 := Lib.hid (ST2.out.get 3 3 rfl (by omega) (by rw [HT.out]; omega))
             clear hr2 hb2 hbb hp2 hg2)
          | ((with_reducible refine CG2.out.mono ?_); rintro e w3 ⟨rfl, hst⟩; rw [HV0.out]
             have ST3 := Lib.hid hst
             have CG3 := Lib.hid (ST3.out.get 2 2 rfl (by omega) (by rw [HT.out]; omega))
             clear hst
             have R3 := ROW0.under ST3.out.below (by omega)
             have RW3 := Lib.hid R3
             have HB3 := Lib.hid ((bl_alloc (Below.refl w.heap.size w) (.cells #[.int .i64 0, .int .i64 0, .slice none 0 0] 42)).trans (ST3.out.below.mono (by omega)))
             have c30 : w3.cell? ⟨w.heap.size, 0, none⟩ = some (.int .i64 0) := R3.read rfl
             have c31 : w3.cell? ⟨w.heap.size, 1, none⟩ = some (.int .i64 0) := R3.read rfl
             have c32 : w3.cell? ⟨w.heap.size, 2, none⟩ = some (.slice none 0 0) := R3.read rfl
             have f30 := R3.free 0
             have f31 := R3.free 1
             have f32 := R3.free 2
             clear R3))
        obtain ⟨d24, hu24⟩ := under42_parts
        refine bodyPost_ret (results_two rfl _ _ w.heap.size 42 #[.int .i64 0, .int .i64 0, .slice none 0 0] d24 rfl (((RW3.out.written 0 (.int .i64 0)).written 1 (.int .i64 0)).written 2 (.slice none 0 0)) hu24 Try.info42s) rfl ?_
        exact urd_bad HR3.out (by decide) (((HB3.out.setCell (p := ⟨w.heap.size, 0, none⟩) (Nat.le_refl _) (.int .i64 0)).setCell (p := ⟨w.heap.size, 1, none⟩) (Nat.le_refl _) (.int .i64 0)).setCell (p := ⟨w.heap.size, 2, none⟩) (Nat.le_refl _) (.slice none 0 0))
end Go.Proofs.Ytgdpjaojlhdhdaa
namespace Go.Proofs.Ytgdpjaojlhdhdaa
open Go.RowKit


theorem row1 (w : World) (o : Obj) (t : TypeId) (cs : Array Value) : Row ((w.alloc o).alloc (.cells cs t)) (w.heap.size + 1) t cs := by
  have h := Row.made (w.alloc o) t cs
  have e : (w.alloc o).heap.size = w.heap.size + 1 := by simp
  rw [e] at h
  exact h
theorem row2 (w : World) (o o' : Obj) (t : TypeId) (cs : Array Value) : Row (((w.alloc o).alloc o').alloc (.cells cs t)) (w.heap.size + 1 + 1) t cs := by
  have h := Row.made ((w.alloc o).alloc o') t cs
  have e : ((w.alloc o).alloc o').heap.size = w.heap.size + 1 + 1 := by simp
  rw [e] at h
  exact h
theorem ok_of_row {w : World} {g : Nat} {l : List Nat} (h : Row w g 5 (bts l).toArray) (hb : ∀ b ∈ l, b < 256) (hl : l.length ≤ 9223372036854775807) : RowB.ok w ⟨some ⟨g, 0, none⟩, l.length, l⟩ := ⟨row_src h, Nat.le_refl _, hl, hb⟩
theorem rsrc_of {w : World} {g : Nat} {L : List RowB} (h : Row w g 30 (L.map RowB.v).toArray) (hok : ∀ r ∈ L, r.ok w) : RSrc w (some ⟨g, 0, none⟩) L := fun _ => ⟨_, rfl, fun k r hr => ⟨by
  rw [add_zero_addr]
  exact h.read (by rw [List.getElem?_toArray, List.getElem?_map, hr]; rfl), hok r (List.mem_of_getElem? hr)⟩⟩
theorem al1 {W : World} {g1 g2 : Nat} (h1 : Row W g1 5 #[.int .u8 65]) (h2 : Row W g2 30 #[.slice (some ⟨g1, 0, none⟩) 1 1]) :
    Calls Try.prog 158 #[.agg #[.int .i64 0, .int .i64 3, .slice (some ⟨g2, 0, none⟩) 1 1], .int .i64 5] W fun e w' => ∃ v', e = .returned (.tuple #[v', .int .i64 0]) ∧ OwnY W.heap.size w' v' [3, 65] ∧ Below W.heap.size W w' := by
  have hs : RSrc W (some ⟨g2, 0, none⟩) [⟨some ⟨g1, 0, none⟩, 1, [65]⟩] := rsrc_of h2 (fun r hr => by
    rw [List.mem_singleton] at hr
    subst hr
    exact ok_of_row (l := [65]) h1 (by decide) (by decide))
  have h := uwrite_ok 0 3 5 1 1 W rfl (by omega) (by omega) hs (by show ∀ m ∈ [1], m ≤ 9223372036854775807; decide) (by show umdF 0 3 [1] 5 ≠ 0; decide +kernel)
  rw [show umdBytes 0 3 [⟨some ⟨g1, 0, none⟩, 1, [65]⟩] 5 = [3, 65] from by
    have e : tailF (lens [⟨some ⟨g1, 0, none⟩, 1, [65]⟩]) 11 = [] := by
      show tailF [1] 11 = _
      decide +kernel
    unfold umdBytes
    rw [e, show pack (headB 0 3 (decide (1 < [(⟨some ⟨g1, 0, none⟩, 1, [65]⟩ : RowB)].length)) 5) = [3] from by
      show pack (headB 0 3 false 5) = _
      decide +kernel]
    rfl] at h
  exact h
theorem al2 {W : World} {g1 g2 g3 : Nat} (h1 : Row W g1 5 #[.int .u8 1, .int .u8 2]) (h2 : Row W g2 5 #[.int .u8 3]) (h3 : Row W g3 30 #[.slice (some ⟨g1, 0, none⟩) 2 2, .slice (some ⟨g2, 0, none⟩) 1 1]) :
    Calls Try.prog 158 #[.agg #[.int .i64 3, .int .i64 700, .slice (some ⟨g3, 0, none⟩) 2 2], .int .i64 10] W fun e w' => ∃ v', e = .returned (.tuple #[v', .int .i64 0]) ∧ OwnY W.heap.size w' v' [30, 188, 0, 32, 1, 2, 3] ∧ Below W.heap.size W w' := by
  have hs : RSrc W (some ⟨g3, 0, none⟩) [⟨some ⟨g1, 0, none⟩, 2, [1, 2]⟩, ⟨some ⟨g2, 0, none⟩, 1, [3]⟩] := rsrc_of h3 (fun r hr => by
    rw [List.mem_cons, List.mem_singleton] at hr
    rcases hr with rfl | rfl
    · exact ok_of_row (l := [1, 2]) h1 (by decide) (by decide)
    · exact ok_of_row (l := [3]) h2 (by decide) (by decide))
  have h := uwrite_ok 3 700 10 2 2 W rfl (by omega) (by omega) hs (by show ∀ m ∈ [2, 1], m ≤ 9223372036854775807; decide) (by show umdF 3 700 [2, 1] 10 ≠ 0; decide +kernel)
  rw [show umdBytes 3 700 [⟨some ⟨g1, 0, none⟩, 2, [1, 2]⟩, ⟨some ⟨g2, 0, none⟩, 1, [3]⟩] 10 = [30, 188, 0, 32, 1, 2, 3] from by
    have e : tailF (lens [⟨some ⟨g1, 0, none⟩, 2, [1, 2]⟩, ⟨some ⟨g2, 0, none⟩, 1, [3]⟩]) 11 = [0, 32] := by
      show tailF [2, 1] 11 = _
      decide +kernel
    unfold umdBytes
    rw [e, show pack (headB 3 700 (decide (1 < [(⟨some ⟨g1, 0, none⟩, 2, [1, 2]⟩ : RowB), ⟨some ⟨g2, 0, none⟩, 1, [3]⟩].length)) 10) = [30, 188] from by
      show pack (headB 3 700 true 10) = _
      decide +kernel]
    rfl] at h
  exact h
theorem al3 {W : World} {A : Option Addr} {c : Nat} (h : OwnY W.heap.size W (.slice A 7 c) [30, 188, 0, 32, 1, 2, 3] ∨ ∃ B, OwnY B W (.slice A 7 c) [30, 188, 0, 32, 1, 2, 3]) :
    Calls Try.prog 25 #[.slice A 7 c, .int .i64 10] W fun e w' => ∃ A' c', e = .returned (.tuple #[.agg #[.int .i64 3, .int .i64 700, .slice A' 2 c'], .int .i64 0]) ∧ Below W.heap.size W w' := by
  obtain ⟨B, hB⟩ : ∃ B, OwnY B W (.slice A 7 c) [30, 188, 0, 32, 1, 2, 3] := by
    rcases h with h | h
    · exact ⟨_, h⟩
    · exact h
  obtain ⟨A2, c2, e, h1, h2⟩ := hB.form
  injection e with e1 e2 e3
  subst e1 e3
  unfold maxLen at h2
  have hx : umdRd [30, 188, 0, 32, 1, 2, 3] 10 = (0, 3, 700, [[1, 2], [3]]) := by decide +kernel
  refine (uread_10 (bs := [30, 188, 0, 32, 1, 2, 3]) 7 c W rfl (by omega) h1 (by omega) hB.src (by decide)).mono ?_
  rintro e w' ⟨h3 | h3, h4⟩
  · rw [hx] at h3
    obtain ⟨_, v, L, h5, rfl, ho⟩ := h3
    have hL : L.length = 2 := by have := congrArg List.length h5; rw [length_texts] at this; exact this.symm
    obtain ⟨Av, cv, rfl, _⟩ := ho.form
    rw [hL]
    exact ⟨Av, cv, rfl, h4⟩
  · rw [hx] at h3
    exact absurd rfl h3.1
theorem al4 {W : World} {g : Nat} (h : Row W g 5 #[.int .u8 3]) :
    Calls Try.prog 25 #[.slice (some ⟨g, 0, none⟩) 1 1, .int .i64 5] W fun e w' => e = .returned (.tuple #[.agg #[.int .i64 0, .int .i64 0, .slice none 0 0], .int .i64 8]) ∧ Below W.heap.size W w' := by
  have hx : umdRd [3] 5 = (8, 0, 0, []) := by decide +kernel
  refine (uread_5 (bs := [3]) 1 1 W rfl (by omega) (by omega) (by omega) (row_src (xs := bts [3]) h) (by decide)).mono ?_
  rintro e w' ⟨h3 | h3, h4⟩
  · rw [hx] at h3
    exact absurd h3.1 (by decide)
  · rw [hx] at h3
    exact ⟨h3.2, h4⟩
theorem al5 {W : World} {g1 g2 : Nat} (h1 : Row W g1 5 #[.int .u8 1]) (h2 : Row W g2 30 #[.slice (some ⟨g1, 0, none⟩) 1 1]) :
    Calls Try.prog 158 #[.agg #[.int .i64 0, .int .i64 32, .slice (some ⟨g2, 0, none⟩) 1 1], .int .i64 5] W fun e w' => e = .returned (.tuple #[.slice none 0 0, .int .i64 3]) ∧ Below W.heap.size W w' := by
  have hs : RSrc W (some ⟨g2, 0, none⟩) [⟨some ⟨g1, 0, none⟩, 1, [1]⟩] := rsrc_of h2 (fun r hr => by
    rw [List.mem_singleton] at hr
    subst hr
    exact ok_of_row (l := [1]) h1 (by decide) (by decide))
  have h := uwrite_bad 0 32 5 1 1 W rfl (by omega) hs (by show ∀ m ∈ [1], m ≤ 9223372036854775807; decide) (by show umdF 0 32 [1] 5 = 0; decide +kernel)
  exact h

end Go.Proofs.Ytgdpjaojlhdhdaa
namespace Go.Proofs.Ytgdpjaojlhdhdaa
open Go.RowKit

theorem aal1 {W : World} {g1 g2 : Nat} (h1 : Row W g1 5 #[.int .u8 65]) (h2 : Row W g2 30 #[.slice (some ⟨g1, 0, none⟩) 1 1]) :
    Calls Try.prog 40 #[.agg #[.bool false, .int .i64 0, .int .i64 5, .bool false, .bool false, .int .i64 0, .slice (some ⟨g2, 0, none⟩) 1 1], .int .i64 10] W fun e w' => ∃ v', e = .returned (.tuple #[v', .int .i64 0]) ∧ OwnY W.heap.size w' v' [128, 5, 65] ∧ Below W.heap.size W w' := by
  have hs : RSrc W (some ⟨g2, 0, none⟩) [⟨some ⟨g1, 0, none⟩, 1, [65]⟩] := rsrc_of h2 (fun r hr => by
    rw [List.mem_singleton] at hr
    subst hr
    exact ok_of_row (l := [65]) h1 (by decide) (by decide))
  have h := awrite_ok false false false 0 5 0 10 1 1 W rfl (by omega) (by omega) hs (by show ∀ m ∈ [1], m ≤ 9223372036854775807; decide) (by show amdF false false 0 5 0 [1] 10 ≠ 0; decide +kernel)
  rw [show amdBytes false false false 0 5 0 [⟨some ⟨g1, 0, none⟩, 1, [65]⟩] 10 = [128, 5, 65] from by
    have e : tailF (lens [⟨some ⟨g1, 0, none⟩, 1, [65]⟩]) (lwNA 10) = [] := by
      show tailF [1] 11 = _
      decide +kernel
    unfold amdBytes
    rw [e, show pack (bitsP (putsA false false false 0 5 0 (decide (1 < [(⟨some ⟨g1, 0, none⟩, 1, [65]⟩ : RowB)].length)) 10)) = [128, 5] from by
      show pack (bitsP (putsA false false false 0 5 0 false 10)) = _
      decide +kernel]
    rfl] at h
  exact h
theorem aal2 {W : World} {g1 g2 g3 : Nat} (h1 : Row W g1 5 #[.int .u8 1, .int .u8 2]) (h2 : Row W g2 5 #[.int .u8 3]) (h3 : Row W g3 30 #[.slice (some ⟨g1, 0, none⟩) 2 2, .slice (some ⟨g2, 0, none⟩) 1 1]) :
    Calls Try.prog 40 #[.agg #[.bool true, .int .i64 1, .int .i64 300, .bool true, .bool true, .int .i64 7, .slice (some ⟨g3, 0, none⟩) 2 2], .int .i64 16] W fun e w' => ∃ v', e = .returned (.tuple #[v', .int .i64 0]) ∧ OwnY W.heap.size w' v' [238, 1, 44, 0, 7, 0, 2, 1, 2, 3] ∧ Below W.heap.size W w' := by
  have hs : RSrc W (some ⟨g3, 0, none⟩) [⟨some ⟨g1, 0, none⟩, 2, [1, 2]⟩, ⟨some ⟨g2, 0, none⟩, 1, [3]⟩] := rsrc_of h3 (fun r hr => by
    rw [List.mem_cons, List.mem_singleton] at hr
    rcases hr with rfl | rfl
    · exact ok_of_row (l := [1, 2]) h1 (by decide) (by decide)
    · exact ok_of_row (l := [3]) h2 (by decide) (by decide))
  have h := awrite_ok true true true 1 300 7 16 2 2 W rfl (by omega) (by omega) hs (by show ∀ m ∈ [2, 1], m ≤ 9223372036854775807; decide) (by show amdF true true 1 300 7 [2, 1] 16 ≠ 0; decide +kernel)
  rw [show amdBytes true true true 1 300 7 [⟨some ⟨g1, 0, none⟩, 2, [1, 2]⟩, ⟨some ⟨g2, 0, none⟩, 1, [3]⟩] 16 = [238, 1, 44, 0, 7, 0, 2, 1, 2, 3] from by
    have e : tailF (lens [⟨some ⟨g1, 0, none⟩, 2, [1, 2]⟩, ⟨some ⟨g2, 0, none⟩, 1, [3]⟩]) (lwNA 16) = [0, 2] := by
      show tailF [2, 1] 15 = _
      decide +kernel
    unfold amdBytes
    rw [e, show pack (bitsP (putsA true true true 1 300 7 (decide (1 < [(⟨some ⟨g1, 0, none⟩, 2, [1, 2]⟩ : RowB), ⟨some ⟨g2, 0, none⟩, 1, [3]⟩].length)) 16)) = [238, 1, 44, 0, 7] from by
      show pack (bitsP (putsA true true true 1 300 7 true 16)) = _
      decide +kernel]
    rfl] at h
  exact h
theorem aal3 {W : World} {A : Option Addr} {c : Nat} (h : ∃ B, OwnY B W (.slice A 10 c) [238, 1, 44, 0, 7, 0, 2, 1, 2, 3]) :
    Calls Try.prog 34 #[.slice A 10 c, .int .i64 16] W fun e w' => ∃ A' c', e = .returned (.tuple #[.agg #[.bool true, .int .i64 1, .int .i64 300, .bool true, .bool true, .int .i64 7, .slice A' 2 c'], .int .i64 0]) ∧ Below W.heap.size W w' := by
  obtain ⟨B, hB⟩ := h
  obtain ⟨A2, c2, e, h1, h2⟩ := hB.form
  injection e with e1 e2 e3
  subst e1 e3
  unfold maxLen at h2
  have hx : amdRd [238, 1, 44, 0, 7, 0, 2, 1, 2, 3] 16 = (0, ⟨true, true, true, 1, 300, 7⟩, [[1, 2], [3]]) := by kernel_rfl
  refine (aread_yes (bs := [238, 1, 44, 0, 7, 0, 2, 1, 2, 3]) 16 10 c W (.inr rfl) rfl (by omega) h1 (by omega) hB.src (by decide)).mono ?_
  rintro e w' ⟨h3 | h3, h4⟩
  · rw [hx] at h3
    obtain ⟨_, v, L, h5, rfl, ho⟩ := h3
    have hL : L.length = 2 := by have := congrArg List.length h5; rw [length_texts] at this; exact this.symm
    obtain ⟨Av, cv, rfl, _⟩ := ho.form
    rw [hL]
    exact ⟨Av, cv, rfl, h4⟩
  · rw [hx] at h3
    exact absurd rfl h3.1
theorem aal4 {W : World} {g : Nat} (h : Row W g 5 #[.int .u8 0]) :
    Calls Try.prog 34 #[.slice (some ⟨g, 0, none⟩) 1 1, .int .i64 10] W fun e w' => e = .returned (.tuple #[.agg #[.bool false, .int .i64 0, .int .i64 0, .bool false, .bool false, .int .i64 0, .slice none 0 0], .int .i64 4]) ∧ Below W.heap.size W w' := by
  have hx : amdRd [0] 10 = (4, hd0, []) := by kernel_rfl
  refine (aread_yes (bs := [0]) 10 1 1 W (.inl rfl) rfl (by omega) (by omega) (by omega) (row_src (xs := bts [0]) h) (by decide)).mono ?_
  rintro e w' ⟨h3 | h3, h4⟩
  · rw [hx] at h3
    exact absurd h3.1 (by decide)
  · rw [hx] at h3
    exact ⟨h3.2, h4⟩
theorem aal5 {W : World} {g1 g2 : Nat} (h1 : Row W g1 5 #[.int .u8 1]) (h2 : Row W g2 30 #[.slice (some ⟨g1, 0, none⟩) 1 1]) :
    Calls Try.prog 40 #[.agg #[.bool false, .int .i64 0, .int .i64 0, .bool false, .bool false, .int .i64 1, .slice (some ⟨g2, 0, none⟩) 1 1], .int .i64 10] W fun e w' => e = .returned (.tuple #[.slice none 0 0, .int .i64 3]) ∧ Below W.heap.size W w' := by
  have hs : RSrc W (some ⟨g2, 0, none⟩) [⟨some ⟨g1, 0, none⟩, 1, [1]⟩] := rsrc_of h2 (fun r hr => by
    rw [List.mem_singleton] at hr
    subst hr
    exact ok_of_row (l := [1]) h1 (by decide) (by decide))
  have h := awrite_bad false false false 0 0 1 10 1 1 W rfl (by omega) hs (by show ∀ m ∈ [1], m ≤ 9223372036854775807; decide) (by show amdF false false 0 0 1 [1] 10 = 0; decide +kernel)
  exact h
set_option maxRecDepth 100000 in
set_option maxHeartbeats 3200000 in
theorem aalive_any (w : World) : Calls Try.prog 33 #[] w fun e w' => e = .returned (.bool true) ∧ Below w.heap.size w w' := by
  go_enter Try.func33, Try.ntmps33
  go_wp2_with (first
    | (go_at_call 40; (with_reducible refine (aal1 (g1 := w.heap.size) ?x1 ?x2).mono ?_); rotate_left 2; rintro e w1 ⟨v1, rfl, ho1, hb1⟩; obtain ⟨A1, c1, hv1, _⟩ := ho1.form; simp only [List.length_cons, List.length_nil, Nat.zero_add, Nat.reduceAdd] at hv1; subst hv1; (have HO1 := Lib.hid ho1; have HB1 := Lib.hid (bl_step (bl_alloc (bl_alloc (Below.refl w.heap.size w) _) _) hb1); clear ho1 hb1))
    | (go_at_call 40; (with_reducible refine (aal2 (g1 := w1.heap.size) (g2 := w1.heap.size + 1) ?y1 ?y2 ?y3).mono ?_); rotate_left 3; rintro e w2 ⟨v2, rfl, ho2, hb2⟩; obtain ⟨A2, c2, hv2, _⟩ := ho2.form; simp only [List.length_cons, List.length_nil, Nat.zero_add, Nat.reduceAdd] at hv2; subst hv2; (have HO2 := Lib.hid ho2; have HBS2 := Lib.hid (bl_step (bl_alloc (bl_alloc (bl_alloc (Below.refl w1.heap.size w1) _) _) _) hb2); clear ho2 hb2))
    | (go_at_call 34; (with_reducible refine (aal3 ⟨_, HO2.out⟩).mono ?_); rintro e w3 ⟨A3, c3, rfl, hb3⟩; have HB3 := Lib.hid hb3; clear hb3)
    | (go_at_call 34; (with_reducible refine (aal4 ?z1).mono ?_); rotate_left 1; rintro e w4 ⟨rfl, hb4⟩; (have HBS4 := Lib.hid (bl_step (bl_alloc (bl_alloc (Below.refl w3.heap.size w3) _) _) hb4); have RP := Lib.hid (((Row.made w3 57 #[.bool true, .int .i64 1, .int .i64 300, .bool true, .bool true, .int .i64 7, .slice A3 2 c3]).more _).later hb4); clear hb4))
    | (go_at_call 40; (with_reducible refine (aal5 (g1 := w4.heap.size + 1) ?u1 ?u2).mono ?_); rotate_left 2; rintro e w5 ⟨rfl, hb5⟩
       have hb59 := bl_step (bl_alloc (bl_alloc (bl_alloc (Below.refl w4.heap.size w4) _) _) _) hb5
       have HB59 := Lib.hid hb59
       have cv1 : (convert 30 9 (.slice A1 3 c1)).run Try.prog w5 = .ok (.string ⟨#[128, 5, 65]⟩) w5 := (((((HO1.out.later HBS2.out).later HB3.out).later HBS4.out).later hb59)).conv (by decide)
       have cv2 : (convert 30 9 (.slice A2 10 c2)).run Try.prog w5 = .ok (.string ⟨#[238, 1, 44, 0, 7, 0, 2, 1, 2, 3]⟩) w5 := (((HO2.out.later HB3.out).later HBS4.out).later hb59).conv (by decide)
       have rp := RP.out.later hb59
       have p0 : w5.cell? ⟨w3.heap.size, 0, none⟩ = some (.bool true) := rp.read rfl
       have p4 : w5.cell? ⟨w3.heap.size, 4, none⟩ = some (.bool true) := rp.read rfl
       have p5 : w5.cell? ⟨w3.heap.size, 5, none⟩ = some (.int .i64 7) := rp.read rfl
       clear hb5 hb59 rp))
  · go_ret
    exact ⟨rfl, bl_step' (bl_step' (bl_step' (bl_step' HB1.out (HBS2.out.mono HB1.out.size)) (HB3.out.mono (Nat.le_trans HB1.out.size HBS2.out.size))) (HBS4.out.mono (Nat.le_trans (Nat.le_trans HB1.out.size HBS2.out.size) HB3.out.size))) (HB59.out.mono (Nat.le_trans (Nat.le_trans (Nat.le_trans HB1.out.size HBS2.out.size) HB3.out.size) HBS4.out.size))⟩
  all_goals first | exact Row.made _ _ _ | exact (Row.made _ _ _).more _ | exact ((Row.made _ _ _).more _).more _ | exact row1 _ _ _ _ | exact (row1 _ _ _ _).more _ | exact row2 _ _ _ _ _
end Go.Proofs.Ytgdpjaojlhdhdaa
namespace Go.Proofs.Ytgdpjaojlhdhdaa
open Go.RowKit


/-- what it answers: at least a bound, where it says no -/
def GreatAns (n q : Nat) (w : World) (e : Ending) (w' : World) : Prop := (∃ b, e = .returned (.bool b) ∧ (b = false → n ≤ 40 ∧ q ≤ 9000)) ∧ w = w'
set_option maxRecDepth 100000 in
set_option maxHeartbeats 1600000 in
theorem great_any {A : Option Addr} {L : List RowB} (n cap : Nat) (w : World) (hL : L.length = n) (hn : n ≤ 9223372036854775807) (hs : RSrc w A L) (hm : ∀ m ∈ lens L, m ≤ 9223372036854775807) :
    Calls Try.prog 38 #[.slice A n cap] w (GreatAns n (lens L).sum w) := by
  have HS := Lib.hid hs
  have HL := Lib.hid hL
  have HM := Lib.hid hm
  clear hs hL hm
  go_enter Try.func38, Try.ntmps38
  go_wp2
  go_loopw [3, 4] (fun s i wr => ∃ k q : Nat, k ≤ n ∧ q ≤ 4200 * 41 ∧ i = .int .i64 k ∧ s = .int .i64 q ∧ Hid (q = sumTo (lens L) k ∧ q ≤ 4200 * k ∧ (0 < k → n ≤ 40)) ∧ w = wr) (fun _ i _ => n - (intOf i).toNat)
  case atStart => exact ⟨0, 0, by omega, by omega, rfl, rfl, Lib.hid ⟨by rw [sumTo_zero], by omega, by omega⟩, rfl⟩
  case round =>
    obtain ⟨k, q, hk, hq, rfl, rfl, HK, rfl⟩ := hrel
    by_cases hlt : k < n
    · obtain ⟨ad, rfl, hc⟩ := HS.out (by rw [HL.out]; omega)
      obtain ⟨r, hr⟩ : ∃ r, L[k]? = some r := ⟨_, List.getElem?_eq_getElem (by rw [HL.out]; exact hlt)⟩
      have hcell : w.cell? (ad.add k) = some (.slice r.A r.bs.length r.cap) := (hc k r hr).1
      have HSU := Lib.hid (sumTo_succ (lens_at hr))
      have hlm := HM.out _ (List.mem_of_getElem? (lens_at hr))
      clear hc hr
      generalize r.bs.length = len at *
      by_cases h40 : 40 < n
      · have h40' : (40 : Int) < n := by omega
        go_wp2
        go_ret
        exact ⟨⟨true, rfl, fun h => by cases h⟩, rfl⟩
      · have h40' : ¬ (40 : Int) < n := by omega
        by_cases h42 : 4200 < len
        · have h42' : (4200 : Int) < len := by omega
          go_wp2
          go_ret
          exact ⟨⟨true, rfl, fun h => by cases h⟩, rfl⟩
        · have h42' : ¬ (4200 : Int) < len := by omega
          have hb : q ≤ 4200 * k := HK.out.2.1
          go_wp2
          go_roundw
          case rel => exact ⟨k + 1, q + len, by omega, by omega, by go_num, by go_num, Lib.hid ⟨by rw [HSU.out, HK.out.1], by omega, fun _ => by omega⟩, trivial⟩
          case measure => simp [intOf]; omega
    · have hkn : k = n := by omega
      go_wp2
      go_ret
      refine ⟨⟨_, rfl, fun h => ?_⟩, rfl⟩
      have h2 : ¬ (9000 : Int) < q := by simpa using h
      have h9 := HK.out.1
      rw [hkn, show n = (lens L).length by rw [length_lens, HL.out], sumTo_all] at h9
      refine ⟨?_, by omega⟩
      rcases Nat.eq_zero_or_pos k with h0 | h0
      · omega
      · exact HK.out.2.2 h0
end Go.Proofs.Ytgdpjaojlhdhdaa
namespace Go.Proofs.Ytgdpjaojlhdhdaa
open Go.RowKit

/-- what Write answers, whatever the packet is -/
def WrAnsA (poll part last : Bool) (fi sn off wd : Int) (L : List RowB) (w : World) (e : Ending) (w' : World) : Prop :=
  ((amdF part last fi sn off (lens L) wd ≠ 0 ∧ ∃ (a b c d : Nat) (v : Value), fi = a ∧ sn = b ∧ off = c ∧ wd = d ∧ e = .returned (.tuple #[v, .int .i64 0]) ∧ OwnY w.heap.size w' v (amdBytes poll part last a b c L d)) ∨
   (amdF part last fi sn off (lens L) wd = 0 ∧ ∃ er : Int, er ≠ 0 ∧ e = .returned (.tuple #[.slice none 0 0, .int .i64 er]))) ∧ Below w.heap.size w w'
theorem placed_nn {part last : Bool} {off wd : Int} (h : placedA part last off wd = true) : 0 ≤ off := by
  unfold placedA at h
  cases part
  · simp at h; omega
  · simp only [if_true] at h
    exact (of_decide_eq_true h).1
theorem nat_of {part last : Bool} {fi sn off wd : Int} {ls : List Nat} (h : amdF part last fi sn off ls wd ≠ 0) : ∃ a b c d : Nat, fi = a ∧ sn = b ∧ off = c ∧ wd = d := by
  obtain ⟨hw, h0, hf, hs2, hpl, _⟩ := amdF_pos h
  have h1 := (of_decide_eq_true hs2).1
  have h2 := placed_nn hpl
  exact ⟨fi.toNat, sn.toNat, off.toNat, wd.toNat, by omega, by omega, by omega, by omega⟩
theorem awrite_any {A : Option Addr} {L : List RowB} (poll part last : Bool) (fi sn off wd : Int) (n cap : Nat) (w : World) (hL : L.length = n) (hcap : n ≤ cap) (hcm : cap ≤ 9223372036854775807) (hs : RSrc w A L) (hm : ∀ m ∈ lens L, m ≤ 9223372036854775807) :
    Calls Try.prog 40 #[.agg #[.bool poll, .int .i64 fi, .int .i64 sn, .bool part, .bool last, .int .i64 off, .slice A n cap], .int .i64 wd] w (WrAnsA poll part last fi sn off wd L w) := by
  by_cases h : amdF part last fi sn off (lens L) wd = 0
  · refine (awrite_bad poll part last fi sn off wd n cap w hL (by omega) hs hm h).mono ?_
    rintro e w' ⟨rfl, hb⟩
    exact ⟨.inr ⟨h, _, by split <;> decide, rfl⟩, hb⟩
  · obtain ⟨a, b, c, d, rfl, rfl, rfl, rfl⟩ := nat_of h
    refine (awrite_ok poll part last a b c d n cap w hL hcap hcm hs hm h).mono ?_
    rintro e w' ⟨v, rfl, ho, hb⟩
    exact ⟨.inl ⟨h, a, b, c, d, v, rfl, rfl, rfl, rfl, rfl, ho⟩, hb⟩
/-- what Read answers, whatever the bytes are -/
def RdAnyA (bs : List Nat) (wd : Int) (w : World) (e : Ending) (w' : World) : Prop :=
  ((∃ (d : Nat) (h : HdA) (L : List RowB) (A : Option Addr) (c : Nat), wd = d ∧ amdRd bs d = (0, h, texts L) ∧ e = .returned (.tuple #[.agg #[.bool h.poll, .int .i64 h.fi, .int .i64 h.sn, .bool h.part, .bool h.last, .int .i64 h.off, .slice A L.length c], .int .i64 0]) ∧ OwnR w.heap.size w' (.slice A L.length c) L ∧ L.length ≤ c ∧ c ≤ 9223372036854775807) ∨
   ((∀ d : Nat, wd = d → (amdRd bs d).1 ≠ 0) ∧ ∃ er : Int, er ≠ 0 ∧ e = .returned (.tuple #[.agg #[.bool false, .int .i64 0, .int .i64 0, .bool false, .bool false, .int .i64 0, .slice none 0 0], .int .i64 er]))) ∧ Below w.heap.size w w'
theorem aread_any {A : Option Addr} {bs : List Nat} (wd : Int) (n cap : Nat) (w : World) (hn : bs.length = n) (hm : n ≤ 8192) (hc : n ≤ cap) (hcm : cap ≤ 9223372036854775807) (hs : Src w A (bts bs)) (hb : ∀ b ∈ bs, b < 256) :
    Calls Try.prog 34 #[.slice A n cap, .int .i64 wd] w (RdAnyA bs wd w) := by
  have key : ∀ d : Nat, wd = d → ∀ e w', ArdAns w.heap.size w (amdRd bs d) e w' → RdAnyA bs wd w e w' := by
    rintro d rfl e w' ⟨h | h, hbl⟩
    · obtain ⟨h0, v, L, h1, rfl, ho⟩ := h
      obtain ⟨Av, cv, rfl, g1, g2⟩ := ho.form
      refine ⟨.inl ⟨d, (amdRd bs d).2.1, L, Av, cv, rfl, ?_, rfl, ho, g1, g2⟩, hbl⟩
      rw [← h0, ← h1]
    · obtain ⟨h0, rfl⟩ := h
      exact ⟨.inr ⟨fun d' hd => by
        obtain rfl : d = d' := by omega
        exact h0, _, h0, rfl⟩, hbl⟩
  by_cases h5 : wd = 10 ∨ wd = 16
  · obtain ⟨d, rfl⟩ : ∃ d : Nat, wd = d := ⟨wd.toNat, by omega⟩
    exact (aread_yes d n cap w (by omega) hn hm hc hcm hs hb).mono fun e w' h => key d rfl e w' h
  · refine (aread_kind n cap wd w h5).mono ?_
    rintro e w' ⟨rfl, hbl⟩
    refine ⟨.inr ⟨fun d hd => ?_, 9, by decide, rfl⟩, hbl⟩
    rw [amdRd_kind (by omega)]
    decide
end Go.Proofs.Ytgdpjaojlhdhdaa
