/-
  The packet that bytes are, of 5 bits. The packet that bytes are, of 10 bits.
-/
import Derived.Test.YtgdpjaojlhdhdaaJAmdWrites10
import Derived.Test.YtgdpjaojlhdhdaaJAmdWrites02
namespace Go.Proofs.Ytgdpjaojlhdhdaa
open Go.RowKit


set_option maxRecDepth 100000 in
set_option maxHeartbeats 6400000 in
theorem uread_5 {A : Option Addr} {bs : List Nat} (n cap : Nat) (w : World) (hn : bs.length = n) (hm : n ≤ 8192) (hc : n ≤ cap) (hcm : cap ≤ 9223372036854775807) (hs : Src w A (bts bs)) (hb : ∀ b ∈ bs, b < 256) :
    Calls Try.prog 25 #[.slice A n cap, .int .i64 5] w (UrdAns w.heap.size w (umdRd bs 5)) := by
  have HSH := Lib.hid (fun W => (show Calls Try.prog 160 #[.int .i64 5] W fun e w' => e = .returned (.tuple #[.int .i64 1, .int .i64 0]) ∧ W = w' from shape_any 5 W))
  rcases Nat.lt_or_ge 4000 n with h1 | h1
  · have HF := Lib.hid (show (umdRd bs 5).1 = 2 by unfold umdRd; rw [if_pos (by decide), if_pos (by omega)])
    have h1' : (4000 : Int) < n := by omega
    clear hs hb hn
    go_enter Try.func25, Try.ntmps25
    go_wp2_with (go_at_call 160; refine (HSH.out _).mono ?_; rintro e w1 ⟨rfl, rfl⟩)
    exact bodyPost_ret (v := .tuple #[.agg #[.int .i64 0, .int .i64 0, .slice none 0 0], .int .i64 2]) (by simp [results, Try.results25, go_sem]) rfl (urd_bad HF.out (by decide) (by first | exact bl_alloc (Below.refl _ _) _ | exact (bl_alloc (Below.refl _ _) _).setCell (by simp) _))
  · have h1' : ¬ (4000 : Int) < n := by omega
    rcases Nat.lt_or_ge n 1 with h2 | h2
    · have HF := Lib.hid (show (umdRd bs 5).1 = 8 by unfold umdRd; rw [if_pos (by decide), if_neg (by omega), if_pos (by omega)])
      have h2' : (n : Int) < 1 := by omega
      clear hs hb hn
      go_enter Try.func25, Try.ntmps25
      go_wp2_with (go_at_call 160; refine (HSH.out _).mono ?_; rintro e w1 ⟨rfl, rfl⟩)
      exact bodyPost_ret (v := .tuple #[.agg #[.int .i64 0, .int .i64 0, .slice none 0 0], .int .i64 8]) (by simp [results, Try.results25, go_sem]) rfl (urd_bad HF.out (by decide) (by first | exact bl_alloc (Below.refl _ _) _ | exact (bl_alloc (Below.refl _ _) _).setCell (by simp) _))
    · have h2' : ¬ (n : Int) < 1 := by omega
      have hth : (bs.take 1).length = 1 := by rw [List.length_take]; omega
      have hF : umdRd bs 5 = if val (seg (bs.take 1) 0 0) ≠ 0 then (3, 0, 0, []) else if (fldR (bs.drop 1) (bitAt (bs.take 1) (0 + 2)) 11).1 = 0 then (0, val (seg (bs.take 1) 0 2), val (seg (bs.take 1) (0 + 2 + 1) 5), (fldR (bs.drop 1) (bitAt (bs.take 1) (0 + 2)) 11).2) else ((fldR (bs.drop 1) (bitAt (bs.take 1) (0 + 2)) 11).1, 0, 0, []) := by
        unfold umdRd
        rw [if_pos (by decide), if_neg (by omega), if_neg (by omega)]
        rfl
      obtain ⟨ad, rfl, _⟩ := hs (by rw [length_bts]; omega)
      have HS := Lib.hid hs
      have HRD := Lib.hid (fun W (hb1 : Below w.heap.size w W) => (show Calls Try.prog 161 #[.slice (some ad) 1 cap] W fun e w' => ∃ p g, e = .returned (.pointer (some ⟨p, 0, none⟩)) ∧ W.heap.size ≤ p ∧ W.heap.size ≤ g ∧ RRep w' p g (bs.take 1) 0 ∧ Below W.heap.size W w' from by
        have h9 := read_any (some ad) cap (bs.take 1) W (by omega) (by omega) (src_take _ (src_later hs hb1)) (fun b hx => hb b (List.mem_of_mem_take hx))
        rw [hth] at h9
        exact h9))
      have hdl : (bs.drop 1).length = n - 1 := by rw [List.length_drop, hn]
      have HFR := Lib.hid (fun W Ab cb more (hb1 : Below w.heap.size w W) (hsb : Src w Ab (bts (bs.drop 1))) (hcb : n - 1 ≤ cb) (hcm2 : cb ≤ 9223372036854775807) => fread_any (A := Ab) (bs := bs.drop 1) more 11 (n - 1) cb 11 W (.inl rfl) rfl hdl (by omega) hcb hcm2 (src_later hsb hb1) (fun b h => hb b (List.mem_of_mem_drop h)))
      have HDL := Lib.hid hdl
      generalize bs.take 1 = hd at *
      have HT := Lib.hid hth
      have HF := Lib.hid hF
      clear hs hb hn hF hdl hth
      have ROW0 := Row.made w 42 #[.int .i64 0, .int .i64 0, .slice none 0 0]
      by_cases hz : val (seg hd 0 0) = 0
      · rw [if_neg (fun h => h hz)] at HF
        have HV0 := Lib.hid (show ((val (seg hd 0 0) : Nat) : Int) = 0 by omega)
        have HMO := Lib.hid (show ((val (seg hd (0 + 0 + 2) 1) : Nat) : Int) = ((bitAt hd (0 + 2)).toNat : Int) from by rw [show 0 + 0 + 2 = 0 + 2 from rfl]; exact one_bit (by rw [HT.out]; omega))
        have hmo : (((bitAt hd (0 + 2)).toNat : Int) == 1) = bitAt hd (0 + 2) := bit_eq _
        obtain ⟨fi, hfi⟩ : ∃ x, val (seg hd (0 + 0) 2) = x := ⟨_, rfl⟩
        obtain ⟨sn, hsn⟩ : ∃ x, val (seg hd (0 + 0 + 2 + 1) 5) = x := ⟨_, rfl⟩
        rw [show val (seg hd 0 2) = fi from hfi, show val (seg hd (0 + 2 + 1) 5) = sn from hsn] at HF
        have HFI := Lib.hid hfi
        have HSN := Lib.hid hsn
        clear hfi hsn
        generalize bitAt hd (0 + 2) = more at *
        clear hz
        by_cases hkc : cap = 1
        · obtain rfl : n = 1 := by omega
          subst hkc
          have HS0 := Lib.hid (show Src w (some ad) (bts (bs.drop 1)) from fun h0 => absurd h0 (by rw [length_bts, HDL.out]; omega))
          have HFR := Lib.hid (fun W more hb1 => (show Calls Try.prog 164 #[.slice (some ad) 0 0, .bool more, .int .i64 11] W (FldAns W.heap.size W (fldR (bs.drop 1) more 11)) from HFR.out W (some ad) 0 more hb1 HS0.out (by omega) (by omega)))
          go_enter Try.func25, Try.ntmps25
          go_wp2_with (first
            | (go_at_call 160; refine (HSH.out _).mono ?_; rintro e w1 ⟨rfl, rfl⟩)
            | (go_at_call 161; refine (HRD.out _ (bl_alloc (Below.refl _ _) _)).mono ?_; rintro e w2 ⟨p, g, rfl, hp2, hg2, hr2, hb2⟩
               have hpp : w.heap.size + 1 ≤ p := by simpa using hp2
               have hbb : Below (w.heap.size + 1) (w.alloc (.cells #[.int .i64 0, .int .i64 0, .slice none 0 0] 42)) w2 := by simpa using hb2
               have hsz2 : w.heap.size + 1 ≤ w2.heap.size := by have := hbb.size; simpa using hb2.size
               have ST2 := Lib.hid (show RdSt (w.heap.size + 1) (w.alloc (.cells #[.int .i64 0, .int .i64 0, .slice none 0 0] 42)) w2.heap.size p g hd 0 (w2.alloc (.cells #[.pointer (some ⟨p, 0, none⟩)] 224)) from
                 ⟨hr2.later (bl_alloc (Below.refl _ _) _), Row.made _ _ _, hbb.trans ((bl_alloc (Below.refl w2.heap.size w2) _).mono hsz2), hpp, by simp; omega⟩)
               have CG2 := Lib.hid (ST2.out.get 0 0 rfl (by omega) (by rw [HT.out]; omega))
               clear hr2 hb2 hbb hp2 hg2)
            | ((with_reducible refine CG2.out.mono ?_); rintro e w3 ⟨rfl, hst⟩; rw [HV0.out]
               have ST3 := Lib.hid hst
               have CG3 := Lib.hid (ST3.out.get 2 2 rfl (by omega) (by rw [HT.out]; omega))
               clear hst
               skip)
            | ((with_reducible refine CG3.out.mono ?_); rintro e w4 ⟨rfl, hst⟩; rw [HFI.out]
               have ST4 := Lib.hid hst
               have CG4 := Lib.hid (ST4.out.get 1 1 rfl (by omega) (by rw [HT.out]; omega))
               clear hst)
            | ((with_reducible refine CG4.out.mono ?_); rintro e w5 ⟨rfl, hst⟩; rw [HMO.out]
               have ST5 := Lib.hid hst
               have CG5 := Lib.hid (ST5.out.get 5 5 rfl (by omega) (by rw [HT.out]; omega))
               clear hst)
            | ((with_reducible refine CG5.out.mono ?_); rintro e w6 ⟨rfl, hst⟩; rw [HSN.out]
               have ST6 := Lib.hid hst
               clear hst
               have HB6 := Lib.hid ((bl_alloc (Below.refl w.heap.size w) (.cells #[.int .i64 0, .int .i64 0, .slice none 0 0] 42)).trans (ST6.out.below.mono (by omega))))
            | (go_at_call 164; refine (HFR.out w6 more HB6.out).mono ?_; rintro e w7 ⟨h3 | h3, h4⟩
               (obtain ⟨her, v, L, hL, rfl, ho⟩ := h3; obtain ⟨Av, cv, rfl, hv1, hv2⟩ := ho.form
                have HO := Lib.hid ho
                have HER := Lib.hid her
                have HLL := Lib.hid hL
                have ST7 := Lib.hid (ST6.out.below.trans (h4.mono ST6.out.size))
                clear ho her hL h4
                have R7 := ROW0.under ST7.out (by omega)
                have RW7 := Lib.hid R7
                have HB7 := Lib.hid ((bl_alloc (Below.refl w.heap.size w) (.cells #[.int .i64 0, .int .i64 0, .slice none 0 0] 42)).trans (ST7.out.mono (by omega)))
                have c70 : w7.cell? ⟨w.heap.size, 0, none⟩ = some (.int .i64 0) := R7.read rfl
                have c71 : w7.cell? ⟨w.heap.size, 1, none⟩ = some (.int .i64 0) := R7.read rfl
                have c72 : w7.cell? ⟨w.heap.size, 2, none⟩ = some (.slice none 0 0) := R7.read rfl
                have f70 := R7.free 0
                have f71 := R7.free 1
                have f72 := R7.free 2
                clear R7)
               rotate_left 1
               (obtain ⟨her, rfl⟩ := h3
                have her2 : ((fldR (bs.drop 1) more 11).1 != 0) = true := by simpa using her
                have HER := Lib.hid her
                have ST7 := Lib.hid (ST6.out.below.trans (h4.mono ST6.out.size))
                clear her h4
                generalize (fldR (bs.drop 1) more 11).1 = er at *
                have R7 := ROW0.under ST7.out (by omega)
                have RW7 := Lib.hid R7
                have HB7 := Lib.hid ((bl_alloc (Below.refl w.heap.size w) (.cells #[.int .i64 0, .int .i64 0, .slice none 0 0] 42)).trans (ST7.out.mono (by omega)))
                have c70 : w7.cell? ⟨w.heap.size, 0, none⟩ = some (.int .i64 0) := R7.read rfl
                have c71 : w7.cell? ⟨w.heap.size, 1, none⟩ = some (.int .i64 0) := R7.read rfl
                have c72 : w7.cell? ⟨w.heap.size, 2, none⟩ = some (.slice none 0 0) := R7.read rfl
                have f70 := R7.free 0
                have f71 := R7.free 1
                have f72 := R7.free 2
                clear R7)
               rotate_left 1))
          · obtain ⟨d24, hu24⟩ := under42_parts
            have HOW := Lib.hid (show OwnR w.heap.size ((((w7.setCell ⟨w.heap.size, 0, none⟩ (.int .i64 fi)).setCell ⟨w.heap.size, 1, none⟩ (.int .i64 sn)).setCell ⟨w.heap.size, 2, none⟩ (.slice Av L.length cv))) (.slice Av L.length cv) L from
              (HO.out.only (S := fun k => k = w.heap.size) ((((Only.refl (fun k => k = w.heap.size) w7).set (p := ⟨w.heap.size, 0, none⟩) (.inl rfl) (.int .i64 fi)).set (p := ⟨w.heap.size, 1, none⟩) (.inl rfl) (.int .i64 sn)).set (p := ⟨w.heap.size, 2, none⟩) (.inl rfl) (.slice Av L.length cv)) (fun k hk => by have := (HO.out.own.lt k hk).1; have := HB6.out.size; have := ST6.out.size; omega) (fun k cs hr hk => by have := ST6.out.size; omega)).down HB6.out.size)
            refine bodyPost_ret (results_two rfl _ _ w.heap.size 42 #[.int .i64 fi, .int .i64 sn, .slice Av L.length cv] d24 rfl (((RW7.out.written 0 (.int .i64 fi)).written 1 (.int .i64 sn)).written 2 (.slice Av L.length cv)) hu24 Try.info42s) rfl ?_
            rw [HF.out, if_pos HER.out]
            exact ⟨.inl ⟨rfl, _, L, HLL.out, rfl, HOW.out⟩, (((HB7.out.setCell (p := ⟨w.heap.size, 0, none⟩) (Nat.le_refl _) (.int .i64 fi)).setCell (p := ⟨w.heap.size, 1, none⟩) (Nat.le_refl _) (.int .i64 sn)).setCell (p := ⟨w.heap.size, 2, none⟩) (Nat.le_refl _) (.slice Av L.length cv))⟩
          · obtain ⟨d24, hu24⟩ := under42_parts
            refine bodyPost_ret (results_two rfl _ _ w.heap.size 42 #[.int .i64 0, .int .i64 0, .slice none 0 0] d24 rfl (((RW7.out.written 0 (.int .i64 0)).written 1 (.int .i64 0)).written 2 (.slice none 0 0)) hu24 Try.info42s) rfl ?_
            rw [HF.out, if_neg HER.out]
            exact ⟨.inr ⟨HER.out, rfl⟩, (((HB7.out.setCell (p := ⟨w.heap.size, 0, none⟩) (Nat.le_refl _) (.int .i64 0)).setCell (p := ⟨w.heap.size, 1, none⟩) (Nat.le_refl _) (.int .i64 0)).setCell (p := ⟨w.heap.size, 2, none⟩) (Nat.le_refl _) (.slice none 0 0))⟩
        · have hkc2 : 1 < cap := by omega
          have HS0 := Lib.hid (show Src w (some (ad.add 1)) (bts (bs.drop 1)) from by
            have h9 := src_dropc (c := 0) 1 (show Src w (some ad) (bts (bs.drop 0)) from HS.out)
            rw [Nat.zero_add] at h9
            exact h9)
          have HFR := Lib.hid (fun W more hb1 => HFR.out W (some (ad.add 1)) (cap - 1) more hb1 HS0.out (by omega) (by omega))
          go_enter Try.func25, Try.ntmps25
          go_wp2_with (first
            | (go_at_call 160; refine (HSH.out _).mono ?_; rintro e w1 ⟨rfl, rfl⟩)
            | (go_at_call 161; refine (HRD.out _ (bl_alloc (Below.refl _ _) _)).mono ?_; rintro e w2 ⟨p, g, rfl, hp2, hg2, hr2, hb2⟩
               have hpp : w.heap.size + 1 ≤ p := by simpa using hp2
               have hbb : Below (w.heap.size + 1) (w.alloc (.cells #[.int .i64 0, .int .i64 0, .slice none 0 0] 42)) w2 := by simpa using hb2
               have hsz2 : w.heap.size + 1 ≤ w2.heap.size := by have := hbb.size; simpa using hb2.size
               have ST2 := Lib.hid (show RdSt (w.heap.size + 1) (w.alloc (.cells #[.int .i64 0, .int .i64 0, .slice none 0 0] 42)) w2.heap.size p g hd 0 (w2.alloc (.cells #[.pointer (some ⟨p, 0, none⟩)] 224)) from
                 ⟨hr2.later (bl_alloc (Below.refl _ _) _), Row.made _ _ _, hbb.trans ((bl_alloc (Below.refl w2.heap.size w2) _).mono hsz2), hpp, by simp; omega⟩)
               have CG2 := Lib.hid (ST2.out.get 0 0 rfl (by omega) (by rw [HT.out]; omega))
               clear hr2 hb2 hbb hp2 hg2)
            | ((with_reducible refine CG2.out.mono ?_); rintro e w3 ⟨rfl, hst⟩; rw [HV0.out]
               have ST3 := Lib.hid hst
               have CG3 := Lib.hid (ST3.out.get 2 2 rfl (by omega) (by rw [HT.out]; omega))
               clear hst
               skip)
            | ((with_reducible refine CG3.out.mono ?_); rintro e w4 ⟨rfl, hst⟩; rw [HFI.out]
               have ST4 := Lib.hid hst
               have CG4 := Lib.hid (ST4.out.get 1 1 rfl (by omega) (by rw [HT.out]; omega))
               clear hst)
            | ((with_reducible refine CG4.out.mono ?_); rintro e w5 ⟨rfl, hst⟩; rw [HMO.out]
               have ST5 := Lib.hid hst
               have CG5 := Lib.hid (ST5.out.get 5 5 rfl (by omega) (by rw [HT.out]; omega))
               clear hst)
            | ((with_reducible refine CG5.out.mono ?_); rintro e w6 ⟨rfl, hst⟩; rw [HSN.out]
               have ST6 := Lib.hid hst
               clear hst
               have HB6 := Lib.hid ((bl_alloc (Below.refl w.heap.size w) (.cells #[.int .i64 0, .int .i64 0, .slice none 0 0] 42)).trans (ST6.out.below.mono (by omega))))
            | (go_at_call 164; refine (HFR.out w6 more HB6.out).mono ?_; rintro e w7 ⟨h3 | h3, h4⟩
               (obtain ⟨her, v, L, hL, rfl, ho⟩ := h3; obtain ⟨Av, cv, rfl, hv1, hv2⟩ := ho.form
                have HO := Lib.hid ho
                have HER := Lib.hid her
                have HLL := Lib.hid hL
                have ST7 := Lib.hid (ST6.out.below.trans (h4.mono ST6.out.size))
                clear ho her hL h4
                have R7 := ROW0.under ST7.out (by omega)
                have RW7 := Lib.hid R7
                have HB7 := Lib.hid ((bl_alloc (Below.refl w.heap.size w) (.cells #[.int .i64 0, .int .i64 0, .slice none 0 0] 42)).trans (ST7.out.mono (by omega)))
                have c70 : w7.cell? ⟨w.heap.size, 0, none⟩ = some (.int .i64 0) := R7.read rfl
                have c71 : w7.cell? ⟨w.heap.size, 1, none⟩ = some (.int .i64 0) := R7.read rfl
                have c72 : w7.cell? ⟨w.heap.size, 2, none⟩ = some (.slice none 0 0) := R7.read rfl
                have f70 := R7.free 0
                have f71 := R7.free 1
                have f72 := R7.free 2
                clear R7)
               rotate_left 1
               (obtain ⟨her, rfl⟩ := h3
                have her2 : ((fldR (bs.drop 1) more 11).1 != 0) = true := by simpa using her
                have HER := Lib.hid her
                have ST7 := Lib.hid (ST6.out.below.trans (h4.mono ST6.out.size))
                clear her h4
                generalize (fldR (bs.drop 1) more 11).1 = er at *
                have R7 := ROW0.under ST7.out (by omega)
                have RW7 := Lib.hid R7
                have HB7 := Lib.hid ((bl_alloc (Below.refl w.heap.size w) (.cells #[.int .i64 0, .int .i64 0, .slice none 0 0] 42)).trans (ST7.out.mono (by omega)))
                have c70 : w7.cell? ⟨w.heap.size, 0, none⟩ = some (.int .i64 0) := R7.read rfl
                have c71 : w7.cell? ⟨w.heap.size, 1, none⟩ = some (.int .i64 0) := R7.read rfl
                have c72 : w7.cell? ⟨w.heap.size, 2, none⟩ = some (.slice none 0 0) := R7.read rfl
                have f70 := R7.free 0
                have f71 := R7.free 1
                have f72 := R7.free 2
                clear R7)
               rotate_left 1))
          · obtain ⟨d24, hu24⟩ := under42_parts
            have HOW := Lib.hid (show OwnR w.heap.size ((((w7.setCell ⟨w.heap.size, 0, none⟩ (.int .i64 fi)).setCell ⟨w.heap.size, 1, none⟩ (.int .i64 sn)).setCell ⟨w.heap.size, 2, none⟩ (.slice Av L.length cv))) (.slice Av L.length cv) L from
              (HO.out.only (S := fun k => k = w.heap.size) ((((Only.refl (fun k => k = w.heap.size) w7).set (p := ⟨w.heap.size, 0, none⟩) (.inl rfl) (.int .i64 fi)).set (p := ⟨w.heap.size, 1, none⟩) (.inl rfl) (.int .i64 sn)).set (p := ⟨w.heap.size, 2, none⟩) (.inl rfl) (.slice Av L.length cv)) (fun k hk => by have := (HO.out.own.lt k hk).1; have := HB6.out.size; have := ST6.out.size; omega) (fun k cs hr hk => by have := ST6.out.size; omega)).down HB6.out.size)
            refine bodyPost_ret (results_two rfl _ _ w.heap.size 42 #[.int .i64 fi, .int .i64 sn, .slice Av L.length cv] d24 rfl (((RW7.out.written 0 (.int .i64 fi)).written 1 (.int .i64 sn)).written 2 (.slice Av L.length cv)) hu24 Try.info42s) rfl ?_
            rw [HF.out, if_pos HER.out]
            exact ⟨.inl ⟨rfl, _, L, HLL.out, rfl, HOW.out⟩, (((HB7.out.setCell (p := ⟨w.heap.size, 0, none⟩) (Nat.le_refl _) (.int .i64 fi)).setCell (p := ⟨w.heap.size, 1, none⟩) (Nat.le_refl _) (.int .i64 sn)).setCell (p := ⟨w.heap.size, 2, none⟩) (Nat.le_refl _) (.slice Av L.length cv))⟩
          · obtain ⟨d24, hu24⟩ := under42_parts
            refine bodyPost_ret (results_two rfl _ _ w.heap.size 42 #[.int .i64 0, .int .i64 0, .slice none 0 0] d24 rfl (((RW7.out.written 0 (.int .i64 0)).written 1 (.int .i64 0)).written 2 (.slice none 0 0)) hu24 Try.info42s) rfl ?_
            rw [HF.out, if_neg HER.out]
            exact ⟨.inr ⟨HER.out, rfl⟩, (((HB7.out.setCell (p := ⟨w.heap.size, 0, none⟩) (Nat.le_refl _) (.int .i64 0)).setCell (p := ⟨w.heap.size, 1, none⟩) (Nat.le_refl _) (.int .i64 0)).setCell (p := ⟨w.heap.size, 2, none⟩) (Nat.le_refl _) (.slice none 0 0))⟩
      · rw [if_pos hz] at HF
        have HR3 := Lib.hid (show (umdRd bs 5).1 = 3 by rw [HF.out])
        have hz1 : (((val (seg hd 0 0) : Nat) : Int) != 0) = true := by simp; omega
        obtain ⟨v0, hv0⟩ : ∃ x, ((val (seg hd 0 0) : Nat) : Int) = x := ⟨_, rfl⟩
        rw [hv0] at hz1
        have HV0 := Lib.hid hv0
        clear hz HFR hv0
        go_enter Try.func25, Try.ntmps25
        go_wp2_with (first
          | (go_at_call 160; refine (HSH.out _).mono ?_; rintro e w1 ⟨rfl, rfl⟩)
          | (go_at_call 161; refine (HRD.out _ (bl_alloc (Below.refl _ _) _)).mono ?_; rintro e w2 ⟨p, g, rfl, hp2, hg2, hr2, hb2⟩
             have hpp : w.heap.size + 1 ≤ p := by simpa using hp2
             have hbb : Below (w.heap.size + 1) (w.alloc (.cells #[.int .i64 0, .int .i64 0, .slice none 0 0] 42)) w2 := by simpa using hb2
             have hsz2 : w.heap.size + 1 ≤ w2.heap.size := by have := hbb.size; simpa using hb2.size
             have ST2 := Lib.hid (show RdSt (w.heap.size + 1) (w.alloc (.cells #[.int .i64 0, .int .i64 0, .slice none 0 0] 42)) w2.heap.size p g hd 0 (w2.alloc (.cells #[.pointer (some ⟨p, 0, none⟩)] 224)) from
               ⟨hr2.later (bl_alloc (Below.refl _ _) _), Row.made _ _ _, hbb.trans ((bl_alloc (Below.refl w2.heap.size w2) _).mono hsz2), hpp, by simp; omega⟩)
             have CG2 := Lib.hid (ST2.out.get 0 0 rfl (by omega) (by rw [HT.out]; omega))
             clear hr2 hb2 hbb hp2 hg2)
          | ((with_reducible refine CG2.out.mono ?_); rintro e w3 ⟨rfl, hst⟩; rw [HV0.out]
             have ST3 := Lib.hid hst
             have CG3 := Lib.hid (ST3.out.get 2 2 rfl (by omega) (by rw [HT.out]; omega))
             clear hst
             have R3 := ROW0.under ST3.out.below (by omega)
             have RW3 := Lib.hid R3
             have HB3 := Lib.hid ((bl_alloc (Below.refl w.heap.size w) (.cells #[.int .i64 0, .int .i64 0, .slice none 0 0] 42)).trans (ST3.out.below.mono (by omega)))
             have c30 : w3.cell? ⟨w.heap.size, 0, none⟩ = some (.int .i64 0) := R3.read rfl
             have c31 : w3.cell? ⟨w.heap.size, 1, none⟩ = some (.int .i64 0) := R3.read rfl
             have c32 : w3.cell? ⟨w.heap.size, 2, none⟩ = some (.slice none 0 0) := R3.read rfl
             have f30 := R3.free 0
             have f31 := R3.free 1
             have f32 := R3.free 2
             clear R3))
        obtain ⟨d24, hu24⟩ := under42_parts
        refine bodyPost_ret (results_two rfl _ _ w.heap.size 42 #[.int .i64 0, .int .i64 0, .slice none 0 0] d24 rfl (((RW3.out.written 0 (.int .i64 0)).written 1 (.int .i64 0)).written 2 (.slice none 0 0)) hu24 Try.info42s) rfl ?_
        exact urd_bad HR3.out (by decide) (((HB3.out.setCell (p := ⟨w.heap.size, 0, none⟩) (Nat.le_refl _) (.int .i64 0)).setCell (p := ⟨w.heap.size, 1, none⟩) (Nat.le_refl _) (.int .i64 0)).setCell (p := ⟨w.heap.size, 2, none⟩) (Nat.le_refl _) (.slice none 0 0))
end Go.Proofs.Ytgdpjaojlhdhdaa
namespace Go.Proofs.Ytgdpjaojlhdhdaa
open Go.RowKit


set_option maxRecDepth 100000 in
set_option maxHeartbeats 6400000 in
theorem uread_10 {A : Option Addr} {bs : List Nat} (n cap : Nat) (w : World) (hn : bs.length = n) (hm : n ≤ 8192) (hc : n ≤ cap) (hcm : cap ≤ 9223372036854775807) (hs : Src w A (bts bs)) (hb : ∀ b ∈ bs, b < 256) :
    Calls Try.prog 25 #[.slice A n cap, .int .i64 10] w (UrdAns w.heap.size w (umdRd bs 10)) := by
  have HSH := Lib.hid (fun W => (show Calls Try.prog 160 #[.int .i64 10] W fun e w' => e = .returned (.tuple #[.int .i64 2, .int .i64 3]) ∧ W = w' from shape_any 10 W))
  rcases Nat.lt_or_ge 4000 n with h1 | h1
  · have HF := Lib.hid (show (umdRd bs 10).1 = 2 by unfold umdRd; rw [if_pos (by decide), if_pos (by omega)])
    have h1' : (4000 : Int) < n := by omega
    clear hs hb hn
    go_enter Try.func25, Try.ntmps25
    go_wp2_with (go_at_call 160; refine (HSH.out _).mono ?_; rintro e w1 ⟨rfl, rfl⟩)
    exact bodyPost_ret (v := .tuple #[.agg #[.int .i64 0, .int .i64 0, .slice none 0 0], .int .i64 2]) (by simp [results, Try.results25, go_sem]) rfl (urd_bad HF.out (by decide) (by first | exact bl_alloc (Below.refl _ _) _ | exact (bl_alloc (Below.refl _ _) _).setCell (by simp) _))
  · have h1' : ¬ (4000 : Int) < n := by omega
    rcases Nat.lt_or_ge n 2 with h2 | h2
    · have HF := Lib.hid (show (umdRd bs 10).1 = 8 by unfold umdRd; rw [if_pos (by decide), if_neg (by omega), if_pos (by omega)])
      have h2' : (n : Int) < 2 := by omega
      clear hs hb hn
      go_enter Try.func25, Try.ntmps25
      go_wp2_with (go_at_call 160; refine (HSH.out _).mono ?_; rintro e w1 ⟨rfl, rfl⟩)
      exact bodyPost_ret (v := .tuple #[.agg #[.int .i64 0, .int .i64 0, .slice none 0 0], .int .i64 8]) (by simp [results, Try.results25, go_sem]) rfl (urd_bad HF.out (by decide) (by first | exact bl_alloc (Below.refl _ _) _ | exact (bl_alloc (Below.refl _ _) _).setCell (by simp) _))
    · have h2' : ¬ (n : Int) < 2 := by omega
      have hth : (bs.take 2).length = 2 := by rw [List.length_take]; omega
      have hF : umdRd bs 10 = if val (seg (bs.take 2) 0 3) ≠ 0 then (3, 0, 0, []) else if (fldR (bs.drop 2) (bitAt (bs.take 2) (3 + 2)) 11).1 = 0 then (0, val (seg (bs.take 2) 3 2), val (seg (bs.take 2) (3 + 2 + 1) 10), (fldR (bs.drop 2) (bitAt (bs.take 2) (3 + 2)) 11).2) else ((fldR (bs.drop 2) (bitAt (bs.take 2) (3 + 2)) 11).1, 0, 0, []) := by
        unfold umdRd
        rw [if_pos (by decide), if_neg (by omega), if_neg (by omega)]
        rfl
      obtain ⟨ad, rfl, _⟩ := hs (by rw [length_bts]; omega)
      have HS := Lib.hid hs
      have HRD := Lib.hid (fun W (hb1 : Below w.heap.size w W) => (show Calls Try.prog 161 #[.slice (some ad) 2 cap] W fun e w' => ∃ p g, e = .returned (.pointer (some ⟨p, 0, none⟩)) ∧ W.heap.size ≤ p ∧ W.heap.size ≤ g ∧ RRep w' p g (bs.take 2) 0 ∧ Below W.heap.size W w' from by
        have h9 := read_any (some ad) cap (bs.take 2) W (by omega) (by omega) (src_take _ (src_later hs hb1)) (fun b hx => hb b (List.mem_of_mem_take hx))
        rw [hth] at h9
        exact h9))
      have hdl : (bs.drop 2).length = n - 2 := by rw [List.length_drop, hn]
      have HFR := Lib.hid (fun W Ab cb more (hb1 : Below w.heap.size w W) (hsb : Src w Ab (bts (bs.drop 2))) (hcb : n - 2 ≤ cb) (hcm2 : cb ≤ 9223372036854775807) => fread_any (A := Ab) (bs := bs.drop 2) more 11 (n - 2) cb 11 W (.inl rfl) rfl hdl (by omega) hcb hcm2 (src_later hsb hb1) (fun b h => hb b (List.mem_of_mem_drop h)))
      have HDL := Lib.hid hdl
      generalize bs.take 2 = hd at *
      have HT := Lib.hid hth
      have HF := Lib.hid hF
      clear hs hb hn hF hdl hth
      have ROW0 := Row.made w 42 #[.int .i64 0, .int .i64 0, .slice none 0 0]
      by_cases hz : val (seg hd 0 3) = 0
      · rw [if_neg (fun h => h hz)] at HF
        have HV0 := Lib.hid (show ((val (seg hd 0 3) : Nat) : Int) = 0 by omega)
        have HMO := Lib.hid (show ((val (seg hd (0 + 3 + 2) 1) : Nat) : Int) = ((bitAt hd (3 + 2)).toNat : Int) from by rw [show 0 + 3 + 2 = 3 + 2 from rfl]; exact one_bit (by rw [HT.out]; omega))
        have hmo : (((bitAt hd (3 + 2)).toNat : Int) == 1) = bitAt hd (3 + 2) := bit_eq _
        obtain ⟨fi, hfi⟩ : ∃ x, val (seg hd (0 + 3) 2) = x := ⟨_, rfl⟩
        obtain ⟨sn, hsn⟩ : ∃ x, val (seg hd (0 + 3 + 2 + 1) 10) = x := ⟨_, rfl⟩
        rw [show val (seg hd 3 2) = fi from hfi, show val (seg hd (3 + 2 + 1) 10) = sn from hsn] at HF
        have HFI := Lib.hid hfi
        have HSN := Lib.hid hsn
        clear hfi hsn
        generalize bitAt hd (3 + 2) = more at *
        clear hz
        by_cases hkc : cap = 2
        · obtain rfl : n = 2 := by omega
          subst hkc
          have HS0 := Lib.hid (show Src w (some ad) (bts (bs.drop 2)) from fun h0 => absurd h0 (by rw [length_bts, HDL.out]; omega))
          have HFR := Lib.hid (fun W more hb1 => (show Calls Try.prog 164 #[.slice (some ad) 0 0, .bool more, .int .i64 11] W (FldAns W.heap.size W (fldR (bs.drop 2) more 11)) from HFR.out W (some ad) 0 more hb1 HS0.out (by omega) (by omega)))
          go_enter Try.func25, Try.ntmps25
          go_wp2_with (first
            | (go_at_call 160; refine (HSH.out _).mono ?_; rintro e w1 ⟨rfl, rfl⟩)
            | (go_at_call 161; refine (HRD.out _ (bl_alloc (Below.refl _ _) _)).mono ?_; rintro e w2 ⟨p, g, rfl, hp2, hg2, hr2, hb2⟩
               have hpp : w.heap.size + 1 ≤ p := by simpa using hp2
               have hbb : Below (w.heap.size + 1) (w.alloc (.cells #[.int .i64 0, .int .i64 0, .slice none 0 0] 42)) w2 := by simpa using hb2
               have hsz2 : w.heap.size + 1 ≤ w2.heap.size := by have := hbb.size; simpa using hb2.size
               have ST2 := Lib.hid (show RdSt (w.heap.size + 1) (w.alloc (.cells #[.int .i64 0, .int .i64 0, .slice none 0 0] 42)) w2.heap.size p g hd 0 (w2.alloc (.cells #[.pointer (some ⟨p, 0, none⟩)] 224)) from
                 ⟨hr2.later (bl_alloc (Below.refl _ _) _), Row.made _ _ _, hbb.trans ((bl_alloc (Below.refl w2.heap.size w2) _).mono hsz2), hpp, by simp; omega⟩)
               have CG2 := Lib.hid (ST2.out.get 3 3 rfl (by omega) (by rw [HT.out]; omega))
               clear hr2 hb2 hbb hp2 hg2)
            | ((with_reducible refine CG2.out.mono ?_); rintro e w3 ⟨rfl, hst⟩; rw [HV0.out]
               have ST3 := Lib.hid hst
               have CG3 := Lib.hid (ST3.out.get 2 2 rfl (by omega) (by rw [HT.out]; omega))
               clear hst
               skip)
            | ((with_reducible refine CG3.out.mono ?_); rintro e w4 ⟨rfl, hst⟩; rw [HFI.out]
               have ST4 := Lib.hid hst
               have CG4 := Lib.hid (ST4.out.get 1 1 rfl (by omega) (by rw [HT.out]; omega))
               clear hst)
            | ((with_reducible refine CG4.out.mono ?_); rintro e w5 ⟨rfl, hst⟩; rw [HMO.out]
               have ST5 := Lib.hid hst
               have CG5 := Lib.hid (ST5.out.get 10 10 rfl (by omega) (by rw [HT.out]; omega))
               clear hst)
            | ((with_reducible refine CG5.out.mono ?_); rintro e w6 ⟨rfl, hst⟩; rw [HSN.out]
               have ST6 := Lib.hid hst
               clear hst
               have HB6 := Lib.hid ((bl_alloc (Below.refl w.heap.size w) (.cells #[.int .i64 0, .int .i64 0, .slice none 0 0] 42)).trans (ST6.out.below.mono (by omega))))
            | (go_at_call 164; refine (HFR.out w6 more HB6.out).mono ?_; rintro e w7 ⟨h3 | h3, h4⟩
               (obtain ⟨her, v, L, hL, rfl, ho⟩ := h3; obtain ⟨Av, cv, rfl, hv1, hv2⟩ := ho.form
                have HO := Lib.hid ho
                have HER := Lib.hid her
                have HLL := Lib.hid hL
                have ST7 := Lib.hid (ST6.out.below.trans (h4.mono ST6.out.size))
                clear ho her hL h4
                have R7 := ROW0.under ST7.out (by omega)
                have RW7 := Lib.hid R7
                have HB7 := Lib.hid ((bl_alloc (Below.refl w.heap.size w) (.cells #[.int .i64 0, .int .i64 0, .slice none 0 0] 42)).trans (ST7.out.mono (by omega)))
                have c70 : w7.cell? ⟨w.heap.size, 0, none⟩ = some (.int .i64 0) := R7.read rfl
                have c71 : w7.cell? ⟨w.heap.size, 1, none⟩ = some (.int .i64 0) := R7.read rfl
                have c72 : w7.cell? ⟨w.heap.size, 2, none⟩ = some (.slice none 0 0) := R7.read rfl
                have f70 := R7.free 0
                have f71 := R7.free 1
                have f72 := R7.free 2
                clear R7)
               rotate_left 1
               (obtain ⟨her, rfl⟩ := h3
                have her2 : ((fldR (bs.drop 2) more 11).1 != 0) = true := by simpa using her
                have HER := Lib.hid her
                have ST7 := Lib.hid (ST6.out.below.trans (h4.mono ST6.out.size))
                clear her h4
                generalize (fldR (bs.drop 2) more 11).1 = er at *
                have R7 := ROW0.under ST7.out (by omega)
                have RW7 := Lib.hid R7
                have HB7 := Lib.hid ((bl_alloc (Below.refl w.heap.size w) (.cells #[.int .i64 0, .int .i64 0, .slice none 0 0] 42)).trans (ST7.out.mono (by omega)))
                have c70 : w7.cell? ⟨w.heap.size, 0, none⟩ = some (.int .i64 0) := R7.read rfl
                have c71 : w7.cell? ⟨w.heap.size, 1, none⟩ = some (.int .i64 0) := R7.read rfl
                have c72 : w7.cell? ⟨w.heap.size, 2, none⟩ = some (.slice none 0 0) := R7.read rfl
                have f70 := R7.free 0
                have f71 := R7.free 1
                have f72 := R7.free 2
                clear R7)
               rotate_left 1))
          · obtain ⟨d24, hu24⟩ := under42_parts
            have HOW := Lib.hid (show OwnR w.heap.size ((((w7.setCell ⟨w.heap.size, 0, none⟩ (.int .i64 fi)).setCell ⟨w.heap.size, 1, none⟩ (.int .i64 sn)).setCell ⟨w.heap.size, 2, none⟩ (.slice Av L.length cv))) (.slice Av L.length cv) L from
              (HO.out.only (S := fun k => k = w.heap.size) ((((Only.refl (fun k => k = w.heap.size) w7).set (p := ⟨w.heap.size, 0, none⟩) (.inl rfl) (.int .i64 fi)).set (p := ⟨w.heap.size, 1, none⟩) (.inl rfl) (.int .i64 sn)).set (p := ⟨w.heap.size, 2, none⟩) (.inl rfl) (.slice Av L.length cv)) (fun k hk => by have := (HO.out.own.lt k hk).1; have := HB6.out.size; have := ST6.out.size; omega) (fun k cs hr hk => by have := ST6.out.size; omega)).down HB6.out.size)
            refine bodyPost_ret (results_two rfl _ _ w.heap.size 42 #[.int .i64 fi, .int .i64 sn, .slice Av L.length cv] d24 rfl (((RW7.out.written 0 (.int .i64 fi)).written 1 (.int .i64 sn)).written 2 (.slice Av L.length cv)) hu24 Try.info42s) rfl ?_
            rw [HF.out, if_pos HER.out]
            exact ⟨.inl ⟨rfl, _, L, HLL.out, rfl, HOW.out⟩, (((HB7.out.setCell (p := ⟨w.heap.size, 0, none⟩) (Nat.le_refl _) (.int .i64 fi)).setCell (p := ⟨w.heap.size, 1, none⟩) (Nat.le_refl _) (.int .i64 sn)).setCell (p := ⟨w.heap.size, 2, none⟩) (Nat.le_refl _) (.slice Av L.length cv))⟩
          · obtain ⟨d24, hu24⟩ := under42_parts
            refine bodyPost_ret (results_two rfl _ _ w.heap.size 42 #[.int .i64 0, .int .i64 0, .slice none 0 0] d24 rfl (((RW7.out.written 0 (.int .i64 0)).written 1 (.int .i64 0)).written 2 (.slice none 0 0)) hu24 Try.info42s) rfl ?_
            rw [HF.out, if_neg HER.out]
            exact ⟨.inr ⟨HER.out, rfl⟩, (((HB7.out.setCell (p := ⟨w.heap.size, 0, none⟩) (Nat.le_refl _) (.int .i64 0)).setCell (p := ⟨w.heap.size, 1, none⟩) (Nat.le_refl _) (.int .i64 0)).setCell (p := ⟨w.heap.size, 2, none⟩) (Nat.le_refl _) (.slice none 0 0))⟩
        · have hkc2 : 2 < cap := by omega
          have HS0 := Lib.hid (show Src w (some (ad.add 2)) (bts (bs.drop 2)) from by
            have h9 := src_dropc (c := 0) 2 (show Src w (some ad) (bts (bs.drop 0)) from HS.out)
            rw [Nat.zero_add] at h9
            exact h9)
          have HFR := Lib.hid (fun W more hb1 => HFR.out W (some (ad.add 2)) (cap - 2) more hb1 HS0.out (by omega) (by omega))
          go_enter Try.func25, Try.ntmps25
          go_wp2_with (first
            | (go_at_call 160; refine (HSH.out _).mono ?_; rintro e w1 ⟨rfl, rfl⟩)
            | (go_at_call 161; refine (HRD.out _ (bl_alloc (Below.refl _ _) _)).mono ?_; rintro e w2 ⟨p, g, rfl, hp2, hg2, hr2, hb2⟩
               have hpp : w.heap.size + 1 ≤ p := by simpa using hp2
               have hbb : Below (w.heap.size + 1) (w.alloc (.cells #[.int .i64 0, .int .i64 0, .slice none 0 0] 42)) w2 := by simpa using hb2
               have hsz2 : w.heap.size + 1 ≤ w2.heap.size := by have := hbb.size; simpa using hb2.size
               have ST2 := Lib.hid (show RdSt (w.heap.size + 1) (w.alloc (.cells #[.int .i64 0, .int .i64 0, .slice none 0 0] 42)) w2.heap.size p g hd 0 (w2.alloc (.cells #[.pointer (some ⟨p, 0, none⟩)] 224)) from
                 ⟨hr2.later (bl_alloc (Below.refl _ _) _), Row.made _ _ _, hbb.trans ((bl_alloc (Below.refl w2.heap.size w2) _).mono hsz2), hpp, by simp; omega⟩)
               have CG2 := Lib.hid (ST2.out.get 3 3 rfl (by omega) (by rw [HT.out]; omega))
               clear hr2 hb2 hbb hp2 hg2)
            | ((with_reducible refine CG2.out.mono ?_); rintro e w3 ⟨rfl, hst⟩; rw [HV0.out]
               have ST3 := Lib.hid hst
               have CG3 := Lib.hid (ST3.out.get 2 2 rfl (by omega) (by rw [HT.out]; omega))
               clear hst
               skip)
            | ((with_reducible refine CG3.out.mono ?_); rintro e w4 ⟨rfl, hst⟩; rw [HFI.out]
               have ST4 := Lib.hid hst
               have CG4 := Lib.hid (ST4.out.get 1 1 rfl (by omega) (by rw [HT.out]; omega))
               clear hst)
            | ((with_reducible refine CG4.out.mono ?_); rintro e w5 ⟨rfl, hst⟩; rw [HMO.out]
               have ST5 := Lib.hid hst
               have CG5 := Lib.hid (ST5.out.get 10 10 rfl (by omega) (by rw [HT.out]; omega))
               clear hst)
            | ((with_reducible refine CG5.out.mono ?_); rintro e w6 ⟨rfl, hst⟩; rw [HSN.out]
               have ST6 := Lib.hid hst
               clear hst
               have HB6 := Lib.hid ((bl_alloc (Below.refl w.heap.size w) (.cells #[.int .i64 0, .int .i64 0, .slice none 0 0] 42)).trans (ST6.out.below.mono (by omega))))
            | (go_at_call 164; refine (HFR.out w6 more HB6.out).mono ?_; rintro e w7 ⟨h3 | h3, h4⟩
               (obtain ⟨her, v, L, hL, rfl, ho⟩ := h3; obtain ⟨Av, cv, rfl, hv1, hv2⟩ := ho.form
                have HO := Lib.hid ho
                have HER := Lib.hid her
                have HLL := Lib.hid hL
                have ST7 := Lib.hid (ST6.out.below.trans (h4.mono ST6.out.size))
                clear ho her hL h4
                have R7 := ROW0.under ST7.out (by omega)
                have RW7 := Lib.hid R7
                have HB7 := Lib.hid ((bl_alloc (Below.refl w.heap.size w) (.cells #[.int .i64 0, .int .i64 0, .slice none 0 0] 42)).trans (ST7.out.mono (by omega)))
                have c70 : w7.cell? ⟨w.heap.size, 0, none⟩ = some (.int .i64 0) := R7.read rfl
                have c71 : w7.cell? ⟨w.heap.size, 1, none⟩ = some (.int .i64 0) := R7.read rfl
                have c72 : w7.cell? ⟨w.heap.size, 2, none⟩ = some (.slice none 0 0) := R7.read rfl
                have f70 := R7.free 0
                have f71 := R7.free 1
                have f72 := R7.free 2
                clear R7)
               rotate_left 1
               (obtain ⟨her, rfl⟩ := h3
                have her2 : ((fldR (bs.drop 2) more 11).1 != 0) = true := by simpa using her
                have HER := Lib.hid her
                have ST7 := Lib.hid (ST6.out.below.trans (h4.mono ST6.out.size))
                clear her h4
                generalize (fldR (bs.drop 2) more 11).1 = er at *
                have R7 := ROW0.under ST7.out (by omega)
                have RW7 := Lib.hid R7
                have HB7 := Lib.hid ((bl_alloc (Below.refl w.heap.size w) (.cells #[.int .i64 0, .int .i64 0, .slice none 0 0] 42)).trans (ST7.out.mono (by omega)))
                have c70 : w7.cell? ⟨w.heap.size, 0, none⟩ = some (.int .i64 0) := R7.read rfl
                have c71 : w7.cell? ⟨w.heap.size, 1, none⟩ = some (.int .i64 0) := R7.read rfl
                have c72 : w7.cell? ⟨w.heap.size, 2, none⟩ = some (.slice none 0 0) := R7.read rfl
                have f70 := R7.free 0
                have f71 := R7.free 1
                have f72 := R7.free 2
                clear R7)
               rotate_left 1))
          · obtain ⟨d24, hu24⟩ := under42_parts
            have HOW := Lib.hid (show OwnR w.heap.size ((((w7.setCell ⟨w.heap.size, 0, none⟩ (.int .i64 fi)).setCell ⟨w.heap.size, 1, none⟩ (.int .i64 sn)).setCell ⟨w.heap.size, 2, none⟩ (.slice Av L.length cv))) (.slice Av L.length cv) L from
              (HO.out.only (S := fun k => k = w.heap.size) ((((Only.refl (fun k => k = w.heap.size) w7).set (p := ⟨w.heap.size, 0, none⟩) (.inl rfl) (.int .i64 fi)).set (p := ⟨w.heap.size, 1, none⟩) (.inl rfl) (.int .i64 sn)).set (p := ⟨w.heap.size, 2, none⟩) (.inl rfl) (.slice Av L.length cv)) (fun k hk => by have := (HO.out.own.lt k hk).1; have := HB6.out.size; have := ST6.out.size; omega) (fun k cs hr hk => by have := ST6.out.size; omega)).down HB6.out.size)
            refine bodyPost_ret (results_two rfl _ _ w.heap.size 42 #[.int .i64 fi, .int .i64 sn, .slice Av L.length cv] d24 rfl (((RW7.out.written 0 (.int .i64 fi)).written 1 (.int .i64 sn)).written 2 (.slice Av L.length cv)) hu24 Try.info42s) rfl ?_
            rw [HF.out, if_pos HER.out]
            exact ⟨.inl ⟨rfl, _, L, HLL.out, rfl, HOW.out⟩, (((HB7.out.setCell (p := ⟨w.heap.size, 0, none⟩) (Nat.le_refl _) (.int .i64 fi)).setCell (p := ⟨w.heap.size, 1, none⟩) (Nat.le_refl _) (.int .i64 sn)).setCell (p := ⟨w.heap.size, 2, none⟩) (Nat.le_refl _) (.slice Av L.length cv))⟩
          · obtain ⟨d24, hu24⟩ := under42_parts
            refine bodyPost_ret (results_two rfl _ _ w.heap.size 42 #[.int .i64 0, .int .i64 0, .slice none 0 0] d24 rfl (((RW7.out.written 0 (.int .i64 0)).written 1 (.int .i64 0)).written 2 (.slice none 0 0)) hu24 Try.info42s) rfl ?_
            rw [HF.out, if_neg HER.out]
            exact ⟨.inr ⟨HER.out, rfl⟩, (((HB7.out.setCell (p := ⟨w.heap.size, 0, none⟩) (Nat.le_refl _) (.int .i64 0)).setCell (p := ⟨w.heap.size, 1, none⟩) (Nat.le_refl _) (.int .i64 0)).setCell (p := ⟨w.heap.size, 2, none⟩) (Nat.le_refl _) (.slice none 0 0))⟩
      · rw [if_pos hz] at HF
        have HR3 := Lib.hid (show (umdRd bs 10).1 = 3 by rw [HF.out])
        have hz1 : (((val (seg hd 0 3) : Nat) : Int) != 0) = true := by simp; omega
        obtain ⟨v0, hv0⟩ : ∃ x, ((val (seg hd 0 3) : Nat) : Int) = x := ⟨_, rfl⟩
        rw [hv0] at hz1
        have HV0 := Lib.hid hv0
        clear hz HFR hv0
        go_enter Try.func25, Try.ntmps25
        go_wp2_with (first
          | (go_at_call 160; refine (HSH.out _).mono ?_; rintro e w1 ⟨rfl, rfl⟩)
          | (go_at_call 161; refine (HRD.out _ (bl_alloc (Below.refl _ _) _)).mono ?_; rintro e w2 ⟨p, g, rfl, hp2, hg2, hr2, hb2⟩
             have hpp : w.heap.size + 1 ≤ p := by simpa using hp2
             have hbb : Below (w.heap.size + 1) (w.alloc (.cells #[.int .i64 0, .int .i64 0, .slice none 0 0] 42)) w2 := by simpa using hb2
             have hsz2 : w.heap.size + 1 ≤ w2.heap.size := by have := hbb.size; simpa using hb2.size
             have ST2 := Lib.hid (show RdSt (w.heap.size + 1) (w.alloc (.cells #[.int .i64 0, .int .i64 0, .slice none 0 0] 42)) w2.heap.size p g hd 0 (w2.alloc (.cells #[.pointer (some ⟨p, 0, none⟩)] 224)) from
               ⟨hr2.later (bl_alloc (Below.refl _ _) _), Row.made _ _ _, hbb.trans ((bl_alloc (Below.refl w2.heap.size w2) _).mono hsz2), hpp, by simp; omega⟩)
             have CG2 := Lib.hid (ST2.out.get 3 3 rfl (by omega) (by rw [HT.out]; omega))
             clear hr2 hb2 hbb hp2 hg2)
          | ((with_reducible refine CG2.out.mono ?_); rintro e w3 ⟨rfl, hst⟩; rw [HV0.out]
             have ST3 := Lib.hid hst
             have CG3 := Lib.hid (ST3.out.get 2 2 rfl (by omega) (by rw [HT.out]; omega))
             clear hst
             have R3 := ROW0.under ST3.out.below (by omega)
             have RW3 := Lib.hid R3
             have HB3 := Lib.hid ((bl_alloc (Below.refl w.heap.size w) (.cells #[.int .i64 0, .int .i64 0, .slice none 0 0] 42)).trans (ST3.out.below.mono (by omega)))
             have c30 : w3.cell? ⟨w.heap.size, 0, none⟩ = some (.int .i64 0) := R3.read rfl
             have c31 : w3.cell? ⟨w.heap.size, 1, none⟩ = some (.int .i64 0) := R3.read rfl
             have c32 : w3.cell? ⟨w.heap.size, 2, none⟩ = some (.slice none 0 0) := R3.read rfl
             have f30 := R3.free 0
             have f31 := R3.free 1
             have f32 := R3.free 2
             clear R3))
        obtain ⟨d24, hu24⟩ := under42_parts
        refine bodyPost_ret (results_two rfl _ _ w.heap.size 42 #[.int .i64 0, .int .i64 0, .slice none 0 0] d24 rfl (((RW3.out.written 0 (.int .i64 0)).written 1 (.int .i64 0)).written 2 (.slice none 0 0)) hu24 Try.info42s) rfl ?_
        exact urd_bad HR3.out (by decide) (((HB3.out.setCell (p := ⟨w.heap.size, 0, none⟩) (Nat.le_refl _) (.int .i64 0)).setCell (p := ⟨w.heap.size, 1, none⟩) (Nat.le_refl _) (.int .i64 0)).setCell (p := ⟨w.heap.size, 2, none⟩) (Nat.le_refl _) (.slice none 0 0))
end Go.Proofs.Ytgdpjaojlhdhdaa
