/-
  The packet that bytes are, of 5 bits: the document's answer.
-/
import Derived.Test.YtdklddpkklodnaaRefRead
namespace Go.Proofs.Ytdklddpkklodnaa
open Go.RowKit


set_option maxRecDepth 100000 in
set_option maxHeartbeats 6400000 in
theorem rread_5 {A : Option Addr} {bs : List Nat} (n cap : Nat) (w : World) (hn : bs.length = n) (hm : n ≤ 8000) (hc : n ≤ cap) (hcm : cap ≤ 9223372036854775807) (hs : Src w A (bts bs)) (hb : ∀ b ∈ bs, b < 256) :
    Calls Try.prog 22 #[.slice A n cap, .int .i64 5] w (UrrAns w (umdRd bs 5)) := by
  rcases Nat.lt_or_ge 4000 n with h1 | h1
  · have HF := Lib.hid (show (umdRd bs 5).1 = 2 by unfold umdRd; rw [if_pos (by decide), if_pos (by omega)])
    have h1' : (4000 : Int) < n := by omega
    clear hs hb hn
    go_enter Try.func22, Try.ntmps22
    go_wp2
    exact bodyPost_ret (v := .tuple #[.agg #[.int .i64 0, .int .i64 0, .slice none 0 0], .int .i64 2]) (by simp [results, Try.results22, go_sem]) rfl (urr_bad HF.out (by decide) (by first | exact bl_alloc (Below.refl _ _) _ | exact (bl_alloc (Below.refl _ _) _).setCell (by simp) _))
  · have h1' : ¬ (4000 : Int) < n := by omega
    rcases Nat.lt_or_ge n 1 with h2 | h2
    · have HF := Lib.hid (show (umdRd bs 5).1 = 8 by unfold umdRd; rw [if_pos (by decide), if_neg (by omega), if_pos (by omega)])
      have h2' : (n : Int) < 1 := by omega
      clear hs hb hn
      go_enter Try.func22, Try.ntmps22
      go_wp2
      exact bodyPost_ret (v := .tuple #[.agg #[.int .i64 0, .int .i64 0, .slice none 0 0], .int .i64 8]) (by simp [results, Try.results22, go_sem]) rfl (urr_bad HF.out (by decide) (by first | exact bl_alloc (Below.refl _ _) _ | exact (bl_alloc (Below.refl _ _) _).setCell (by simp) _))
    · have h2' : ¬ (n : Int) < 1 := by omega
      have hth : (bs.take 1).length = 1 := by rw [List.length_take]; omega
      have hF : umdRd bs 5 = if val (seg (bs.take 1) 0 0) ≠ 0 then (3, 0, 0, []) else if (fldR (bs.drop 1) (bitAt (bs.take 1) (0 + 2)) 11).1 = 0 then (0, val (seg (bs.take 1) 0 2), val (seg (bs.take 1) (0 + 2 + 1) 5), (fldR (bs.drop 1) (bitAt (bs.take 1) (0 + 2)) 11).2) else ((fldR (bs.drop 1) (bitAt (bs.take 1) (0 + 2)) 11).1, 0, 0, []) := by
        unfold umdRd
        rw [if_pos (by decide), if_neg (by omega), if_neg (by omega)]
        rfl
      obtain ⟨ad, rfl, _⟩ := hs (by rw [length_bts]; omega)
      have HRD := Lib.hid (fun W (hb1 : Below w.heap.size w W) => (show Calls Try.prog 57 #[.slice (some ad) 1 cap] W fun e w' => ∃ A7 c7, e = .returned (.slice A7 (8 * 1) c7) ∧ SrcB w' A7 (bls (bitsOf (bs.take 1))) ∧ Below W.heap.size W w' from by
        have h9 := refbits_any (bs := bs.take 1) cap (src_b (src_take _ (src_later hs hb1))) (by omega) (fun b hx => hb b (List.mem_of_mem_take hx))
        rw [hth] at h9
        refine h9.mono ?_
        rintro e w' ⟨x, rfl, ho, hbl⟩
        obtain ⟨A7, c7, hx⟩ := ho.form
        rw [length_bitsOf, hth] at hx
        subst hx
        exact ⟨A7, c7, rfl, ho.src, hbl⟩))
      have hdl : (bs.drop 1).length = n - 1 := by rw [List.length_drop, hn]
      have HFR := Lib.hid (fun W Ab cb more (hb1 : Below w.heap.size w W) (hsb : Src w Ab (bts (bs.drop 1))) (hcb : n - 1 ≤ cb) (hcm2 : cb ≤ 9223372036854775807) => refcut_any (A := Ab) (bs := bs.drop 1) more (n - 1) cb W hdl (by omega) hcb hcm2 (src_later hsb hb1) (fun b h => hb b (List.mem_of_mem_drop h)))
      have HDL := Lib.hid hdl
      have HS := Lib.hid hs
      generalize bs.take 1 = hd at *
      have HT := Lib.hid hth
      have HF := Lib.hid hF
      clear hs hb hn hF hdl hth
      have ROW0 := Lib.hid (Row.made w 28 #[.int .i64 0, .int .i64 0, .slice none 0 0])
      by_cases hz : val (seg hd 0 0) = 0
      · rw [if_neg (fun h => h hz)] at HF
        obtain ⟨fi, hfi⟩ : ∃ x, val (seg hd 0 2) = x := ⟨_, rfl⟩
        obtain ⟨sn, hsn⟩ : ∃ x, val (seg hd (0 + 2 + 1) 5) = x := ⟨_, rfl⟩
        have hv1 := val_lt (seg hd 0 2)
        have hv2 := val_lt (seg hd (0 + 2 + 1) 5)
        rw [length_seg (by rw [HT.out]; omega)] at hv1 hv2
        rw [hfi, hsn] at HF
        rw [hfi] at hv1
        rw [hsn] at hv2
        have hv1 : fi < 4 := hv1
        have hv2 : sn < 1024 := Nat.lt_of_lt_of_le hv2 (by decide)
        have hw1 : IntKind.i64.wrap (fi : Int) = (fi : Int) := by rw [IntKind.wrap_i64]; omega
        have hw2 : IntKind.i64.wrap (sn : Int) = (sn : Int) := by rw [IntKind.wrap_i64]; omega
        have HFI := Lib.hid hfi
        have HSN := Lib.hid hsn
        obtain ⟨more, hmo⟩ : ∃ x, bitAt hd (0 + 2) = x := ⟨_, rfl⟩
        rw [hmo] at HF
        have HMO := Lib.hid hmo
        have HZ := Lib.hid hz
        clear hz hfi hsn hmo
        by_cases hkc : cap = 1
        · obtain rfl : n = 1 := by omega
          subst hkc
          have HS0 := Lib.hid (show Src w (some ad) (bts (bs.drop 1)) from fun h0 => absurd h0 (by rw [length_bts, HDL.out]; omega))
          have HCU := Lib.hid (fun W hb1 => (show Calls Try.prog 59 #[.slice (some ad) 0 0, .bool more, .int .i64 11] W (RcAns (some ad) (bs.drop 1) W (fldR (bs.drop 1) more 11)) from HFR.out W (some ad) 0 more hb1 HS0.out (by omega) (by omega)))
          go_enter Try.func22, Try.ntmps22
          go_wp2_with (go_at_call 57; refine (HRD.out _ (bl_alloc (Below.refl _ _) _)).mono ?_; rintro e w2 ⟨A7, c7, rfl, hs7, hb2⟩; (have HS7 := Lib.hid hs7; have HR2 := Lib.hid (ROW0.out.later hb2); have HB2 := Lib.hid (bl_step (bl_alloc (Below.refl w.heap.size w) _) hb2); clear hs7 hb2))
          obtain ⟨b7, o7, rfl, hx2⟩ := HS7.out.bit (0 + 2) (by rw [HT.out]; omega)
          rw [HMO.out] at hx2
          have hx2 : w2.cell? ⟨b7, o7 + 2, none⟩ = some (.bool more) := hx2
          skip
          have HG1 := Lib.hid (fun (_ : Unit) => (show Calls Try.prog 58 #[.slice (some ⟨b7, o7, none⟩) 8 c7, .int .i64 0, .int .i64 2] w2 fun e w' => e = .returned (.tuple #[.int .u64 fi, .int .i64 2, .int .i64 0]) ∧ w2 = w' from by
            have h9 := refget_ok (bs := hd) (some ⟨b7, o7, none⟩) (8 * 1) c7 0 2 w2 HS7.out (by rw [HT.out]) (by rw [HT.out]; omega) (by omega) (by omega)
            rw [HFI.out] at h9
            exact h9))
          have HG2 := Lib.hid (fun (_ : Unit) => (show Calls Try.prog 58 #[.slice (some ⟨b7, o7, none⟩) 8 c7, .int .i64 3, .int .i64 5] w2 fun e w' => e = .returned (.tuple #[.int .u64 sn, .int .i64 8, .int .i64 0]) ∧ w2 = w' from by
            have h9 := refget_ok (bs := hd) (some ⟨b7, o7, none⟩) (8 * 1) c7 (0 + 2 + 1) 5 w2 HS7.out (by rw [HT.out]) (by rw [HT.out]; omega) (by omega) (by omega)
            rw [HSN.out] at h9
            exact h9))
          go_loopw [7, 8] (fun av iv wr => av = .int .i64 0 ∧ iv = .int .i64 0 ∧ w2 = wr) (fun _ _ _ => 0)
          case atStart => exact ⟨rfl, rfl, rfl⟩
          case round =>
            obtain ⟨rfl, rfl, rfl⟩ := hrel
            go_wp2_with (first
              | (go_at_call 58; (with_reducible refine (HG1.out ()).mono ?_); rintro e w3 ⟨rfl, rfl⟩)
              | (go_at_call 58; (with_reducible refine (HG2.out ()).mono ?_); rintro e w4 ⟨rfl, rfl⟩)
              | (go_at_call 59; refine (HCU.out _ HB2.out).mono ?_; rintro e w5 ⟨h3 | h3, h4⟩
                 (obtain ⟨her, A5, c5, L, hL, rfl, ho, hl5, hc5⟩ := h3
                  have HO := Lib.hid ho
                  have HER := Lib.hid her
                  have HLL := Lib.hid hL
                  have HL5 := Lib.hid (And.intro hl5 hc5)
                  have R5 := HR2.out.later h4
                  have RW5 := Lib.hid R5
                  have HB5 := Lib.hid (HB2.out.trans (h4.mono HB2.out.size))
                  have c50 : w5.cell? ⟨w.heap.size, 0, none⟩ = some (.int .i64 0) := R5.read rfl
                  have c51 : w5.cell? ⟨w.heap.size, 1, none⟩ = some (.int .i64 0) := R5.read rfl
                  have c52 : w5.cell? ⟨w.heap.size, 2, none⟩ = some (.slice none 0 0) := R5.read rfl
                  have f50 := R5.free 0
                  have f51 := R5.free 1
                  have f52 := R5.free 2
                  clear R5
                  clear ho her hL h4 hl5 hc5)
                 rotate_left 1
                 (obtain ⟨her, rfl⟩ := h3
                  have her2 : ((fldR (bs.drop 1) more 11).1 != 0) = true := by simpa using her
                  have HER := Lib.hid her
                  have R5 := HR2.out.later h4
                  have RW5 := Lib.hid R5
                  have HB5 := Lib.hid (HB2.out.trans (h4.mono HB2.out.size))
                  have c50 : w5.cell? ⟨w.heap.size, 0, none⟩ = some (.int .i64 0) := R5.read rfl
                  have c51 : w5.cell? ⟨w.heap.size, 1, none⟩ = some (.int .i64 0) := R5.read rfl
                  have c52 : w5.cell? ⟨w.heap.size, 2, none⟩ = some (.slice none 0 0) := R5.read rfl
                  have f50 := R5.free 0
                  have f51 := R5.free 1
                  have f52 := R5.free 2
                  clear R5
                  clear her h4
                  generalize (fldR (bs.drop 1) more 11).1 = er at *)
                 rotate_left 1))
            · obtain ⟨d28, hu28⟩ := under28_parts
              refine bodyPost_ret (results_two rfl _ _ w.heap.size 28 #[.int .i64 fi, .int .i64 sn, .slice A5 L.length c5] d28 rfl (((RW5.out.written 0 (.int .i64 fi)).written 1 (.int .i64 sn)).written 2 (.slice A5 L.length c5)) hu28 Try.info28s) rfl ?_
              rw [HF.out, if_pos HER.out]
              refine ⟨.inl ⟨rfl, A5, c5, L, HLL.out, rfl, ?_, HL5.out.1, HL5.out.2⟩, ((HB5.out.setCell (p := ⟨w.heap.size, 0, none⟩) (Nat.le_refl _) (.int .i64 fi)).setCell (p := ⟨w.heap.size, 1, none⟩) (Nat.le_refl _) (.int .i64 sn)).setCell (p := ⟨w.heap.size, 2, none⟩) (Nat.le_refl _) (.slice A5 L.length c5)⟩
              exact HO.out _ _ ((((Only.refl (fun k => k = w.heap.size) w5).set (p := ⟨w.heap.size, 0, none⟩) (.inl rfl) (.int .i64 fi)).set (p := ⟨w.heap.size, 1, none⟩) (.inl rfl) (.int .i64 sn)).set (p := ⟨w.heap.size, 2, none⟩) (.inl rfl) (.slice A5 L.length c5)) (fun k hk => by rw [hk]; exact HR2.out.inside) (src_later HS0.out (((HB5.out.setCell (p := ⟨w.heap.size, 0, none⟩) (Nat.le_refl _) (.int .i64 fi)).setCell (p := ⟨w.heap.size, 1, none⟩) (Nat.le_refl _) (.int .i64 sn)).setCell (p := ⟨w.heap.size, 2, none⟩) (Nat.le_refl _) (.slice A5 L.length c5)))
            · obtain ⟨d28, hu28⟩ := under28_parts
              refine bodyPost_ret (results_two rfl _ _ w.heap.size 28 #[.int .i64 0, .int .i64 0, .slice none 0 0] d28 rfl (((RW5.out.written 0 (.int .i64 0)).written 1 (.int .i64 0)).written 2 (.slice none 0 0)) hu28 Try.info28s) rfl ?_
              exact urr_bad (by rw [HF.out, if_neg HER.out]) HER.out (((HB5.out.setCell (p := ⟨w.heap.size, 0, none⟩) (Nat.le_refl _) (.int .i64 0)).setCell (p := ⟨w.heap.size, 1, none⟩) (Nat.le_refl _) (.int .i64 0)).setCell (p := ⟨w.heap.size, 2, none⟩) (Nat.le_refl _) (.slice none 0 0))

        · have hkc2 : 1 < cap := by omega
          have HS0 := Lib.hid (show Src w (some (ad.add 1)) (bts (bs.drop 1)) from by
            have h9 := src_dropc (c := 0) 1 (show Src w (some ad) (bts (bs.drop 0)) from HS.out)
            rw [Nat.zero_add] at h9
            exact h9)
          have HCU := Lib.hid (fun W hb1 => HFR.out W (some (ad.add 1)) (cap - 1) more hb1 HS0.out (by omega) (by omega))
          go_enter Try.func22, Try.ntmps22
          go_wp2_with (go_at_call 57; refine (HRD.out _ (bl_alloc (Below.refl _ _) _)).mono ?_; rintro e w2 ⟨A7, c7, rfl, hs7, hb2⟩; (have HS7 := Lib.hid hs7; have HR2 := Lib.hid (ROW0.out.later hb2); have HB2 := Lib.hid (bl_step (bl_alloc (Below.refl w.heap.size w) _) hb2); clear hs7 hb2))
          obtain ⟨b7, o7, rfl, hx2⟩ := HS7.out.bit (0 + 2) (by rw [HT.out]; omega)
          rw [HMO.out] at hx2
          have hx2 : w2.cell? ⟨b7, o7 + 2, none⟩ = some (.bool more) := hx2
          skip
          have HG1 := Lib.hid (fun (_ : Unit) => (show Calls Try.prog 58 #[.slice (some ⟨b7, o7, none⟩) 8 c7, .int .i64 0, .int .i64 2] w2 fun e w' => e = .returned (.tuple #[.int .u64 fi, .int .i64 2, .int .i64 0]) ∧ w2 = w' from by
            have h9 := refget_ok (bs := hd) (some ⟨b7, o7, none⟩) (8 * 1) c7 0 2 w2 HS7.out (by rw [HT.out]) (by rw [HT.out]; omega) (by omega) (by omega)
            rw [HFI.out] at h9
            exact h9))
          have HG2 := Lib.hid (fun (_ : Unit) => (show Calls Try.prog 58 #[.slice (some ⟨b7, o7, none⟩) 8 c7, .int .i64 3, .int .i64 5] w2 fun e w' => e = .returned (.tuple #[.int .u64 sn, .int .i64 8, .int .i64 0]) ∧ w2 = w' from by
            have h9 := refget_ok (bs := hd) (some ⟨b7, o7, none⟩) (8 * 1) c7 (0 + 2 + 1) 5 w2 HS7.out (by rw [HT.out]) (by rw [HT.out]; omega) (by omega) (by omega)
            rw [HSN.out] at h9
            exact h9))
          go_loopw [7, 8] (fun av iv wr => av = .int .i64 0 ∧ iv = .int .i64 0 ∧ w2 = wr) (fun _ _ _ => 0)
          case atStart => exact ⟨rfl, rfl, rfl⟩
          case round =>
            obtain ⟨rfl, rfl, rfl⟩ := hrel
            go_wp2_with (first
              | (go_at_call 58; (with_reducible refine (HG1.out ()).mono ?_); rintro e w3 ⟨rfl, rfl⟩)
              | (go_at_call 58; (with_reducible refine (HG2.out ()).mono ?_); rintro e w4 ⟨rfl, rfl⟩)
              | (go_at_call 59; refine (HCU.out _ HB2.out).mono ?_; rintro e w5 ⟨h3 | h3, h4⟩
                 (obtain ⟨her, A5, c5, L, hL, rfl, ho, hl5, hc5⟩ := h3
                  have HO := Lib.hid ho
                  have HER := Lib.hid her
                  have HLL := Lib.hid hL
                  have HL5 := Lib.hid (And.intro hl5 hc5)
                  have R5 := HR2.out.later h4
                  have RW5 := Lib.hid R5
                  have HB5 := Lib.hid (HB2.out.trans (h4.mono HB2.out.size))
                  have c50 : w5.cell? ⟨w.heap.size, 0, none⟩ = some (.int .i64 0) := R5.read rfl
                  have c51 : w5.cell? ⟨w.heap.size, 1, none⟩ = some (.int .i64 0) := R5.read rfl
                  have c52 : w5.cell? ⟨w.heap.size, 2, none⟩ = some (.slice none 0 0) := R5.read rfl
                  have f50 := R5.free 0
                  have f51 := R5.free 1
                  have f52 := R5.free 2
                  clear R5
                  clear ho her hL h4 hl5 hc5)
                 rotate_left 1
                 (obtain ⟨her, rfl⟩ := h3
                  have her2 : ((fldR (bs.drop 1) more 11).1 != 0) = true := by simpa using her
                  have HER := Lib.hid her
                  have R5 := HR2.out.later h4
                  have RW5 := Lib.hid R5
                  have HB5 := Lib.hid (HB2.out.trans (h4.mono HB2.out.size))
                  have c50 : w5.cell? ⟨w.heap.size, 0, none⟩ = some (.int .i64 0) := R5.read rfl
                  have c51 : w5.cell? ⟨w.heap.size, 1, none⟩ = some (.int .i64 0) := R5.read rfl
                  have c52 : w5.cell? ⟨w.heap.size, 2, none⟩ = some (.slice none 0 0) := R5.read rfl
                  have f50 := R5.free 0
                  have f51 := R5.free 1
                  have f52 := R5.free 2
                  clear R5
                  clear her h4
                  generalize (fldR (bs.drop 1) more 11).1 = er at *)
                 rotate_left 1))
            · obtain ⟨d28, hu28⟩ := under28_parts
              refine bodyPost_ret (results_two rfl _ _ w.heap.size 28 #[.int .i64 fi, .int .i64 sn, .slice A5 L.length c5] d28 rfl (((RW5.out.written 0 (.int .i64 fi)).written 1 (.int .i64 sn)).written 2 (.slice A5 L.length c5)) hu28 Try.info28s) rfl ?_
              rw [HF.out, if_pos HER.out]
              refine ⟨.inl ⟨rfl, A5, c5, L, HLL.out, rfl, ?_, HL5.out.1, HL5.out.2⟩, ((HB5.out.setCell (p := ⟨w.heap.size, 0, none⟩) (Nat.le_refl _) (.int .i64 fi)).setCell (p := ⟨w.heap.size, 1, none⟩) (Nat.le_refl _) (.int .i64 sn)).setCell (p := ⟨w.heap.size, 2, none⟩) (Nat.le_refl _) (.slice A5 L.length c5)⟩
              exact HO.out _ _ ((((Only.refl (fun k => k = w.heap.size) w5).set (p := ⟨w.heap.size, 0, none⟩) (.inl rfl) (.int .i64 fi)).set (p := ⟨w.heap.size, 1, none⟩) (.inl rfl) (.int .i64 sn)).set (p := ⟨w.heap.size, 2, none⟩) (.inl rfl) (.slice A5 L.length c5)) (fun k hk => by rw [hk]; exact HR2.out.inside) (src_later HS0.out (((HB5.out.setCell (p := ⟨w.heap.size, 0, none⟩) (Nat.le_refl _) (.int .i64 fi)).setCell (p := ⟨w.heap.size, 1, none⟩) (Nat.le_refl _) (.int .i64 sn)).setCell (p := ⟨w.heap.size, 2, none⟩) (Nat.le_refl _) (.slice A5 L.length c5)))
            · obtain ⟨d28, hu28⟩ := under28_parts
              refine bodyPost_ret (results_two rfl _ _ w.heap.size 28 #[.int .i64 0, .int .i64 0, .slice none 0 0] d28 rfl (((RW5.out.written 0 (.int .i64 0)).written 1 (.int .i64 0)).written 2 (.slice none 0 0)) hu28 Try.info28s) rfl ?_
              exact urr_bad (by rw [HF.out, if_neg HER.out]) HER.out (((HB5.out.setCell (p := ⟨w.heap.size, 0, none⟩) (Nat.le_refl _) (.int .i64 0)).setCell (p := ⟨w.heap.size, 1, none⟩) (Nat.le_refl _) (.int .i64 0)).setCell (p := ⟨w.heap.size, 2, none⟩) (Nat.le_refl _) (.slice none 0 0))

      · exact absurd (by rw [seg_zero]; rfl) hz
end Go.Proofs.Ytdklddpkklodnaa
