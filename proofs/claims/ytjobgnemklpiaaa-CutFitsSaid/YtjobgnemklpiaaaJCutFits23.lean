/-
  CutFits walked: width 11, more texts.
-/
import Derived.Test.YtjobgnemklpiaaaJCutFits21
namespace Go.Proofs.Ytjobgnemklpiaaa
open Go.RowKit

set_option maxRecDepth 100000 in
set_option maxHeartbeats 25600000 in
theorem cutfits_11gt {A0 A1 : Option Addr} {L0 : List RowB} {l1 : List Nat} (N0 N1 c0 c1 : Nat) (W : World) (hN0 : L0.length = N0) (hN1 : l1.length = N1) (hn0 : N0 ≤ 9223372036854775807) (hn1 : N1 ≤ 9223372036854775807)
    (hs0 : RSrc W A0 L0) (hs1 : Src W A1 (u16v l1)) (hb1 : ∀ b ∈ l1, b < 65536) (hq : 40 < N0) :
    Calls Try.prog 7 #[.slice A0 N0 c0, .slice A1 N1 c1, .int .i64 11] W fun e w' => e = .returned (.bool true) ∧ Below W.heap.size W w' := by
  have HAL := Lib.hid (fun V => calive_any V)
  have HL0 := Lib.hid hN0
  have HL1 := Lib.hid hN1
  have HS0 := Lib.hid hs0
  have HS1 := Lib.hid hs1
  have HB1 := Lib.hid hb1
  clear hN0 hN1 hs0 hs1 hb1
  go_enter Try.func7, Try.ntmps7
  go_wp2_with fail
  refine (qnew_any W.heap.size 20000 W (Nat.le_refl _) (by omega) (by omega)).mono ?_
  rintro e w1 ⟨rfl, hq1, hb1⟩
  generalize hp : W.heap.size = p at *
  have HP := Lib.hid hp.symm
  have HC0 := Lib.hid (show CF W p 0 [] (.slice none 0 0) (waitB []) (.slice none 0 0) [] w1 from ⟨QS.start hq1 (by omega), World.ownsRow_nil _ _ _ _, World.ownsRow_nil _ _ _ _, (fun t h => by cases h), (fun t h => by cases h), (fun k hk => by simp [Value.ownBlock] at hk), hb1, hp.symm⟩)
  clear hq1 hb1 hp
  go_wp2_with fail
  go_loopw [9, 11] (fun av iv wr => ∃ (k last : Nat) (ts : List Txt), k ≤ 40 ∧ last ≤ k ∧ iv = .int .i64 k ∧ Hid (CF W p last ts av (waitB ts) (.slice none 0 0) [] wr)) (fun _ iv _ => 40 - (intOf iv).toNat)
  case atStart => exact ⟨0, 0, [], by omega, by omega, rfl, HC0⟩
  case round =>
    obtain ⟨k, last, ts, hk, hlk, rfl, HC⟩ := hrel
    obtain ⟨A, c, rfl, _⟩ := HC.out.allY.form
    rcases Nat.lt_or_ge k 40 with hlt | hend
    · obtain ⟨r, hr⟩ : ∃ r, L0[k]? = some r := ⟨_, List.getElem?_eq_getElem (by rw [HL0.out]; omega)⟩
      obtain ⟨a0, rfl, hc⟩ := HS0.out (by rw [HL0.out]; omega)
      have HROK := Lib.hid (hc k r hr).2
      have HC9 := Lib.hid (hc k r hr).1
      have y1 := cell_below (HC.out.below.mono (Nat.le_of_eq HP.out.symm)) (hc k r hr).1
      have hlen := (hc k r hr).2.2.1
      have hcap := (hc k r hr).2.2.2.1
      unfold RowB.v at y1
      have hi0 : (0 : Int) ≤ (k : Int) := by omega
      have hi1 : (k : Int) < (N0 : Int) := by omega
      have hi2 : (k : Int) < 40 := by omega
      clear hc hr
      by_cases hl : 1100 < r.bs.length
      · have g1 : decide ((1100 : Int) < (r.bs.length : Int)) = true := decide_eq_true (by omega)
        generalize (waitB ts).length = na at *
        go_wp2_with (go_at_call 53; (with_reducible refine (HAL.out _).mono ?_); rintro e w4 ⟨rfl, hbl4⟩; (have HB4 := Lib.hid hbl4; clear hbl4))
        go_ret
        rw [← HP.out]
        exact ⟨rfl, HC.out.below.trans (HB4.out.mono HC.out.q.q.2.1)⟩
      · have g1 : decide ((1100 : Int) < (r.bs.length : Int)) = false := decide_eq_false (by omega)
        have HPU := Lib.hid (HC.out.push r HROK.out (by omega))
        generalize hna : (waitB ts).length = na at HPU HC ⊢
        go_wp2_with fail
        refine HPU.out.mono ?_
        rintro e w3 (⟨er, rfl, her, hP⟩ | ⟨nid, rfl, hb3, A', n', c', ekv, A9, c9, w9, t9, hrun, hP9⟩)
        · have HP3 := Lib.hid hP
          have g2 : (er == 0) = false := by simpa using her
          clear hP her hna
          go_wp2
          go_roundw
          case rel => exact ⟨k + 1, last, ts, by omega, by omega, by go_num, HP3⟩
          case measure => simp [intOf]; omega
        · injection ekv with e1 e2 e3
          subst e1 e2 e3
          have HP9 := Lib.hid hP9
          have y3 := cell_below (hb3.mono (Nat.le_of_eq HP.out.symm)) HC9.out
          unfold RowB.v at y3
          clear hP9 hb3 hna
          go_wp2_with (at_builtin; refine wpList_run rfl (.tmp 80) (.tmp 84) 61 rfl (.slice A na c) (.slice r.A r.bs.length r.cap) (by rfl) (by rfl) hrun ?_)
          go_roundw
          case rel => exact ⟨k + 1, last + 1, ts ++ [t9], by omega, by omega, by go_num, HP9⟩
          case measure => simp [intOf]; omega
    · have HC2 := Lib.hid (show CF2 W p (.slice A (waitB ts).length c) (waitB ts) 0 (.slice none 0 0) wr from ⟨last, ts, [], HC.out, rfl, fun t ht => (HC.out.q.ids t ht).1⟩)
      have hsmall := HC.out.q.small
      rw [← length_waitB] at hsmall
      have hby9 : ∀ x ∈ waitB ts, x < 256 := by
        intro x hx
        unfold waitB at hx
        rw [List.mem_flatten] at hx
        obtain ⟨l, hl, hx⟩ := hx
        rw [List.mem_map] at hl
        obtain ⟨t, ht, rfl⟩ := hl
        exact (HC.out.q.bytes t ht).2.2 x hx
      have HBYT := Lib.hid hby9
      clear hby9
      generalize waitB ts = allB at HC2 hsmall HBYT ⊢
      generalize hna : allB.length = na at HC2 hsmall ⊢
      have HNA := Lib.hid hna
      clear HC hna
      have q1 : (k : Int) < (N0 : Int) := by omega
      have q2 : (40 : Int) ≤ (k : Int) := by omega
      clear hk hend
      go_wp2_with fail
      go_loopw [10, 14, 15] (fun gv dv iv wt => ∃ (j dn : Nat), j ≤ 40 ∧ j ≤ N1 ∧ iv = .int .i64 j ∧ dv = .int .u64 dn ∧ Hid (CF2 W p (.slice A na c) allB dn gv wt)) (fun _ _ iv _ => 40 - (intOf iv).toNat)
      case atStart => exact ⟨0, 0, by omega, by omega, rfl, rfl, HC2⟩
      case round =>
        clear HC2
        obtain ⟨j, dn, hj40, hj, rfl, rfl, HD⟩ := hrel
        obtain ⟨last2, ts2, g, hcf, hsum, hdn⟩ := HD.out
        obtain ⟨GA, gc, rfl, _⟩ := hcf.gotY.form
        have HCF := Lib.hid hcf
        have HSUM := Lib.hid hsum
        have HDN := Lib.hid hdn
        generalize hng : g.length = ng at HD HCF ⊢
        have HNG := Lib.hid hng
        clear hcf hsum hdn HD hng
        have hend : (j : Int) < (N1 : Int) ∧ (j : Int) < 40 ∨ ((N1 : Int) ≤ (j : Int) ∨ ((j : Int) < (N1 : Int) ∧ (40 : Int) ≤ (j : Int))) := by omega
        rcases hend with ⟨hj1, hj2⟩ | hend
        · obtain ⟨v, hv⟩ : ∃ v, l1[j]? = some v := ⟨_, List.getElem?_eq_getElem (by rw [HL1.out]; omega)⟩
          obtain ⟨a1, rfl, z1⟩ := f_src_cell HS1.out (HCF.out.below.mono (Nat.le_of_eq HP.out.symm)) (u16v_at hv)
          have hv9 := HB1.out v (List.mem_of_getElem? hv)
          have hmod : Int.tmod (v : Int) 4001 = ((v % 4001 : Nat) : Int) := by
            rw [Int.ofNat_tmod]
            rfl
          have hrm := Nat.mod_lt v (show 0 < 4001 by omega)
          have hj0 : (0 : Int) ≤ (j : Int) := by omega
          have HF0 := Lib.hid (show faultC ((v % 4001 : Nat) : Int) 11 = 0 by unfold faultC; rw [if_pos (by decide), if_neg (by omega)])
          have HFR := Lib.hid (HCF.out.q.front (by omega))
          generalize v % 4001 = rm at *
          clear hv
          obtain ⟨hb, hh⟩ : ∃ hb, headBg ts2 = hb := ⟨_, rfl⟩
          rw [hh] at HFR
          go_wp2_with (go_at_call 45; (with_reducible refine HFR.out.mono ?_); rintro e w3 ⟨⟨fid, FA, fn, fc, rfl⟩, hb3⟩; (have HCF3 := Lib.hid (HCF.out.later hb3)); (have HBU := Lib.hid (HCF3.out.q.build rm 11 (by omega) HF0.out)); clear hb3)
          refine HBU.out.mono ?_
          rintro e w4 ⟨k, n, ts', hB, hR, hq', ho', ⟨hk0, hn0, rfl⟩ | ⟨hkn, A6, D6, L6, rfl, htx, ⟨c6, hn6⟩, d6, hi6⟩⟩
          · obtain rfl : ts' = ts2 := by
              rcases hR with ⟨_, h⟩ | ⟨h, _⟩
              · rw [h, hk0]
                rfl
              · omega
            have HD4 := Lib.hid (show CF2 W p (.slice A na c) allB dn (.slice GA ng gc) (w4.alloc (.cells #[.int .i64 0, .slice none 0 0, .slice none 0 0] 91)) from ⟨last2, ts', g, (HCF3.out.step ho' hq' HCF3.out.c1 HCF3.out.c2).later (bl_alloc (Below.refl _ _) _), HSUM.out, HDN.out⟩)
            clear hB hR hq' ho' hk0 hn0 hh
            go_wp2
            go_roundw
            case rel => exact ⟨j + 1, dn, by omega, by omega, by go_num, rfl, HD4⟩
            case measure => simp [intOf]; omega
          · have hp9 : ∀ t ∈ ts2, 0 < t.bs.length := fun t ht => (HCF3.out.q.bytes t ht).1
            have hlens : lens L6 = fieldsL (lenT ts2) k n := lens_fieldsT htx (by rcases hB.less with h | h; exact .inl h; exact .inr (by omega))
            have hfit := hB.fits (lenT_pos hp9) (show (0 : Int) ≤ (rm : Int) by omega) (show 0 < sizeF 1 11 by decide)
            rw [← hlens] at hfit
            have hfl : flat L6 ++ waitB ts' = waitB ts2 := by unfold flat; rw [htx]; exact hR.bytes
            have hsum6 : (lens L6).sum ≤ 20000 := by
              have h1 := congrArg List.length hfl
              rw [List.length_append, length_flat, length_waitB, length_waitB] at h1
              have h2 := HCF3.out.q.small
              omega
            obtain ⟨nb, hnb⟩ : ∃ nb, bytesC (lens L6) 11 = nb := ⟨_, rfl⟩
            have hnb2 : nb ≤ rm := by rw [← hnb]; exact hfit.1
            have h24 : L6.length ≤ 24 := by have := hfit.2.2; rw [length_lens] at this; exact this
            have HCB := Lib.hid (fun (fi : Int) V (hV : Below w4.heap.size w4 V) => cutbytes_any (D := D6) fi 11 L6.length L6.length k k V rfl (by omega) (hn6.later hV).src (by omega))
            rw [hnb] at HCB
            have HS6 := Lib.hid hsum6
            have HGS := Lib.hid (show g.length ≤ 20000 from by have h1 := congrArg List.length HSUM.out; rw [List.length_append] at h1; have h2 := HNA.out; omega)
            have HAP := Lib.hid (show ApartB L6 (.slice GA ng gc) from fun r hr k hk e => by
              obtain ⟨k', q1, q2, _⟩ := hn6.2 r hr
              rw [hk] at q1
              injection q1 with q1
              injection q1 with q1
              have := HCF3.out.gotY.inside k e
              omega)
            clear hlens hsum6
            rcases Int.lt_or_le 0 n with hn | hn
            · obtain ⟨fi, hfi⟩ : ∃ fi, fiT ts2 n = fi := ⟨_, rfl⟩
              have hfv : fi = (if hb then 2 else 0) + 1 := by rw [← hfi, fiT_pos hh hn]
              have hfi0 : 0 ≤ fi := by rw [hfv]; cases hb <;> decide
              have hfi3 : fi ≤ 3 := by rw [hfv]; cases hb <;> decide
              have hfb : decide (2 ≤ fi) = hb := by rw [hfv]; cases hb <;> decide
              have hfo : (fi % 2 == 1) = true := by rw [hfv]; cases hb <;> decide
              have hl6 : L6.length = (k + 1) := by
                have := congrArg List.length htx
                rw [length_texts] at this
                rw [this]
                unfold fieldsT
                rw [if_neg (show ¬ n ≤ 0 by omega)]
                have := hB.le
                rw [length_lenT] at this
                simp
                omega
              have hhd : headBg ts' = true := by rw [rest_head HCF3.out.q hR hkn]; exact decide_eq_true hn
              obtain rfl : nb = (rm : Int) := by rw [← hnb]; exact hfit.2.1 hn
              have d24 : decide ((24 : Int) < (k : Int) + 1) = false := decide_eq_false (by rw [hl6] at h24; omega)
              have hk24 : k ≤ 23 := by rw [hl6] at h24; omega
              have HIL := Lib.hid (show ((ts2.take k).map Txt.id).length = k by rw [List.length_map, List.length_take]; have := hB.le; rw [length_lenT] at this; omega)
              have HRIS := Lib.hid (rest_rise HCF3.out.q.up HDN.out (by have := hB.le; rw [length_lenT] at this; exact this) hR)
              have HRI2 := Lib.hid (ids_rise (k := k) HCF3.out.q.up HDN.out)
              rw [hfi, hl6]
              rw [hl6] at hn6 HCB
              have hbx := bl_alloc (Below.refl w4.heap.size w4) (.cells #[.int .i64 fi, .slice A6 (k + 1) (k + 1), .slice D6 k k] 91)
              have HR := Lib.hid (Row.made w4 91 #[.int .i64 fi, .slice A6 (k + 1) (k + 1), .slice D6 k k])
              have HCF4 := Lib.hid ((HCF3.out.step ho' hq' (hR.clear HCF3.out.c1) (hR.clear HCF3.out.c2)).later hbx)
              have HN4 := Lib.hid (hn6.later hbx)
              have HI4 := Lib.hid (hi6.later hbx)
              have HCB4 := Lib.hid (HCB.out fi _ hbx)
              have HL6 := Lib.hid hl6
              have HSUM6 := Lib.hid (show flat L6 ++ waitB ts' = waitB ts2 from hfl)
              (have x0 := HR.out.read (i := 0) (x := .int .i64 fi) rfl); (have x1 := HR.out.read (i := 1) (x := .slice A6 (k + 1) (k + 1)) rfl); (have x2 := HR.out.read (i := 2) (x := .slice D6 k k) rfl)
              generalize (ts2.take k).map Txt.id = ids at HIL HRIS HRI2 HI4
              clear hfi hfv hl6 hR hB hq' ho' htx hn6 hi6 hbx hkn hfit h24 hfl hnb HCB hh
              go_wp2_with (go_at_call 58; (with_reducible refine HCB4.out.mono ?_); rintro e w5 ⟨rfl, hb5⟩; (have H30 : Hid (CF3 W p last2 ts' (.slice A na c) allB w3.heap.size w4.heap.size #[.int .i64 fi, .slice A6 (k + 1) (k + 1), .slice D6 k k] (.slice A6 (k + 1) c6) L6 (.slice D6 k d6) ids g 0 (.slice GA ng gc) w5) := Lib.hid ⟨by rw [flatTo_zero, List.append_nil]; exact HCF4.out.later hb5, HN4.out.later hb5, HI4.out.later hb5, HR.out.later hb5, HAP.out⟩); clear x0 x1 x2 HR HCF4 HN4 HI4 HCB4 HAP; (have HR := Lib.hid H30.out.box); (have x0 := HR.out.read (i := 0) (x := .int .i64 fi) rfl); (have x1 := HR.out.read (i := 1) (x := .slice A6 (k + 1) (k + 1)) rfl); (have x2 := HR.out.read (i := 2) (x := .slice D6 k k) rfl); clear hb5)
              generalize w4.heap.size = b at *
              go_loopw [10, 23] (fun gv kv ws => ∃ i : Nat, i ≤ (k + 1) ∧ kv = .int .i64 i ∧ Hid (CF3 W p last2 ts' (.slice A na c) allB w3.heap.size b #[.int .i64 fi, .slice A6 (k + 1) (k + 1), .slice D6 k k] (.slice A6 (k + 1) c6) L6 (.slice D6 k d6) ids g i gv ws)) (fun _ kv _ => (k + 1) - (intOf kv).toNat)
              case atStart => exact ⟨0, by omega, rfl, H30⟩
              case round =>
                clear x0 x1 x2 H30 HR
                obtain ⟨i, hi, rfl, H3⟩ := hrel
                have HR := Lib.hid H3.out.box
                (have x0 := HR.out.read (i := 0) (x := .int .i64 fi) rfl); (have x1 := HR.out.read (i := 1) (x := .slice A6 (k + 1) (k + 1)) rfl); (have x2 := HR.out.read (i := 2) (x := .slice D6 k k) rfl)
                rcases Nat.lt_or_ge i (k + 1) with hlt3 | hge3
                · obtain ⟨r, hr⟩ : ∃ r, L6[i]? = some r := ⟨_, List.getElem?_eq_getElem (by rw [HL6.out]; exact hlt3)⟩
                  obtain ⟨GB, gn, gd, rfl, A', c', w9, hrun, h9⟩ := H3.out.next hr (by have := HS6.out; have := HNG.out; have := HGS.out; omega)
                  obtain ⟨ad, rfl, hcl⟩ := H3.out.rows.src (by rw [HL6.out]; omega)
                  have x3 := (hcl i r hr).1
                  unfold RowB.v at x3
                  have H9 := Lib.hid h9
                  have hi0 : (0 : Int) ≤ (i : Int) := by omega
                  have hi1 : (i : Int) < (((k + 1) : Nat) : Int) := by omega
                  have hi2 : (i : Int) < (k : Int) + 1 := by omega
                  clear h9 hcl hr
                  go_wp2_with (at_builtin; refine wpList_run rfl (.tmp 157) (.tmp 162) 61 rfl (.slice GB gn gd) (.slice r.A r.bs.length r.cap) (by rfl) (by rfl) hrun ?_)
                  go_roundw
                  case rel => exact ⟨i + 1, by omega, by go_num, H9⟩
                  case measure => simp [intOf]; omega
                · obtain rfl : (k + 1) = i := by omega
                  obtain ⟨GB, gd, rfl, _⟩ := H3.out.cf.gotY.form
                  have hsum9 : (g ++ flatTo L6 (k + 1)) ++ waitB ts' = allB := by rw [flatTo_all HL6.out, List.append_assoc, HSUM6.out]; exact HSUM.out
                  have HCF8 := Lib.hid H3.out.cf
                  have HI8 := Lib.hid H3.out.ids
                  generalize g ++ flatTo L6 (k + 1) = g9 at HCF8 hsum9 ⊢
                  have HSUM9 := Lib.hid hsum9
                  generalize g9.length = gn at HCF8 ⊢
                  have hfr2 := HCF8.out.q.front (by omega)
                  rw [hhd] at hfr2
                  have HFR2 := Lib.hid hfr2
                  have hwe : IntKind.i64.wrap (((k + 1 : Nat) : Int) - 1) = (k : Int) := by rw [IntKind.wrap_i64]; omega
                  clear hfr2 hi hge3 H3 hsum9
                  go_wp2_with (go_at_call 45; (with_reducible refine HFR2.out.mono ?_); rintro e w7 ⟨⟨fid7, FA7, fn7, fc7, rfl⟩, hb7⟩; clear x0 x1 x2; (have HCF7 := Lib.hid (HCF8.out.later hb7)); (have HI7 := Lib.hid (HI8.out.later hb7)); (have HR7 := Lib.hid (HR.out.later hb7)); clear HR HCF8 HI8; (have HR := HR7); (have x0 := HR.out.read (i := 0) (x := .int .i64 fi) rfl); (have x1 := HR.out.read (i := 1) (x := .slice A6 (k + 1) (k + 1)) rfl); (have x2 := HR.out.read (i := 2) (x := .slice D6 k k) rfl); clear hb7)
                  have HD9 := Lib.hid (show CF2 W p (.slice A na c) allB (dnF dn ids k) (.slice GB gn gd) w7 from ⟨last2, ts', g9, HCF7.out, HSUM9.out, HRIS.out⟩)
                  go_loopw [14, 28] (fun dv kv wu => ∃ i : Nat, i ≤ k ∧ kv = .int .i64 i ∧ dv = .int .u64 (dnF dn ids i) ∧ w7 = wu) (fun _ kv _ => k - (intOf kv).toNat)
                  case atStart => exact ⟨0, by omega, rfl, rfl, rfl⟩
                  case round =>
                    obtain ⟨i, hi, rfl, rfl, rfl⟩ := hrel
                    rcases Nat.lt_or_ge i k with hlt4 | hge4
                    · obtain ⟨a, ha⟩ := ids_idx (ids := ids) (i := i) (by rw [HIL.out]; exact hlt4)
                      obtain ⟨ad, rfl, x3⟩ := ids_cell HI7.out ha
                      have hri := HRI2.out i a ha
                      have HDS := Lib.hid (dnF_succ (dn := dn) ha)
                      have hgt : (dnF dn ids i : Int) < (a : Int) := by omega
                      have hi0 : (0 : Int) ≤ (i : Int) := by omega
                      have hi1 : (i : Int) < (k : Int) := by omega
                      generalize dnF dn ids i = dd at *
                      clear ha hri
                      go_wp2
                      go_roundw
                      case rel => exact ⟨i + 1, by omega, by go_num, by rw [HDS.out], by first | rfl | trivial⟩
                      case measure => simp [intOf]; omega
                    · obtain rfl : k = i := by omega
                      generalize dnF dn ids k = dd at HD9 ⊢
                      go_wp2
                      go_roundw
                      case rel => exact ⟨j + 1, dd, by omega, by omega, by go_num, rfl, HD9⟩
                      case measure => simp [intOf]; omega

            · obtain ⟨fi, hfi⟩ : ∃ fi, fiT ts2 n = fi := ⟨_, rfl⟩
              have hfv : fi = (if hb then 2 else 0) + 0 := by rw [← hfi, fiT_zero hh hn]; omega
              have hfi0 : 0 ≤ fi := by rw [hfv]; cases hb <;> decide
              have hfi3 : fi ≤ 3 := by rw [hfv]; cases hb <;> decide
              have hfb : decide (2 ≤ fi) = hb := by rw [hfv]; cases hb <;> decide
              have hfo : (fi % 2 == 1) = false := by rw [hfv]; cases hb <;> decide
              have hl6 : L6.length = k := by
                have := congrArg List.length htx
                rw [length_texts] at this
                rw [this]
                unfold fieldsT
                rw [if_pos hn]
                have := hB.le
                rw [length_lenT] at this
                simp
                omega
              have hhd : headBg ts' = false := by rw [rest_head HCF3.out.q hR hkn]; exact decide_eq_false (by omega)
              have d9 : decide ((rm : Int) < nb) = false := decide_eq_false (by omega)
              have d24 : decide ((24 : Int) < (k : Int)) = false := decide_eq_false (by rw [hl6] at h24; omega)
              have hk24 : k ≤ 24 := by rw [hl6] at h24; omega
              have HIL := Lib.hid (show ((ts2.take k).map Txt.id).length = k by rw [List.length_map, List.length_take]; have := hB.le; rw [length_lenT] at this; omega)
              have HRIS := Lib.hid (rest_rise HCF3.out.q.up HDN.out (by have := hB.le; rw [length_lenT] at this; exact this) hR)
              have HRI2 := Lib.hid (ids_rise (k := k) HCF3.out.q.up HDN.out)
              rw [hfi, hl6]
              rw [hl6] at hn6 HCB
              have hbx := bl_alloc (Below.refl w4.heap.size w4) (.cells #[.int .i64 fi, .slice A6 k k, .slice D6 k k] 91)
              have HR := Lib.hid (Row.made w4 91 #[.int .i64 fi, .slice A6 k k, .slice D6 k k])
              have HCF4 := Lib.hid ((HCF3.out.step ho' hq' (hR.clear HCF3.out.c1) (hR.clear HCF3.out.c2)).later hbx)
              have HN4 := Lib.hid (hn6.later hbx)
              have HI4 := Lib.hid (hi6.later hbx)
              have HCB4 := Lib.hid (HCB.out fi _ hbx)
              have HL6 := Lib.hid hl6
              have HSUM6 := Lib.hid (show flat L6 ++ waitB ts' = waitB ts2 from hfl)
              (have x0 := HR.out.read (i := 0) (x := .int .i64 fi) rfl); (have x1 := HR.out.read (i := 1) (x := .slice A6 k k) rfl); (have x2 := HR.out.read (i := 2) (x := .slice D6 k k) rfl)
              generalize (ts2.take k).map Txt.id = ids at HIL HRIS HRI2 HI4
              clear hfi hfv hl6 hR hB hq' ho' htx hn6 hi6 hbx hkn hfit h24 hfl hnb HCB hh
              go_wp2_with (go_at_call 58; (with_reducible refine HCB4.out.mono ?_); rintro e w5 ⟨rfl, hb5⟩; (have H30 : Hid (CF3 W p last2 ts' (.slice A na c) allB w3.heap.size w4.heap.size #[.int .i64 fi, .slice A6 k k, .slice D6 k k] (.slice A6 k c6) L6 (.slice D6 k d6) ids g 0 (.slice GA ng gc) w5) := Lib.hid ⟨by rw [flatTo_zero, List.append_nil]; exact HCF4.out.later hb5, HN4.out.later hb5, HI4.out.later hb5, HR.out.later hb5, HAP.out⟩); clear x0 x1 x2 HR HCF4 HN4 HI4 HCB4 HAP; (have HR := Lib.hid H30.out.box); (have x0 := HR.out.read (i := 0) (x := .int .i64 fi) rfl); (have x1 := HR.out.read (i := 1) (x := .slice A6 k k) rfl); (have x2 := HR.out.read (i := 2) (x := .slice D6 k k) rfl); clear hb5)
              generalize w4.heap.size = b at *
              go_loopw [10, 23] (fun gv kv ws => ∃ i : Nat, i ≤ k ∧ kv = .int .i64 i ∧ Hid (CF3 W p last2 ts' (.slice A na c) allB w3.heap.size b #[.int .i64 fi, .slice A6 k k, .slice D6 k k] (.slice A6 k c6) L6 (.slice D6 k d6) ids g i gv ws)) (fun _ kv _ => k - (intOf kv).toNat)
              case atStart => exact ⟨0, by omega, rfl, H30⟩
              case round =>
                clear x0 x1 x2 H30 HR
                obtain ⟨i, hi, rfl, H3⟩ := hrel
                have HR := Lib.hid H3.out.box
                (have x0 := HR.out.read (i := 0) (x := .int .i64 fi) rfl); (have x1 := HR.out.read (i := 1) (x := .slice A6 k k) rfl); (have x2 := HR.out.read (i := 2) (x := .slice D6 k k) rfl)
                rcases Nat.lt_or_ge i k with hlt3 | hge3
                · obtain ⟨r, hr⟩ : ∃ r, L6[i]? = some r := ⟨_, List.getElem?_eq_getElem (by rw [HL6.out]; exact hlt3)⟩
                  obtain ⟨GB, gn, gd, rfl, A', c', w9, hrun, h9⟩ := H3.out.next hr (by have := HS6.out; have := HNG.out; have := HGS.out; omega)
                  obtain ⟨ad, rfl, hcl⟩ := H3.out.rows.src (by rw [HL6.out]; omega)
                  have x3 := (hcl i r hr).1
                  unfold RowB.v at x3
                  have H9 := Lib.hid h9
                  have hi0 : (0 : Int) ≤ (i : Int) := by omega
                  have hi1 : (i : Int) < ((k : Nat) : Int) := by omega
                  skip
                  clear h9 hcl hr
                  go_wp2_with (at_builtin; refine wpList_run rfl (.tmp 157) (.tmp 162) 61 rfl (.slice GB gn gd) (.slice r.A r.bs.length r.cap) (by rfl) (by rfl) hrun ?_)
                  go_roundw
                  case rel => exact ⟨i + 1, by omega, by go_num, H9⟩
                  case measure => simp [intOf]; omega
                · obtain rfl : k = i := by omega
                  obtain ⟨GB, gd, rfl, _⟩ := H3.out.cf.gotY.form
                  have hsum9 : (g ++ flatTo L6 k) ++ waitB ts' = allB := by rw [flatTo_all HL6.out, List.append_assoc, HSUM6.out]; exact HSUM.out
                  have HCF8 := Lib.hid H3.out.cf
                  have HI8 := Lib.hid H3.out.ids
                  generalize g ++ flatTo L6 k = g9 at HCF8 hsum9 ⊢
                  have HSUM9 := Lib.hid hsum9
                  generalize g9.length = gn at HCF8 ⊢
                  have hfr2 := HCF8.out.q.front (by omega)
                  rw [hhd] at hfr2
                  have HFR2 := Lib.hid hfr2
                  have hwe : True := trivial
                  clear hfr2 hi hge3 H3 hsum9
                  go_wp2_with (go_at_call 45; (with_reducible refine HFR2.out.mono ?_); rintro e w7 ⟨⟨fid7, FA7, fn7, fc7, rfl⟩, hb7⟩; clear x0 x1 x2; (have HCF7 := Lib.hid (HCF8.out.later hb7)); (have HI7 := Lib.hid (HI8.out.later hb7)); (have HR7 := Lib.hid (HR.out.later hb7)); clear HR HCF8 HI8; (have HR := HR7); (have x0 := HR.out.read (i := 0) (x := .int .i64 fi) rfl); (have x1 := HR.out.read (i := 1) (x := .slice A6 k k) rfl); (have x2 := HR.out.read (i := 2) (x := .slice D6 k k) rfl); clear hb7)
                  have HD9 := Lib.hid (show CF2 W p (.slice A na c) allB (dnF dn ids k) (.slice GB gn gd) w7 from ⟨last2, ts', g9, HCF7.out, HSUM9.out, HRIS.out⟩)
                  go_loopw [14, 28] (fun dv kv wu => ∃ i : Nat, i ≤ k ∧ kv = .int .i64 i ∧ dv = .int .u64 (dnF dn ids i) ∧ w7 = wu) (fun _ kv _ => k - (intOf kv).toNat)
                  case atStart => exact ⟨0, by omega, rfl, rfl, rfl⟩
                  case round =>
                    obtain ⟨i, hi, rfl, rfl, rfl⟩ := hrel
                    rcases Nat.lt_or_ge i k with hlt4 | hge4
                    · obtain ⟨a, ha⟩ := ids_idx (ids := ids) (i := i) (by rw [HIL.out]; exact hlt4)
                      obtain ⟨ad, rfl, x3⟩ := ids_cell HI7.out ha
                      have hri := HRI2.out i a ha
                      have HDS := Lib.hid (dnF_succ (dn := dn) ha)
                      have hgt : (dnF dn ids i : Int) < (a : Int) := by omega
                      have hi0 : (0 : Int) ≤ (i : Int) := by omega
                      have hi1 : (i : Int) < (k : Int) := by omega
                      generalize dnF dn ids i = dd at *
                      clear ha hri
                      go_wp2
                      go_roundw
                      case rel => exact ⟨i + 1, by omega, by go_num, by rw [HDS.out], by first | rfl | trivial⟩
                      case measure => simp [intOf]; omega
                    · obtain rfl : k = i := by omega
                      generalize dnF dn ids k = dd at HD9 ⊢
                      go_wp2
                      go_roundw
                      case rel => exact ⟨j + 1, dd, by omega, by omega, by go_num, rfl, HD9⟩
                      case measure => simp [intOf]; omega


        · have hle : ng + bytesF ts2 = na := by
            have h1 := congrArg List.length HSUM.out
            rw [List.length_append, length_waitB] at h1
            have h2 := HNA.out
            have h3 := HNG.out
            omega
          have htk : allB.take ng = g := by
            rw [← HSUM.out, ← HNG.out]
            exact List.take_left
          have hna20 : na ≤ 20000 := by omega
          have hgb : ∀ x ∈ g, x < 256 := fun x hx => HBYT.out x (by rw [← HSUM.out]; exact List.mem_append_left _ hx)
          have conv2 : ∀ V, Below wr.heap.size wr V → (convert 61 9 (.slice A ng c)).run Try.prog V = .ok (.string (strOf g)) V ∧ (convert 61 9 (.slice GA ng gc)).run Try.prog V = .ok (.string (strOf g)) V := fun V hV => by
            have hA : Src V A (bts allB) := by
              have h1 := HCF.out.allY.later hV
              exact h1.src
            have hA2 := src_take ng hA
            rw [htk] at hA2
            exact ⟨conv_src ng c HNG.out hA2 hgb, (HCF.out.gotY.later hV).conv hgb⟩
          have HCV := Lib.hid conv2
          have HBQ := Lib.hid (fun V (hV : Below wr.heap.size wr V) => qbytes_any (HCF.out.q.q.later hV) (by omega) (by omega))
          have hws : IntKind.i64.wrap ((na : Int) - (ng : Int)) = (bytesF ts2 : Int) := by rw [IntKind.wrap_i64]; omega
          have hngna : (ng : Int) ≤ (na : Int) := by omega
          have hcc : na ≤ c := by
            obtain ⟨_, _, e, h1, _⟩ := HCF.out.allY.form
            injection e with e1 e2 e3
            have := HNA.out
            omega
          have hngc : ng ≤ c := by omega
          have hng0 : (0 : Int) ≤ (ng : Int) := by omega
          clear conv2 htk hgb
          generalize strOf g = st at HCV
          generalize bytesF ts2 = bf at *
          rcases hend with q3 | ⟨q3, q4⟩
          all_goals
            go_wp2_with fail
            have k0 := HCV.out wr.drew (bl_drew (Below.refl _ _))
            go_region_held3 (fun w' => (convert 61 9 (.slice A ng c)).run Try.prog w' = .ok (.string st) w' ∧ (convert 61 9 (.slice GA ng gc)).run Try.prog w' = .ok (.string st) w') (first | assumption | exact k0 | exact k1 | exact k2 | go_keep) (first
              | (go_at_call 53; (with_reducible refine (HAL.out _).mono ?_); rintro e v1 ⟨rfl, hb1⟩; (have B1 := Lib.hid (show Below wr.heap.size wr v1 from bl_step (bl_drew (Below.refl _ _)) hb1)); (have k1 := HCV.out v1 B1.out); clear hb1)
              | (go_at_call 47; (with_reducible refine (HBQ.out _ B1.out).mono ?_); rintro e v2 ⟨rfl, hb2⟩; (have B2 := Lib.hid (show Below wr.heap.size wr v2 from bl_step B1.out hb2)); (have k2 := HCV.out v2 B2.out); clear hb2))
            all_goals
              go_wp2
              go_ret
              rw [← HP.out]
              exact ⟨rfl, HCF.out.below.trans (B2.out.mono HCF.out.q.q.2.1)⟩
end Go.Proofs.Ytjobgnemklpiaaa
