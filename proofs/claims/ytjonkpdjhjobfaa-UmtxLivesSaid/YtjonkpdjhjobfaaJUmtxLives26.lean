/-
  UmtxLives: the walk.
-/
import Derived.Test.YtjonkpdjhjobfaaJUmtxLives25
import Derived.Test.YtjonkpdjhjobfaaJUmtxLives24
import Derived.Test.YtjonkpdjhjobfaaJUmtxLives23
import Derived.Test.YtjonkpdjhjobfaaJUmtxLives16
import Derived.Deep.DeepCutAuto
import Derived.Deep.CutBlock
namespace Go.Proofs.Ytjonkpdjhjobfaa
open Go.RowKit Go.Maps

section
set_option maxRecDepth 100000 in
set_option maxHeartbeats 25600000 in
theorem ulives_ok (A0 : Option Addr) (n0 c0_ : Nat) (l0 : List OpB) (bits win reo prx pro ppd pby mrx qb : Int) (W : World) (hck : checkF ⟨1, bits, win, reo, prx, pro, ppd, pby, mrx, qb⟩ = 0) (hl0 : l0.length = n0) (hm0 : n0 ≤ 9223372036854775807) (hs0 : BSrc16 W A0 l0) :
    Calls Try.prog 3 #[.agg (Cf.a ⟨1, bits, win, reo, prx, pro, ppd, pby, mrx, qb⟩), .slice A0 n0 c0_] W fun e w' => e = .returned (.bool true) ∧ Below W.heap.size W w' := by
  have HN := Lib.hid (fun V => us_new ⟨1, bits, win, reo, prx, pro, ppd, pby, mrx, qb⟩ V hck rfl)
  have HC := Lib.hid (fun V => rcheck_any ⟨1, bits, win, reo, prx, pro, ppd, pby, mrx, qb⟩ V)
  rw [hck] at HC
  have HA := Lib.hid ualive_any
  have HS0 := Lib.hid hs0
  have HL0 := Lib.hid hl0
  clear hs0 hl0 hck
  unfold Cf.a at *
  have ROW := Lib.hid (Row.made W 23 #[.int .i64 1, .int .i64 bits, .int .i64 win, .int .i64 reo, .int .i64 prx, .int .i64 pro, .int .i64 ppd, .int .i64 pby, .int .i64 mrx, .int .i64 qb])
  have HB0 := Lib.hid (bl_alloc (Below.refl W.heap.size W) (.cells #[.int .i64 1, .int .i64 bits, .int .i64 win, .int .i64 reo, .int .i64 prx, .int .i64 pro, .int .i64 ppd, .int .i64 pby, .int .i64 mrx, .int .i64 qb] 23))
  obtain ⟨c0, c1, c2, c3, c4, c5, c6, c7, c8, c9⟩ := cells10 ROW.out
  go_enter Try.func3, Try.ntmps3
  go_upto_region 1 with fail
  generalize hW0 : W.alloc (.cells #[.int .i64 1, .int .i64 bits, .int .i64 win, .int .i64 reo, .int .i64 prx, .int .i64 pro, .int .i64 ppd, .int .i64 pby, .int .i64 mrx, .int .i64 qb] 23) = W0 at *
  generalize hCB : W.heap.size = cb at *
  go_upto_region 16 with (first
    | (go_at_call 10; (with_reducible refine (HN.out _).mono ?_); rintro e w1 ⟨x, q, wd, rfl, hus1⟩; (have HU1 := Lib.hid hus1; have ROW1 := Lib.hid (ROW.out.later hus1.bl); clear hus1 c0 c1 c2 c3 c4 c5 c6 c7 c8 c9; obtain ⟨c0, c1, c2, c3, c4, c5, c6, c7, c8, c9⟩ := cells10 ROW1.out))
    | (go_at_call 11; (with_reducible refine (HC.out _).mono ?_); rintro e w2 ⟨rfl, hb2⟩; (
        have HU2 := Lib.hid (HU1.out.later hb2); have ROW2 := Lib.hid (ROW1.out.later hb2); clear hb2 c0 c1 c2 c3 c4 c5 c6 c7 c8 c9; obtain ⟨c0, c1, c2, c3, c4, c5, c6, c7, c8, c9⟩ := cells10 ROW2.out
        have HZ1 := Lib.hid (zsrow w2)))
    | (go_at_call 12; (with_reducible refine (upush_nil9 _ _).mono ?_); rintro e w3 ⟨rfl, hb⟩; (have HB3 := Lib.hid (bl_step (bl_alloc (bl_alloc (Below.refl w2.heap.size w2) (.cells #[.int .i64 0, .int .i64 0, .int .i64 0, .int .i64 0, .int .i64 0, .int .i64 0, .int .i64 0, .int .i64 0, .int .i64 0, .int .i64 0, .pointer none, .int .i64 0] 34)) (.cells #[.int .u8 1] 5)) hb); have HZ3 := Lib.hid ((HZ1.out.more (.cells #[.int .u8 1] 5)).later hb); clear hb))
    | (go_at_call 13; (with_reducible refine (ubuild_of_none 1 (usource_any HZ3.out)).mono ?_); rintro e w4 ⟨rfl, hb⟩; (have HB4 := Lib.hid (bl_step HB3.out hb); have HZ4 := Lib.hid (HZ3.out.later hb); clear hb))
    | (go_at_call 13; (with_reducible refine (ubuild_of_none 1 (usource_nil _)).mono ?_); rintro e w5 ⟨rfl, hb⟩; (have HB5 := Lib.hid (bl_step HB4.out hb); have HZ5 := Lib.hid (HZ4.out.later hb); clear hb))
    | (go_at_call 14; (with_reducible refine (udisc_zero9 HZ5.out).mono ?_); rintro e w6 ⟨rfl, hb⟩; (have HB6 := Lib.hid (bl_step HB5.out hb); have HZ6 := Lib.hid (HZ5.out.later hb); clear hb))
    | (go_at_call 15; (with_reducible refine (ubytes_nil9 _).mono ?_); rintro e w7 ⟨rfl, hb⟩; (have HB7 := Lib.hid (bl_step HB6.out hb); have HZ7 := Lib.hid (HZ6.out.later hb); clear hb))
    | (go_at_call 16; (with_reducible refine (unext_nil _).mono ?_); rintro e _ ⟨rfl, rfl⟩)
    | (go_at_call 17; (with_reducible refine (ureset_zero9 HZ7.out (Nat.le_refl _) HB7.out).mono ?_); rintro e w8 ⟨rfl, hb⟩; (have HB8 := Lib.hid hb; clear hb))
    | (go_at_call 17; (with_reducible refine (ureset_nil _).mono ?_); rintro e _ ⟨rfl, rfl⟩))
  have HU3 := Lib.hid (HU2.out.later HB8.out)
  have ROW3 := Lib.hid (ROW2.out.later HB8.out)
  clear HZ1 HZ3 HZ4 HZ5 HZ6 HZ7 HB3 HB4 HB5 HB6 HB7 c0 c1 c2 c3 c4 c5 c6 c7 c8 c9
  obtain ⟨c0, c1, c2, c3, c4, c5, c6, c7, c8, c9⟩ := cells10 ROW3.out
  have hbq := bl_alloc (Below.refl w8.heap.size w8) (.cells #[.int .i64 qb, .slice none 0 0, .slice none 0 0, .slice none 0 0] 52)
  have hbs := bl_alloc hbq (.cells #[.pointer (some ⟨w8.heap.size, 0, none⟩), .int .i64 bits, .int .i64 0] 54)
  have hB8 : W0.heap.size ≤ w8.heap.size := HU3.out.bl.size
  have hrow := Row.made (w8.alloc (.cells #[.int .i64 qb, .slice none 0 0, .slice none 0 0, .slice none 0 0] 52)) 54 #[.pointer (some ⟨w8.heap.size, 0, none⟩), .int .i64 bits, .int .i64 0]
  rw [show (w8.alloc (.cells #[.int .i64 qb, .slice none 0 0, .slice none 0 0, .slice none 0 0] 52)).heap.size = w8.heap.size + 1 by simp] at hrow
  have hbsz : Below (w8.alloc (.cells #[.int .i64 qb, .slice none 0 0, .slice none 0 0, .slice none 0 0] 52)).heap.size (w8.alloc (.cells #[.int .i64 qb, .slice none 0 0, .slice none 0 0, .slice none 0 0] 52)) ((w8.alloc (.cells #[.int .i64 qb, .slice none 0 0, .slice none 0 0, .slice none 0 0] 52)).alloc (.cells #[.pointer (some ⟨w8.heap.size, 0, none⟩), .int .i64 bits, .int .i64 0] 54)) := bl_alloc (Below.refl _ _) _
  have HUB : Hid (UB W0 ((w8.alloc (.cells #[.int .i64 qb, .slice none 0 0, .slice none 0 0, .slice none 0 0] 52)).alloc (.cells #[.pointer (some ⟨w8.heap.size, 0, none⟩), .int .i64 bits, .int .i64 0] 54)) x q (w8.heap.size + 1) w8.heap.size ⟨1, bits, win, reo, prx, pro, ppd, pby, mrx, qb⟩ 0 wd [] []) :=
    Lib.hid ⟨HU3.out.later hbs, hrow, (both_qnew HU3.out.qs.q HU3.out.hr HU3.out.hr2 hB8).r.later hbsz, rfl, (fun e he => by cases he), hB8, by omega⟩
  have cx := (ROW3.out.more (.cells #[.int .i64 qb, .slice none 0 0, .slice none 0 0, .slice none 0 0] 52)).read (i := 1) (x := .int .i64 bits) rfl
  go_wp2
  clear c0 c1 c2 c3 c4 c5 c6 c7 c8 c9 cx hbq hbs hbsz hrow
  generalize (w8.alloc (.cells #[.int .i64 qb, .slice none 0 0, .slice none 0 0, .slice none 0 0] 52)).alloc (.cells #[.pointer (some ⟨w8.heap.size, 0, none⟩), .int .i64 bits, .int .i64 0] 54) = wy at *
  generalize w8.heap.size = y at *
  generalize hYS : y + 1 = ys at *
  clear hYS hB8
  have HWW : Hid (∀ V, Below W0.heap.size W0 V → Below cb W V ∧ Row V cb 23 #[.int .i64 1, .int .i64 bits, .int .i64 win, .int .i64 reo, .int .i64 prx, .int .i64 pro, .int .i64 ppd, .int .i64 pby, .int .i64 mrx, .int .i64 qb] ∧ V.cell? ⟨cb, 1, none⟩ = some (.int .i64 bits)) := Lib.hid (fun V hV => ⟨HB0.out.trans (hV.mono (by rw [← hCB]; exact HB0.out.size)), ROW.out.later hV, (ROW.out.later hV).read rfl⟩)
  clear hW0
  go_loopw [19] (fun s19 wr => ∃ (i sn : Nat) (ts : List Txt) (E : List Ent), i ≤ 80 ∧ i ≤ n0 ∧ s19 = .int .i64 i ∧ Hid (UB W0 wr x q ys y ⟨1, bits, win, reo, prx, pro, ppd, pby, mrx, qb⟩ sn wd ts E) ∧ Hid (E.length ≤ i)) (fun s19 _ => 80 - (intOf s19).toNat)
  case atStart => exact ⟨0, 0, [], [], by omega, by omega, rfl, HUB, Lib.hid (by simp)⟩
  case round =>
    obtain ⟨i, sn, ts, E, hi, hin, rfl, HBr, HEi⟩ := hrel
    have HWr := Lib.hid (HWW.out _ HBr.out.us.bl).1
    by_cases hlt : i < n0 ∧ i < 80
    · obtain ⟨hlt1, hlt2⟩ := hlt
      have hi1 : (i : Int) < n0 := by omega
      have hi2 : (i : Int) < 80 := by omega
      have hi0 : (0 : Int) ≤ i := by omega
      have HI := Lib.hid (And.intro hlt1 hlt2)
      obtain ⟨o, ho⟩ : ∃ o, l0[i]? = some o := ⟨_, List.getElem?_eq_getElem (by rw [HL0.out]; exact hlt1)⟩
      obtain ⟨bq, off, rfl, hq⟩ := HS0.out (by rw [HL0.out]; omega)
      obtain ⟨q0, q1, q2, q3⟩ := hq i o ho
      have hbw : Below W.heap.size W wr := by rw [hCB]; exact HWr.out
      have z0 := kept_box hbw q0
      have z1 := kept_box hbw q1
      have z2 := kept_box hbw q2
      obtain ⟨kd, nn, rb⟩ := o
      obtain ⟨A3, c3, l3⟩ := rb
      simp only [RowB.v] at z0 z1 z2 q3
      have HR3 := Lib.hid q3
      obtain ⟨n3, hn3⟩ : ∃ n3, l3.length = n3 := ⟨_, rfl⟩
      rw [hn3] at z2
      have HN3 := Lib.hid hn3
      have HOB := Lib.hid (Row.made wr 56 #[.int .i64 kd, .int .i64 nn, .slice A3 n3 c3])
      have HXo := Lib.hid (HBr.out.later (bl_alloc (Below.refl _ _) (.cells #[.int .i64 kd, .int .i64 nn, .slice A3 n3 c3] 56)))
      clear ho hq q0 q1 q2 q3 hlt1 hlt2 hi hin hn3 hbw
      go_upto_region 21 with fail
      generalize hQ : (wr.alloc (.cells #[.int .i64 kd, .int .i64 nn, .slice A3 n3 c3] 56)) = wq at *
      clear hQ
      generalize hOO : wr.heap.size = oo at *
      clear hOO z0 z1 z2
      obtain ⟨d0, d1, d2⟩ := op16_cells HOB.out
      by_cases hlong : 1100 < n3
      · have hl1 : (1100 : Int) < n3 := by omega
        go_wp2_with (go_at_call 18; (with_reducible refine (HA.out _).mono ?_); rintro e w3 ⟨rfl, hb⟩; (have HB9 := Lib.hid hb; clear hb))
        go_ret
        exact ⟨rfl, by have h9 := (HWW.out _ HXo.out.us.bl).1; rw [← hCB] at h9; exact bl_step h9 HB9.out⟩
      · have hl1 : ¬ (1100 : Int) < n3 := by omega
        clear hlong
        go_upto_block 2 with fail
        go_cut [21] (fun s21 wx => ∃ (wy : World) (sn' : Nat) (ts' : List Txt) (E' : List Ent), wy = wx ∧ s21 = .bool true ∧ Hid (UB W0 wy x q ys y ⟨1, bits, win, reo, prx, pro, ppd, pby, mrx, qb⟩ sn' wd ts' E') ∧ Hid (E'.length ≤ i + 1))
        case first =>
          rcases Classical.em (kd = 0) with hk0 | hk0
          · subst hk0
            as_aux_lemma =>
              have hcc := ub_push A3 l3 c3 HXo.out (by have := HEi.out; have := HI.out.2; omega) (Nat.le_trans HR3.out.2.1 HR3.out.2.2.1) HR3.out.2.2.2 (fun W' hk => (src_qsrc HR3.out.1).later (by rw [hCB]; exact (HWW.out _ (HXo.out.us.bl.trans hk.below)).1))
              rw [HN3.out] at hcc
              have HN1 := Lib.hid hcc
              clear hcc
              go_wp2_with (go_at_call 12; (with_reducible refine HN1.out.mono ?_); rintro e w3 ⟨nid, er, rfl, hk3, hc3⟩; (have HK3 := Lib.hid hk3; have HN2 := Lib.hid (hc3 w3.drew (bl_drew (Below.refl _ _))); have HO3 := Lib.hid (hk3.other HOB.out xs_no.2.1); have HY3 := Lib.hid (hk3.other HXo.out.rs xs_no.2.2); clear hk3 hc3 d0 d1 d2))
              have k0 : w3.drew.cell? ⟨ys, 0, none⟩ = some (.pointer (some ⟨y, 0, none⟩)) ∧ w3.drew.cell? ⟨oo, 2, none⟩ = some (.slice A3 n3 c3) := ⟨HY3.out.drawn.read rfl, HO3.out.drawn.read rfl⟩
              go_region_held3 (fun w' => w'.cell? ⟨ys, 0, none⟩ = some (.pointer (some ⟨y, 0, none⟩)) ∧ w'.cell? ⟨oo, 2, none⟩ = some (.slice A3 n3 c3)) (first | with_reducible exact k0 | with_reducible exact k4 | go_keep)
                (first | (go_at_call 19; (with_reducible refine HN2.out.mono ?_); rintro e w4 ⟨rfl, hk4, ts4, E4, hq4, hl4⟩; (have HQ4 := Lib.hid hq4; have HL4 := Lib.hid hl4; have k4 : w4.cell? ⟨ys, 0, none⟩ = some (.pointer (some ⟨y, 0, none⟩)) ∧ w4.cell? ⟨oo, 2, none⟩ = some (.slice A3 n3 c3) := ⟨hq4.rs.read rfl, (hk4.other HO3.out.drawn xu_no.2.2.1).read rfl⟩; clear hk4 hq4 hl4)))
              go_wp2
              go_meet
              exact ⟨_, sn, ts4, E4, rfl, by simp, HQ4, Lib.hid (by have := HL4.out; have := HEi.out; omega)⟩
          · have e0 : (kd == 0) = false := by simpa using hk0
            rcases Classical.em (kd = 1) with hk1 | hk1
            · subst hk1
              by_cases hneg : nn < 0
              · go_wp2
                go_quiet (fail)
                go_wp2
                go_meet
                exact ⟨_, sn, ts, E, rfl, by simp, Lib.hid (HXo.out.later (below_drewN (Below.refl _ _) _)), Lib.hid (by have := HEi.out; omega)⟩
              · as_aux_lemma =>
                  have hd : decide (nn < 0) = false := by simpa using hneg
                  obtain ⟨n, hwn, hn64⟩ : ∃ n : Nat, IntKind.u64.wrap nn = (n : Int) ∧ n < 18446744073709551616 := ⟨(IntKind.u64.wrap nn).toNat, by rw [IntKind.wrap_u64]; omega, by rw [IntKind.wrap_u64]; omega⟩
                  have hcc := ub_disc (HXo.out.later (bl_drew (Below.refl _ _))) n hn64
                  rw [← hwn] at hcc
                  clear hwn hn64
                  have HN1 := Lib.hid hcc
                  have HXd := Lib.hid (HXo.out.later (bl_drew (Below.refl _ _)))
                  have k0 : wq.drew.cell? ⟨ys, 0, none⟩ = some (.pointer (some ⟨y, 0, none⟩)) ∧ wq.drew.cell? ⟨oo, 1, none⟩ = some (.int .i64 nn) := ⟨HXd.out.rs.read rfl, HOB.out.drawn.read rfl⟩
                  clear hcc
                  go_wp2
                  go_region_held3 (fun w' => w'.cell? ⟨ys, 0, none⟩ = some (.pointer (some ⟨y, 0, none⟩)) ∧ w'.cell? ⟨oo, 1, none⟩ = some (.int .i64 nn)) (first | with_reducible exact k0 | with_reducible exact k3 | with_reducible exact k4 | go_keep)
                    (first
                      | (go_at_call 14; (with_reducible refine HN1.out.mono ?_); rintro e w3 ⟨rfl, hk3, hc3⟩; (have HN2 := Lib.hid (hc3 w3 (Below.refl _ _)); have HO3 := Lib.hid (hk3.other HOB.out.drawn xs_no.2.1); have k3 : w3.cell? ⟨ys, 0, none⟩ = some (.pointer (some ⟨y, 0, none⟩)) ∧ w3.cell? ⟨oo, 1, none⟩ = some (.int .i64 nn) := ⟨(hk3.other HXd.out.rs xs_no.2.2).read rfl, HO3.out.read rfl⟩; clear hk3 hc3))
                      | (go_at_call 20; (with_reducible refine HN2.out.mono ?_); rintro e w4 ⟨rfl, hk4, ts4, E4, hq4, hl4⟩; (have HQ4 := Lib.hid hq4; have HL4 := Lib.hid hl4; have k4 : w4.cell? ⟨ys, 0, none⟩ = some (.pointer (some ⟨y, 0, none⟩)) ∧ w4.cell? ⟨oo, 1, none⟩ = some (.int .i64 nn) := ⟨hq4.rs.read rfl, (hk4.other HO3.out xu_no.2.2.1).read rfl⟩; clear hk4 hq4 hl4)))
                  go_wp2
                  go_meet
                  exact ⟨_, sn, ts4, E4, rfl, by simp, HQ4, Lib.hid (by have := HL4.out; have := HEi.out; omega)⟩
            · have e1 : (kd == 1) = false := by simpa using hk1
              rcases Classical.em (kd = 2) with hk2 | hk2
              · subst hk2
                by_cases hf : faultU nn (bytesF ts : Nat) bits = 0
                · as_aux_lemma =>
                    have HN1 := Lib.hid (ub_build_ok nn HXo.out hf)
                    go_wp2_with (first
                      | (go_at_call 13; (with_reducible refine HN1.out.mono ?_); rintro e w3 ⟨Av, nv, cv, D3, k3, rfl, hk3, hc3⟩; (have HN2 := Lib.hid (hc3 w3 (Below.refl _ _)); have HO3 := Lib.hid (hk3.other HOB.out xs_no.2.1); clear hk3 hc3 d0 d1 d2; obtain ⟨d0, d1, d2⟩ := op16_cells HO3.out))
                      | (go_at_call 21; (with_reducible refine HN2.out.mono ?_); rintro e w4 ⟨f4, A4, n4, c4, D4, dc4, rfl, hk4, ⟨ts4, E4, hq4, hl4⟩, ⟨xs, hxl, hxk, hs3, hs4⟩, bl, hrd, hwr⟩; (have HQ4 := Lib.hid hq4; have HL4 := Lib.hid hl4; have HX4 := Lib.hid (And.intro hxl hxk); have HS3 := Lib.hid hs3; have HS4 := Lib.hid hs4; have HRD := Lib.hid hrd; have HWT := Lib.hid hwr; clear hk4 hq4 hl4 hxl hxk hs3 hs4 hrd hwr d0 d1 d2)))
                    have HB4 := Lib.hid (bl_alloc (Below.refl w4.heap.size w4) (.cells #[.int .i64 f4, .int .i64 sn, .slice A4 n4 c4] 58))
                    have HQ5 := Lib.hid (HQ4.out.later HB4.out)
                    have HRW := Lib.hid (Row.made w4 58 #[.int .i64 f4, .int .i64 sn, .slice A4 n4 c4])
                    generalize (w4.alloc (.cells #[.int .i64 f4, .int .i64 sn, .slice A4 n4 c4] 58)) = wv at *
                    refine wp_region_noPanic ?_
                    refine wp_region_held_drew (S := fun W => Below wv.heap.size wv W) (by kernel_rfl) (bl_drew (Below.refl _ _)) (fun hS => ?_)
                    refine take_at 0 200 (v := ?v0) (by simp only [List.getElem?_toArray, List.getElem?_cons_zero]; rfl) rfl (by kernel_rfl) (by kernel_rfl) (by kernel_rfl) (fun _ _ _ h => h) (Or.inl ⟨by rfl, ?y0⟩) hS ?_
                    case y0 =>
                      intro W hSW
                      (try dsimp only at hSW)
                      go_simp
                      first | done | with_reducible rfl
                    simp only [Act.put, List.setIfInBounds_toArray, List.set_cons_zero, List.set_cons_succ]
                    refine take_at 1 201 (v := ?v1) (by simp only [List.getElem?_toArray, List.getElem?_cons_succ, List.getElem?_cons_zero]; rfl) rfl (by kernel_rfl) (by kernel_rfl) (by kernel_rfl) (fun _ _ _ h => h) (Or.inl ⟨by rfl, ?y1⟩) hS ?_
                    case y1 =>
                      intro W hSW
                      (try dsimp only at hSW)
                      go_simp
                      first | done | with_reducible rfl
                    simp only [Act.put, List.setIfInBounds_toArray, List.set_cons_zero, List.set_cons_succ]
                    refine take_at 2 202 (v := ?v2) (by simp only [List.getElem?_toArray, List.getElem?_cons_succ, List.getElem?_cons_zero]; rfl) rfl (by kernel_rfl) (by kernel_rfl) (by kernel_rfl) (fun _ _ _ h => h) (Or.inl ⟨by rfl, ?y2⟩) hS ?_
                    case y2 =>
                      intro W hSW
                      (try dsimp only at hSW)
                      go_simp
                      first | done | with_reducible rfl
                    simp only [Act.put, List.setIfInBounds_toArray, List.set_cons_zero, List.set_cons_succ]
                    refine take_at 3 203 (v := ?v3) (by simp only [List.getElem?_toArray, List.getElem?_cons_succ, List.getElem?_cons_zero]; rfl) rfl (by kernel_rfl) (by kernel_rfl) (by kernel_rfl) (fun _ _ _ h => h) (Or.inl ⟨by rfl, ?y3⟩) hS ?_
                    case y3 =>
                      intro W hSW
                      (try dsimp only at hSW)
                      go_simp
                      first | done | with_reducible rfl
                    simp only [Act.put, List.setIfInBounds_toArray, List.set_cons_zero, List.set_cons_succ]
                    refine take_at 4 204 (v := ?v4) (by simp only [List.getElem?_toArray, List.getElem?_cons_succ, List.getElem?_cons_zero]; rfl) rfl (by kernel_rfl) (by kernel_rfl) (by kernel_rfl) (fun _ _ _ h => h) (Or.inl ⟨by rfl, ?y4⟩) hS ?_
                    case y4 =>
                      intro W hSW
                      (try dsimp only at hSW)
                      go_simp
                      first | done | with_reducible rfl
                    simp only [Act.put, List.setIfInBounds_toArray, List.set_cons_zero, List.set_cons_succ]
                    refine take_at 5 205 (v := ?v5) (by simp only [List.getElem?_toArray, List.getElem?_cons_succ, List.getElem?_cons_zero]; rfl) rfl (by kernel_rfl) (by kernel_rfl) (by kernel_rfl) (fun _ _ _ h => h) (Or.inl ⟨by rfl, ?y5⟩) hS ?_
                    case y5 =>
                      intro W hSW
                      (try dsimp only at hSW)
                      go_simp
                      first | done | with_reducible rfl
                    simp only [Act.put, List.setIfInBounds_toArray, List.set_cons_zero, List.set_cons_succ]
                    refine wpAnyH_ready (rs := [6]) (by kernel_rfl) (by simp) ?_
                    refine AllReadyH.cons rfl (fun K hK => ?_) AllReadyH.nil
                    go_simp
                    refine (qsame16_any k3 dc4 xs _ HX4.out.1 (by have := HX4.out.2; omega) (HS3.out.later (bl_step HB4.out hS)) (HS4.out.later (bl_step HB4.out hS))).mono ?_
                    rintro e w5 ⟨rfl, hb5⟩
                    try go_simp
                    refine hK.out _ _ (bl_step hS hb5) (fun hS => ?_)
                    clear hK K
                    try simp only [Act.put, List.setIfInBounds_toArray, List.set_cons_zero, List.set_cons_succ]
                    have hBw5 : Below wv.heap.size wv w5 := hS
                    refine wpAnyH_more (S' := fun W => Below w5.heap.size w5 W) ?_ (fun _ h => bl_step hBw5 h)
                    clear hS
                    have hS : (fun W => Below w5.heap.size w5 W) w5 := Below.refl _ _
                    refine take_at 7 207 (v := ?v7) (by simp only [List.getElem?_toArray, List.getElem?_cons_succ, List.getElem?_cons_zero]; rfl) rfl (by kernel_rfl) (by kernel_rfl) (by kernel_rfl) (fun _ _ _ h => h) (Or.inl ⟨by rfl, ?y7⟩) hS ?_
                    case y7 =>
                      intro W hSW
                      (try dsimp only at hSW)
                      go_simp
                      first | done | with_reducible rfl
                    simp only [Act.put, List.setIfInBounds_toArray, List.set_cons_zero, List.set_cons_succ]
                    refine take_at 8 208 (v := ?v8) (by simp only [List.getElem?_toArray, List.getElem?_cons_succ, List.getElem?_cons_zero]; rfl) rfl (by kernel_rfl) (by kernel_rfl) (by kernel_rfl) (fun _ _ _ h => h) (Or.inl ⟨by rfl, ?y8⟩) hS ?_
                    case y8 =>
                      intro W hSW
                      (try dsimp only at hSW)
                      go_simp
                      first | done | with_reducible rfl
                    simp only [Act.put, List.setIfInBounds_toArray, List.set_cons_zero, List.set_cons_succ]
                    refine take_at 9 209 (v := ?v9) (by simp only [List.getElem?_toArray, List.getElem?_cons_succ, List.getElem?_cons_zero]; rfl) rfl (by kernel_rfl) (by kernel_rfl) (by kernel_rfl) (fun _ _ _ h => h) (Or.inl ⟨by rfl, ?y9⟩) hS ?_
                    case y9 =>
                      intro W hSW
                      (try dsimp only at hSW)
                      go_simp
                      first | done | with_reducible rfl
                    simp only [Act.put, List.setIfInBounds_toArray, List.set_cons_zero, List.set_cons_succ]
                    refine take_at 10 210 (v := ?v10) (by simp only [List.getElem?_toArray, List.getElem?_cons_succ, List.getElem?_cons_zero]; rfl) rfl (by kernel_rfl) (by kernel_rfl) (by kernel_rfl) (fun _ _ _ h => h) (Or.inl ⟨by rfl, ?y10⟩) hS ?_
                    case y10 =>
                      intro W hSW
                      (try dsimp only at hSW)
                      go_simp
                      first | done | with_reducible rfl
                    simp only [Act.put, List.setIfInBounds_toArray, List.set_cons_zero, List.set_cons_succ]
                    refine take_at 11 211 (v := ?v11) (by simp only [List.getElem?_toArray, List.getElem?_cons_succ, List.getElem?_cons_zero]; rfl) rfl (by kernel_rfl) (by kernel_rfl) (by kernel_rfl) (fun _ _ _ h => h) (Or.inl ⟨by rfl, ?y11⟩) hS ?_
                    case y11 =>
                      intro W hSW
                      (try dsimp only at hSW)
                      go_simp
                      first | done | with_reducible rfl
                    simp only [Act.put, List.setIfInBounds_toArray, List.set_cons_zero, List.set_cons_succ]
                    refine take_at 12 212 (v := undef) (by simp only [List.getElem?_toArray, List.getElem?_cons_succ, List.getElem?_cons_zero]; rfl) rfl (by kernel_rfl) (by kernel_rfl) (by kernel_rfl) (fun _ _ _ h => h) (Or.inr ⟨by rfl, rfl⟩) hS ?_
                    simp only [Act.put, List.setIfInBounds_toArray, List.set_cons_zero, List.set_cons_succ]
                    refine take_at 13 213 (v := undef) (by simp only [List.getElem?_toArray, List.getElem?_cons_succ, List.getElem?_cons_zero]; rfl) rfl (by kernel_rfl) (by kernel_rfl) (by kernel_rfl) (fun _ _ _ h => h) (Or.inr ⟨by rfl, rfl⟩) hS ?_
                    simp only [Act.put, List.setIfInBounds_toArray, List.set_cons_zero, List.set_cons_succ]
                    refine take_at 14 214 (v := undef) (by simp only [List.getElem?_toArray, List.getElem?_cons_succ, List.getElem?_cons_zero]; rfl) rfl (by kernel_rfl) (by kernel_rfl) (by kernel_rfl) (fun _ _ _ h => h) (Or.inr ⟨by rfl, rfl⟩) hS ?_
                    simp only [Act.put, List.setIfInBounds_toArray, List.set_cons_zero, List.set_cons_succ]
                    refine take_at 15 215 (v := ?v15) (by simp only [List.getElem?_toArray, List.getElem?_cons_succ, List.getElem?_cons_zero]; rfl) rfl (by kernel_rfl) (by kernel_rfl) (by kernel_rfl) (fun _ _ _ h => h) (Or.inl ⟨by rfl, ?y15⟩) hS ?_
                    case y15 =>
                      intro W hSW
                      (try dsimp only at hSW)
                      go_simp
                      first | done | with_reducible rfl
                    simp only [Act.put, List.setIfInBounds_toArray, List.set_cons_zero, List.set_cons_succ]
                    refine take_at 16 216 (v := ?v16) (by simp only [List.getElem?_toArray, List.getElem?_cons_succ, List.getElem?_cons_zero]; rfl) rfl (by kernel_rfl) (by kernel_rfl) (by kernel_rfl) (fun _ _ _ h => h) (Or.inl ⟨by rfl, ?y16⟩) hS ?_
                    case y16 =>
                      intro W hSW
                      (try dsimp only at hSW)
                      go_simp
                      first | done | with_reducible rfl
                    simp only [Act.put, List.setIfInBounds_toArray, List.set_cons_zero, List.set_cons_succ]
                    refine take_at 17 217 (v := ?v17) (by simp only [List.getElem?_toArray, List.getElem?_cons_succ, List.getElem?_cons_zero]; rfl) rfl (by kernel_rfl) (by kernel_rfl) (by kernel_rfl) (fun _ _ _ h => h) (Or.inl ⟨by rfl, ?y17⟩) hS ?_
                    case y17 =>
                      intro W hSW
                      (try dsimp only at hSW)
                      go_simp
                      first | done | with_reducible rfl
                    simp only [Act.put, List.setIfInBounds_toArray, List.set_cons_zero, List.set_cons_succ]
                    refine take_at 18 218 (v := ?v18) (by simp only [List.getElem?_toArray, List.getElem?_cons_succ, List.getElem?_cons_zero]; rfl) rfl (by kernel_rfl) (by kernel_rfl) (by kernel_rfl) (fun _ _ _ h => h) (Or.inl ⟨by rfl, ?y18⟩) hS ?_
                    case y18 =>
                      intro W hSW
                      (try dsimp only at hSW)
                      go_simp
                      first | done | with_reducible rfl
                    simp only [Act.put, List.setIfInBounds_toArray, List.set_cons_zero, List.set_cons_succ]
                    refine take_at 19 219 (v := ?v19) (by simp only [List.getElem?_toArray, List.getElem?_cons_succ, List.getElem?_cons_zero]; rfl) rfl (by kernel_rfl) (by kernel_rfl) (by kernel_rfl) (fun _ _ _ h => h) (Or.inl ⟨by rfl, ?y19⟩) hS ?_
                    case y19 =>
                      intro W hSW
                      (try dsimp only at hSW)
                      go_simp
                      first | done | with_reducible rfl
                    simp only [Act.put, List.setIfInBounds_toArray, List.set_cons_zero, List.set_cons_succ]
                    refine take_at 20 220 (v := ?v20) (by simp only [List.getElem?_toArray, List.getElem?_cons_succ, List.getElem?_cons_zero]; rfl) rfl (by kernel_rfl) (by kernel_rfl) (by kernel_rfl) (fun _ _ _ h => h) (Or.inl ⟨by rfl, ?y20⟩) hS ?_
                    case y20 =>
                      intro W hSW
                      (try dsimp only at hSW)
                      go_simp
                      first | done | with_reducible rfl
                    simp only [Act.put, List.setIfInBounds_toArray, List.set_cons_zero, List.set_cons_succ]
                    refine take_at 21 221 (v := ?v21) (by simp only [List.getElem?_toArray, List.getElem?_cons_succ, List.getElem?_cons_zero]; rfl) rfl (by kernel_rfl) (by kernel_rfl) (by kernel_rfl) (fun _ _ _ h => h) (Or.inl ⟨by rfl, ?y21⟩) hS ?_
                    case y21 =>
                      intro W hSW
                      (try dsimp only at hSW)
                      have r21 := HRD.out W (bl_step (bl_step HB4.out hBw5) hSW)
                      unfold ReadsU at r21
                      go_simp
                      first | done | with_reducible rfl
                    simp only [Act.put, List.setIfInBounds_toArray, List.set_cons_zero, List.set_cons_succ]
                    refine take_at 22 222 (v := ?v22) (by simp only [List.getElem?_toArray, List.getElem?_cons_succ, List.getElem?_cons_zero]; rfl) rfl (by kernel_rfl) (by kernel_rfl) (by kernel_rfl) (fun _ _ _ h => h) (Or.inl ⟨by rfl, ?y22⟩) hS ?_
                    case y22 =>
                      intro W hSW
                      (try dsimp only at hSW)
                      obtain ⟨r1, r2, r3⟩ := three_cells ((HRW.out.later hBw5).later hSW)
                      go_simp
                      first | done | with_reducible rfl
                    simp only [Act.put, List.setIfInBounds_toArray, List.set_cons_zero, List.set_cons_succ]
                    refine take_at 23 223 (v := ?v23) (by simp only [List.getElem?_toArray, List.getElem?_cons_succ, List.getElem?_cons_zero]; rfl) rfl (by kernel_rfl) (by kernel_rfl) (by kernel_rfl) (fun _ _ _ h => h) (Or.inl ⟨by rfl, ?y23⟩) hS ?_
                    case y23 =>
                      intro W hSW
                      (try dsimp only at hSW)
                      go_simp
                      first | done | with_reducible rfl
                    simp only [Act.put, List.setIfInBounds_toArray, List.set_cons_zero, List.set_cons_succ]
                    refine take_at 24 224 (v := ?v24) (by simp only [List.getElem?_toArray, List.getElem?_cons_succ, List.getElem?_cons_zero]; rfl) rfl (by kernel_rfl) (by kernel_rfl) (by kernel_rfl) (fun _ _ _ h => h) (Or.inl ⟨by rfl, ?y24⟩) hS ?_
                    case y24 =>
                      intro W hSW
                      (try dsimp only at hSW)
                      have r24 := (HWW.out _ ((HQ5.out.later hBw5).later hSW).us.bl).2.2
                      go_simp
                      first | done | with_reducible rfl
                    simp only [Act.put, List.setIfInBounds_toArray, List.set_cons_zero, List.set_cons_succ]
                    refine wpAnyH_ready (rs := [25]) (by kernel_rfl) (by simp) ?_
                    refine AllReadyH.cons rfl (fun K hK => ?_) AllReadyH.nil
                    go_simp
                    refine (HWT.out _ (bl_step (bl_step HB4.out hBw5) hS)).mono ?_
                    rintro e w6 ⟨v2, rfl, kc2, hb6⟩
                    try go_simp
                    refine hK.out _ _ (bl_step hS hb6) (fun hS => ?_)
                    clear hK K
                    try simp only [Act.put, List.setIfInBounds_toArray, List.set_cons_zero, List.set_cons_succ]
                    have hBw6 : Below w5.heap.size w5 w6 := hS
                    refine wpAnyH_more (S' := fun W => Below w6.heap.size w6 W) ?_ (fun _ h => bl_step hBw6 h)
                    clear hS
                    have hS : (fun W => Below w6.heap.size w6 W) w6 := Below.refl _ _
                    refine take_at 26 226 (v := ?v26) (by simp only [List.getElem?_toArray, List.getElem?_cons_succ, List.getElem?_cons_zero]; rfl) rfl (by kernel_rfl) (by kernel_rfl) (by kernel_rfl) (fun _ _ _ h => h) (Or.inl ⟨by rfl, ?y26⟩) hS ?_
                    case y26 =>
                      intro W hSW
                      (try dsimp only at hSW)
                      have r26 := kc2 W hSW
                      unfold ReadsU at r26
                      go_simp
                      first | done | with_reducible rfl
                    simp only [Act.put, List.setIfInBounds_toArray, List.set_cons_zero, List.set_cons_succ]
                    refine take_at 27 227 (v := ?v27) (by simp only [List.getElem?_toArray, List.getElem?_cons_succ, List.getElem?_cons_zero]; rfl) rfl (by kernel_rfl) (by kernel_rfl) (by kernel_rfl) (fun _ _ _ h => h) (Or.inl ⟨by rfl, ?y27⟩) hS ?_
                    case y27 =>
                      intro W hSW
                      (try dsimp only at hSW)
                      go_simp
                      first | done | with_reducible rfl
                    simp only [Act.put, List.setIfInBounds_toArray, List.set_cons_zero, List.set_cons_succ]
                    refine take_at 28 228 (v := ?v28) (by simp only [List.getElem?_toArray, List.getElem?_cons_succ, List.getElem?_cons_zero]; rfl) rfl (by kernel_rfl) (by kernel_rfl) (by kernel_rfl) (fun _ _ _ h => h) (Or.inl ⟨by rfl, ?y28⟩) hS ?_
                    case y28 =>
                      intro W hSW
                      (try dsimp only at hSW)
                      go_simp
                      first | done | with_reducible rfl
                    simp only [Act.put, List.setIfInBounds_toArray, List.set_cons_zero, List.set_cons_succ]
                    refine take_at 29 229 (v := ?v29) (by simp only [List.getElem?_toArray, List.getElem?_cons_succ, List.getElem?_cons_zero]; rfl) rfl (by kernel_rfl) (by kernel_rfl) (by kernel_rfl) (fun _ _ _ h => h) (Or.inl ⟨by rfl, ?y29⟩) hS ?_
                    case y29 =>
                      intro W hSW
                      (try dsimp only at hSW)
                      go_simp
                      first | done | with_reducible rfl
                    simp only [Act.put, List.setIfInBounds_toArray, List.set_cons_zero, List.set_cons_succ]
                    refine take_at 30 230 (v := ?v30) (by simp only [List.getElem?_toArray, List.getElem?_cons_succ, List.getElem?_cons_zero]; rfl) rfl (by kernel_rfl) (by kernel_rfl) (by kernel_rfl) (fun _ _ _ h => h) (Or.inl ⟨by rfl, ?y30⟩) hS ?_
                    case y30 =>
                      intro W hSW
                      (try dsimp only at hSW)
                      go_simp
                      first | done | with_reducible rfl
                    simp only [Act.put, List.setIfInBounds_toArray, List.set_cons_zero, List.set_cons_succ]
                    refine take_at 31 21 (v := ?v31) (by simp only [List.getElem?_toArray, List.getElem?_cons_succ, List.getElem?_cons_zero]; rfl) rfl (by kernel_rfl) (by kernel_rfl) (by kernel_rfl) (fun _ _ _ h => h) (Or.inl ⟨by rfl, ?y31⟩) hS ?_
                    case y31 =>
                      intro W hSW
                      (try dsimp only at hSW)
                      go_simp
                      first | done | with_reducible rfl
                    simp only [Act.put, List.setIfInBounds_toArray, List.set_cons_zero, List.set_cons_succ]
                    refine wpAnyH_done (by kernel_rfl) ?_ _
                    refine NoPanic.normal ?_
                    go_wp2
                    go_meet
                    exact ⟨_, _, ts4, E4, rfl, by simp, Lib.hid (((HQ5.out.later hBw5).later hBw6).later hS), Lib.hid (by have := HL4.out; have := HEi.out; omega)⟩
                · as_aux_lemma =>
                    have hcc := ub_build_no nn HXo.out hf
                    obtain ⟨er, her⟩ : ∃ er, faultU nn (bytesF ts : Nat) bits = er := ⟨_, rfl⟩
                    rw [her] at hcc hf
                    have he1 : (er == 0) = false := by simpa using hf
                    have he2 : (er != 0) = true := by simpa using hf
                    have HN1 := Lib.hid hcc
                    clear her hf hcc
                    go_wp2_with (first
                      | (go_at_call 13; (with_reducible refine HN1.out.mono ?_); rintro e w3 ⟨rfl, hb3, hc3⟩; (have HN2 := Lib.hid (hc3 w3 (Below.refl _ _)); have HB3 := Lib.hid hb3; clear d0 d1 d2; obtain ⟨d0, d1, d2⟩ := op16_cells (HOB.out.later hb3); clear hb3 hc3))
                      | (go_at_call 21; (with_reducible refine HN2.out.mono ?_); rintro e w4 ⟨rfl, hb4⟩; (have HB4 := Lib.hid hb4; clear hb4 d0 d1 d2)))
                    have HB4d := Lib.hid (bl_alloc (Below.refl w4.heap.size w4) (.cells #[.int .i64 0, .int .i64 0, .slice none 0 0] 58))
                    generalize (w4.alloc (.cells #[.int .i64 0, .int .i64 0, .slice none 0 0] 58)) = wv at *
                    refine wp_region_noPanic ?_
                    refine wp_region_held_drew (S := fun W => Below wv.heap.size wv W) (by kernel_rfl) (bl_drew (Below.refl _ _)) (fun hS => ?_)
                    refine take_at 0 200 (v := .int .i64 er) (by simp only [List.getElem?_toArray, List.getElem?_cons_zero]; rfl) rfl (by kernel_rfl) (by kernel_rfl) (by kernel_rfl) (fun _ _ _ h => h) (Or.inl ⟨by rfl, ?yn0⟩) hS ?_
                    case yn0 =>
                      intro W hSW
                      (try dsimp only at hSW)
                      go_simp
                      first | done | with_reducible rfl
                    simp only [Act.put, List.setIfInBounds_toArray, List.set_cons_zero, List.set_cons_succ]
                    refine take_at 1 201 (v := .int .i64 er) (by simp only [List.getElem?_toArray, List.getElem?_cons_succ, List.getElem?_cons_zero]; rfl) rfl (by kernel_rfl) (by kernel_rfl) (by kernel_rfl) (fun _ _ _ h => h) (Or.inl ⟨by rfl, ?yn1⟩) hS ?_
                    case yn1 =>
                      intro W hSW
                      (try dsimp only at hSW)
                      go_simp
                      first | done | with_reducible rfl
                    simp only [Act.put, List.setIfInBounds_toArray, List.set_cons_zero, List.set_cons_succ]
                    refine take_at 2 202 (v := .bool true) (by simp only [List.getElem?_toArray, List.getElem?_cons_succ, List.getElem?_cons_zero]; rfl) rfl (by kernel_rfl) (by kernel_rfl) (by kernel_rfl) (fun _ _ _ h => h) (Or.inl ⟨by rfl, ?yn2⟩) hS ?_
                    case yn2 =>
                      intro W hSW
                      (try dsimp only at hSW)
                      go_simp
                      first | done | with_reducible rfl
                    simp only [Act.put, List.setIfInBounds_toArray, List.set_cons_zero, List.set_cons_succ]
                    refine take_at 3 203 (v := ?vn3) (by simp only [List.getElem?_toArray, List.getElem?_cons_succ, List.getElem?_cons_zero]; rfl) rfl (by kernel_rfl) (by kernel_rfl) (by kernel_rfl) (fun _ _ _ h => h) (Or.inl ⟨by rfl, ?yn3⟩) hS ?_
                    case yn3 =>
                      intro W hSW
                      (try dsimp only at hSW)
                      go_simp
                      first | done | with_reducible rfl
                    simp only [Act.put, List.setIfInBounds_toArray, List.set_cons_zero, List.set_cons_succ]
                    refine take_at 4 204 (v := ?vn4) (by simp only [List.getElem?_toArray, List.getElem?_cons_succ, List.getElem?_cons_zero]; rfl) rfl (by kernel_rfl) (by kernel_rfl) (by kernel_rfl) (fun _ _ _ h => h) (Or.inl ⟨by rfl, ?yn4⟩) hS ?_
                    case yn4 =>
                      intro W hSW
                      (try dsimp only at hSW)
                      go_simp
                      first | done | with_reducible rfl
                    simp only [Act.put, List.setIfInBounds_toArray, List.set_cons_zero, List.set_cons_succ]
                    refine take_at 5 205 (v := ?vn5) (by simp only [List.getElem?_toArray, List.getElem?_cons_succ, List.getElem?_cons_zero]; rfl) rfl (by kernel_rfl) (by kernel_rfl) (by kernel_rfl) (fun _ _ _ h => h) (Or.inl ⟨by rfl, ?yn5⟩) hS ?_
                    case yn5 =>
                      intro W hSW
                      (try dsimp only at hSW)
                      go_simp
                      first | done | with_reducible rfl
                    simp only [Act.put, List.setIfInBounds_toArray, List.set_cons_zero, List.set_cons_succ]
                    refine wpAnyH_ready (rs := [6]) (by kernel_rfl) (by simp) ?_
                    refine AllReadyH.cons rfl (fun K hK => ?_) AllReadyH.nil
                    go_simp
                    refine (qsame16_any (A1 := none) (A2 := none) (B1 := 0) (B2 := 0) (n := 0) 0 0 [] _ rfl (by omega) (fun h => absurd rfl h) (fun h => absurd rfl h)).mono ?_
                    rintro e w5 ⟨rfl, hb5⟩
                    try go_simp
                    refine hK.out _ _ (bl_step hS hb5) (fun hS => ?_)
                    clear hK K
                    try simp only [Act.put, List.setIfInBounds_toArray, List.set_cons_zero, List.set_cons_succ]
                    have hBw5 : Below wv.heap.size wv w5 := hS
                    refine wpAnyH_more (S' := fun W => Below w5.heap.size w5 W) ?_ (fun _ h => bl_step hBw5 h)
                    clear hS
                    have hS : (fun W => Below w5.heap.size w5 W) w5 := Below.refl _ _
                    refine take_at 7 207 (v := ?vn7) (by simp only [List.getElem?_toArray, List.getElem?_cons_succ, List.getElem?_cons_zero]; rfl) rfl (by kernel_rfl) (by kernel_rfl) (by kernel_rfl) (fun _ _ _ h => h) (Or.inl ⟨by rfl, ?yn7⟩) hS ?_
                    case yn7 =>
                      intro W hSW
                      (try dsimp only at hSW)
                      go_simp
                      first | done | with_reducible rfl
                    simp only [Act.put, List.setIfInBounds_toArray, List.set_cons_zero, List.set_cons_succ]
                    refine take_at 8 208 (v := ?vn8) (by simp only [List.getElem?_toArray, List.getElem?_cons_succ, List.getElem?_cons_zero]; rfl) rfl (by kernel_rfl) (by kernel_rfl) (by kernel_rfl) (fun _ _ _ h => h) (Or.inl ⟨by rfl, ?yn8⟩) hS ?_
                    case yn8 =>
                      intro W hSW
                      (try dsimp only at hSW)
                      go_simp
                      first | done | with_reducible rfl
                    simp only [Act.put, List.setIfInBounds_toArray, List.set_cons_zero, List.set_cons_succ]
                    refine take_at 9 209 (v := .int .i64 er) (by simp only [List.getElem?_toArray, List.getElem?_cons_succ, List.getElem?_cons_zero]; rfl) rfl (by kernel_rfl) (by kernel_rfl) (by kernel_rfl) (fun _ _ _ h => h) (Or.inl ⟨by rfl, ?yn9⟩) hS ?_
                    case yn9 =>
                      intro W hSW
                      (try dsimp only at hSW)
                      go_simp
                      first | done | with_reducible rfl
                    simp only [Act.put, List.setIfInBounds_toArray, List.set_cons_zero, List.set_cons_succ]
                    refine take_at 10 210 (v := .bool true) (by simp only [List.getElem?_toArray, List.getElem?_cons_succ, List.getElem?_cons_zero]; rfl) rfl (by kernel_rfl) (by kernel_rfl) (by kernel_rfl) (fun _ _ _ h => h) (Or.inl ⟨by rfl, ?yn10⟩) hS ?_
                    case yn10 =>
                      intro W hSW
                      (try dsimp only at hSW)
                      go_simp
                      first | done | with_reducible rfl
                    simp only [Act.put, List.setIfInBounds_toArray, List.set_cons_zero, List.set_cons_succ]
                    refine take_at 11 211 (v := ?vn11) (by simp only [List.getElem?_toArray, List.getElem?_cons_succ, List.getElem?_cons_zero]; rfl) rfl (by kernel_rfl) (by kernel_rfl) (by kernel_rfl) (fun _ _ _ h => h) (Or.inl ⟨by rfl, ?yn11⟩) hS ?_
                    case yn11 =>
                      intro W hSW
                      (try dsimp only at hSW)
                      go_simp
                      first | done | with_reducible rfl
                    simp only [Act.put, List.setIfInBounds_toArray, List.set_cons_zero, List.set_cons_succ]
                    refine take_at 12 212 (v := ?vn12) (by simp only [List.getElem?_toArray, List.getElem?_cons_succ, List.getElem?_cons_zero]; rfl) rfl (by kernel_rfl) (by kernel_rfl) (by kernel_rfl) (fun _ _ _ h => h) (Or.inl ⟨by rfl, ?yn12⟩) hS ?_
                    case yn12 =>
                      intro W hSW
                      (try dsimp only at hSW)
                      go_simp
                      first | done | with_reducible rfl
                    simp only [Act.put, List.setIfInBounds_toArray, List.set_cons_zero, List.set_cons_succ]
                    refine take_at 13 213 (v := ?vn13) (by simp only [List.getElem?_toArray, List.getElem?_cons_succ, List.getElem?_cons_zero]; rfl) rfl (by kernel_rfl) (by kernel_rfl) (by kernel_rfl) (fun _ _ _ h => h) (Or.inl ⟨by rfl, ?yn13⟩) hS ?_
                    case yn13 =>
                      intro W hSW
                      (try dsimp only at hSW)
                      go_simp
                      first | done | with_reducible rfl
                    simp only [Act.put, List.setIfInBounds_toArray, List.set_cons_zero, List.set_cons_succ]
                    refine take_at 14 214 (v := ?vn14) (by simp only [List.getElem?_toArray, List.getElem?_cons_succ, List.getElem?_cons_zero]; rfl) rfl (by kernel_rfl) (by kernel_rfl) (by kernel_rfl) (fun _ _ _ h => h) (Or.inl ⟨by rfl, ?yn14⟩) hS ?_
                    case yn14 =>
                      intro W hSW
                      (try dsimp only at hSW)
                      go_simp
                      first | done | with_reducible rfl
                    simp only [Act.put, List.setIfInBounds_toArray, List.set_cons_zero, List.set_cons_succ]
                    refine take_at 15 215 (v := ?vn15) (by simp only [List.getElem?_toArray, List.getElem?_cons_succ, List.getElem?_cons_zero]; rfl) rfl (by kernel_rfl) (by kernel_rfl) (by kernel_rfl) (fun _ _ _ h => h) (Or.inl ⟨by rfl, ?yn15⟩) hS ?_
                    case yn15 =>
                      intro W hSW
                      (try dsimp only at hSW)
                      go_simp
                      first | done | with_reducible rfl
                    simp only [Act.put, List.setIfInBounds_toArray, List.set_cons_zero, List.set_cons_succ]
                    refine take_at 16 216 (v := ?vn16) (by simp only [List.getElem?_toArray, List.getElem?_cons_succ, List.getElem?_cons_zero]; rfl) rfl (by kernel_rfl) (by kernel_rfl) (by kernel_rfl) (fun _ _ _ h => h) (Or.inl ⟨by rfl, ?yn16⟩) hS ?_
                    case yn16 =>
                      intro W hSW
                      (try dsimp only at hSW)
                      go_simp
                      first | done | with_reducible rfl
                    simp only [Act.put, List.setIfInBounds_toArray, List.set_cons_zero, List.set_cons_succ]
                    refine take_at 17 217 (v := undef) (by simp only [List.getElem?_toArray, List.getElem?_cons_succ, List.getElem?_cons_zero]; rfl) rfl (by kernel_rfl) (by kernel_rfl) (by kernel_rfl) (fun _ _ _ h => h) (Or.inr ⟨by rfl, rfl⟩) hS ?_
                    simp only [Act.put, List.setIfInBounds_toArray, List.set_cons_zero, List.set_cons_succ]
                    refine take_at 18 218 (v := undef) (by simp only [List.getElem?_toArray, List.getElem?_cons_succ, List.getElem?_cons_zero]; rfl) rfl (by kernel_rfl) (by kernel_rfl) (by kernel_rfl) (fun _ _ _ h => h) (Or.inr ⟨by rfl, rfl⟩) hS ?_
                    simp only [Act.put, List.setIfInBounds_toArray, List.set_cons_zero, List.set_cons_succ]
                    refine take_at 19 219 (v := undef) (by simp only [List.getElem?_toArray, List.getElem?_cons_succ, List.getElem?_cons_zero]; rfl) rfl (by kernel_rfl) (by kernel_rfl) (by kernel_rfl) (fun _ _ _ h => h) (Or.inr ⟨by rfl, rfl⟩) hS ?_
                    simp only [Act.put, List.setIfInBounds_toArray, List.set_cons_zero, List.set_cons_succ]
                    refine take_at 20 220 (v := undef) (by simp only [List.getElem?_toArray, List.getElem?_cons_succ, List.getElem?_cons_zero]; rfl) rfl (by kernel_rfl) (by kernel_rfl) (by kernel_rfl) (fun _ _ _ h => h) (Or.inr ⟨by rfl, rfl⟩) hS ?_
                    simp only [Act.put, List.setIfInBounds_toArray, List.set_cons_zero, List.set_cons_succ]
                    refine take_at 21 221 (v := undef) (by simp only [List.getElem?_toArray, List.getElem?_cons_succ, List.getElem?_cons_zero]; rfl) rfl (by kernel_rfl) (by kernel_rfl) (by kernel_rfl) (fun _ _ _ h => h) (Or.inr ⟨by rfl, rfl⟩) hS ?_
                    simp only [Act.put, List.setIfInBounds_toArray, List.set_cons_zero, List.set_cons_succ]
                    refine take_at 22 222 (v := undef) (by simp only [List.getElem?_toArray, List.getElem?_cons_succ, List.getElem?_cons_zero]; rfl) rfl (by kernel_rfl) (by kernel_rfl) (by kernel_rfl) (fun _ _ _ h => h) (Or.inr ⟨by rfl, rfl⟩) hS ?_
                    simp only [Act.put, List.setIfInBounds_toArray, List.set_cons_zero, List.set_cons_succ]
                    refine take_at 23 223 (v := undef) (by simp only [List.getElem?_toArray, List.getElem?_cons_succ, List.getElem?_cons_zero]; rfl) rfl (by kernel_rfl) (by kernel_rfl) (by kernel_rfl) (fun _ _ _ h => h) (Or.inr ⟨by rfl, rfl⟩) hS ?_
                    simp only [Act.put, List.setIfInBounds_toArray, List.set_cons_zero, List.set_cons_succ]
                    refine take_at 24 224 (v := undef) (by simp only [List.getElem?_toArray, List.getElem?_cons_succ, List.getElem?_cons_zero]; rfl) rfl (by kernel_rfl) (by kernel_rfl) (by kernel_rfl) (fun _ _ _ h => h) (Or.inr ⟨by rfl, rfl⟩) hS ?_
                    simp only [Act.put, List.setIfInBounds_toArray, List.set_cons_zero, List.set_cons_succ]
                    refine take_at 25 225 (v := undef) (by simp only [List.getElem?_toArray, List.getElem?_cons_succ, List.getElem?_cons_zero]; rfl) rfl (by kernel_rfl) (by kernel_rfl) (by kernel_rfl) (fun _ _ _ h => h) (Or.inr ⟨by rfl, rfl⟩) hS ?_
                    simp only [Act.put, List.setIfInBounds_toArray, List.set_cons_zero, List.set_cons_succ]
                    refine take_at 26 226 (v := undef) (by simp only [List.getElem?_toArray, List.getElem?_cons_succ, List.getElem?_cons_zero]; rfl) rfl (by kernel_rfl) (by kernel_rfl) (by kernel_rfl) (fun _ _ _ h => h) (Or.inr ⟨by rfl, rfl⟩) hS ?_
                    simp only [Act.put, List.setIfInBounds_toArray, List.set_cons_zero, List.set_cons_succ]
                    refine take_at 27 227 (v := undef) (by simp only [List.getElem?_toArray, List.getElem?_cons_succ, List.getElem?_cons_zero]; rfl) rfl (by kernel_rfl) (by kernel_rfl) (by kernel_rfl) (fun _ _ _ h => h) (Or.inr ⟨by rfl, rfl⟩) hS ?_
                    simp only [Act.put, List.setIfInBounds_toArray, List.set_cons_zero, List.set_cons_succ]
                    refine take_at 28 228 (v := undef) (by simp only [List.getElem?_toArray, List.getElem?_cons_succ, List.getElem?_cons_zero]; rfl) rfl (by kernel_rfl) (by kernel_rfl) (by kernel_rfl) (fun _ _ _ h => h) (Or.inr ⟨by rfl, rfl⟩) hS ?_
                    simp only [Act.put, List.setIfInBounds_toArray, List.set_cons_zero, List.set_cons_succ]
                    refine take_at 29 229 (v := ?vn29) (by simp only [List.getElem?_toArray, List.getElem?_cons_succ, List.getElem?_cons_zero]; rfl) rfl (by kernel_rfl) (by kernel_rfl) (by kernel_rfl) (fun _ _ _ h => h) (Or.inl ⟨by rfl, ?yn29⟩) hS ?_
                    case yn29 =>
                      intro W hSW
                      (try dsimp only at hSW)
                      go_simp
                      first | done | with_reducible rfl
                    simp only [Act.put, List.setIfInBounds_toArray, List.set_cons_zero, List.set_cons_succ]
                    refine take_at 30 230 (v := ?vn30) (by simp only [List.getElem?_toArray, List.getElem?_cons_succ, List.getElem?_cons_zero]; rfl) rfl (by kernel_rfl) (by kernel_rfl) (by kernel_rfl) (fun _ _ _ h => h) (Or.inl ⟨by rfl, ?yn30⟩) hS ?_
                    case yn30 =>
                      intro W hSW
                      (try dsimp only at hSW)
                      go_simp
                      first | done | with_reducible rfl
                    simp only [Act.put, List.setIfInBounds_toArray, List.set_cons_zero, List.set_cons_succ]
                    refine take_at 31 21 (v := ?vn31) (by simp only [List.getElem?_toArray, List.getElem?_cons_succ, List.getElem?_cons_zero]; rfl) rfl (by kernel_rfl) (by kernel_rfl) (by kernel_rfl) (fun _ _ _ h => h) (Or.inl ⟨by rfl, ?yn31⟩) hS ?_
                    case yn31 =>
                      intro W hSW
                      (try dsimp only at hSW)
                      go_simp
                      first | done | with_reducible rfl
                    simp only [Act.put, List.setIfInBounds_toArray, List.set_cons_zero, List.set_cons_succ]
                    refine wpAnyH_done (by kernel_rfl) ?_ _
                    refine NoPanic.normal ?_
                    go_wp2
                    go_meet
                    exact ⟨_, sn, ts, E, rfl, by simp, Lib.hid (((((HXo.out.later HB3.out).later HB4.out).later HB4d.out).later hBw5).later hS), Lib.hid (by have := HEi.out; omega)⟩
              · have e2 : (kd == 2) = false := by simpa using hk2
                rcases Classical.em (kd = 3) with hk3 | hk3
                · subst hk3
                  as_aux_lemma =>
                    obtain ⟨wr9, hwr9, hrs9⟩ := ub_reset HXo.out
                    subst hwr9
                    have HN1 := Lib.hid (hrs9 _ (bl_drew (Below.refl _ _)))
                    have s2 := HXo.out.rs.read (i := 2) (x := .int .i64 sn) rfl
                    have f2 := HXo.out.rs.free 2
                    have k0 : (wq.setCell ⟨ys, 2, none⟩ (.int .i64 0)).drew.cell? ⟨ys, 0, none⟩ = some (.pointer (some ⟨y, 0, none⟩)) := (HXo.out.rs.written 2 _).drawn.read rfl
                    have HTL := Lib.hid HXo.out.us.qs.many
                    have hidv := idv_u64 ts
                    clear hrs9
                    go_wp2
                    go_region_held3 (fun w' => w'.cell? ⟨ys, 0, none⟩ = some (.pointer (some ⟨y, 0, none⟩))) (first | with_reducible exact k0 | with_reducible exact k1 | with_reducible exact k3 | with_reducible exact k5 | go_keep)
                      (first
                        | (go_at_call 17; (with_reducible refine HN1.out.mono ?_); rintro e w1 ⟨A1, rfl, hs1, hk1, hrow1, hc1⟩; (have HN2 := Lib.hid (hc1 w1 (Below.refl _ _)); have k1 : w1.cell? ⟨ys, 0, none⟩ = some (.pointer (some ⟨y, 0, none⟩)) := hrow1.read rfl; clear hs1 hk1 hrow1 hc1))
                        | (go_at_call 24; (with_reducible refine HN2.out.mono ?_); rintro e w3 ⟨A2, c2, rfl, hs3, hs3b, hk3, ts4, E4, hq4, hl4⟩; (have HQ4 := Lib.hid hq4; have HL4 := Lib.hid hl4; rw [hidv] at hs3 hs3b; have HSM := Lib.hid (qsame16_any (n := ts.length) ts.length c2 (ts.map Txt.id) w3 (by simp) (by have := HTL.out; omega) hs3b hs3); have k3 : w3.cell? ⟨ys, 0, none⟩ = some (.pointer (some ⟨y, 0, none⟩)) := hq4.rs.read rfl; clear hs3 hs3b hk3 hq4 hl4))
                        | (go_at_call 22; (with_reducible refine HSM.out.mono ?_); rintro e w5 ⟨rfl, hb5⟩; (have HB5 := Lib.hid hb5; have k5 : w5.cell? ⟨ys, 0, none⟩ = some (.pointer (some ⟨y, 0, none⟩)) := (HQ4.out.rs.later hb5).read rfl; clear hb5)))
                    go_wp2
                    go_meet
                    exact ⟨_, 0, ts4, E4, rfl, by simp, Lib.hid (HQ4.out.later HB5.out), Lib.hid (by have := HL4.out; have := HEi.out; omega)⟩
                · have e3 : (kd == 3) = false := by simpa using hk3
                  go_wp2
                  go_meet
                  exact ⟨_, sn, ts, E, rfl, rfl, HXo, Lib.hid (by have := HEi.out; omega)⟩
        case rest =>
          obtain ⟨wy, sn', ts', E', hwy, rfl, HXy, HEy⟩ := hcut
          subst hwy
          clear HXo HBr HWr HOB d0 d1 d2
          have HXd := Lib.hid (HXy.out.later (bl_drew (Below.refl _ _)))
          have HN1 := Lib.hid (ub_bytes HXd.out)
          have k0 : wy.drew.cell? ⟨ys, 0, none⟩ = some (.pointer (some ⟨y, 0, none⟩)) ∧ wy.drew.cell? ⟨ys, 2, none⟩ = some (.int .i64 sn') := ⟨HXd.out.rs.read rfl, HXd.out.rs.read rfl⟩
          go_wp2
          go_region_held3 (fun w' => w'.cell? ⟨ys, 0, none⟩ = some (.pointer (some ⟨y, 0, none⟩)) ∧ w'.cell? ⟨ys, 2, none⟩ = some (.int .i64 sn')) (first | with_reducible exact k0 | with_reducible exact k3 | with_reducible exact k4 | go_keep)
            (first
              | (go_at_call 15; (with_reducible refine HN1.out.mono ?_); rintro e w3 ⟨rfl, hb3, hc3⟩; (have HN2 := Lib.hid (hc3 w3 (Below.refl _ _)); have HX3 := Lib.hid (HXd.out.later hb3); have k3 : w3.cell? ⟨ys, 0, none⟩ = some (.pointer (some ⟨y, 0, none⟩)) ∧ w3.cell? ⟨ys, 2, none⟩ = some (.int .i64 sn') := ⟨HX3.out.rs.read rfl, HX3.out.rs.read rfl⟩; clear hb3 hc3))
              | (go_at_call 25; (with_reducible refine HN2.out.mono ?_); rintro e w4 ⟨rfl, hb4⟩; (have HX4 := Lib.hid (HX3.out.later hb4); have k4 : w4.cell? ⟨ys, 0, none⟩ = some (.pointer (some ⟨y, 0, none⟩)) ∧ w4.cell? ⟨ys, 2, none⟩ = some (.int .i64 sn') := ⟨HX4.out.rs.read rfl, HX4.out.rs.read rfl⟩; clear hb4))
              | (go_at_call 16; (with_reducible refine HX4.out.us.nx.mono ?_); rintro e _ ⟨rfl, rfl⟩))
          go_wp2
          go_roundw
          case rel => exact ⟨i + 1, sn', ts', E', by have := HI.out.2; omega, by have := HI.out.1; omega, by go_num, HX4, HEy⟩
          case measure => have := HI.out.2; simp [intOf]; omega
    · rcases Nat.lt_or_ge i n0 with hc | hc
      all_goals
        first
          | (have hi1 : (i : Int) < n0 := (by omega); have hi2 : ¬ (i : Int) < 80 := (by omega))
          | (have hi1 : ¬ (i : Int) < n0 := (by omega))
        clear hlt hc hi hin
        go_wp2_with (go_at_call 18; (with_reducible refine (HA.out _).mono ?_); rintro e w6 ⟨rfl, hb⟩; (have HB6 := Lib.hid hb; clear hb))
        go_ret
        exact ⟨rfl, by have h9 := HWr.out; rw [← hCB] at h9; exact bl_step h9 HB6.out⟩
end
end Go.Proofs.Ytjonkpdjhjobfaa
