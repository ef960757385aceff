/-
  PlainLives: the walk. pdu: how the configs that a statement draws read.
-/
import Derived.Test.YtbcjfdhphpckfaaJPlainLives27
import Derived.Test.YtbcjfdhphpckfaaJPlainLives26
import Derived.Test.YtbcjfdhphpckfaaJPlainLives28
import Derived.Deep.DeepCutAuto
import Derived.Deep.CutBlock
import Derived.Test.YtbcjfdhphpckfaaJPlainLives13
import Derived.Test.YtbcjfdhphpckfaaJPlainLives14
namespace Go.Proofs.Ytbcjfdhphpckfaa
open Go.RowKit Go.Maps

section
theorem zrow (w : World) : Row (w.alloc (.cells #[.int .i64 0, .int .i64 0, .int .i64 0, .int .i64 0, .int .i64 0, .int .i64 0, .int .i64 0, .int .i64 0, .int .i64 0, .int .i64 0, .pointer none] 101)) w.heap.size 101 (ECells ⟨0, 0, 0, 0, 0, 0, 0, 0, 0, 0⟩ (.pointer none)) := Row.made w _ _
theorem clear_nil9 {w : World} : Calls Try.prog 22 #[.pointer none] w fun e w1 => ∃ A, e = .returned (.slice A 0 0) ∧ (A = none ∧ w = w1) := (clear_nil w).mono (fun _ _ ⟨h1, h2⟩ => ⟨none, h1, rfl, h2⟩)
theorem not_xq_15 : ¬ XQ 106 := by unfold XQ; decide
theorem op15_cells {w : World} {g : Nat} {kd nn : Int} {x : Value} (h : Row w g 106 #[.int .i64 kd, .int .i64 nn, x]) : w.cell? ⟨g, 0, none⟩ = some (.int .i64 kd) ∧ w.cell? ⟨g, 1, none⟩ = some (.int .i64 nn) ∧ w.cell? ⟨g, 2, none⟩ = some x := ⟨h.read rfl, h.read rfl, h.read rfl⟩
theorem check_room {bits win reo prx pro ppd pby mrx qb : Int} (h : checkF ⟨0, bits, win, reo, prx, pro, ppd, pby, mrx, qb⟩ = 0) : 1 ≤ qb ∧ qb ≤ 20000 := by
  unfold checkF at h
  simp only [if_true] at h
  split at h
  · rename_i h1
    simp [qbB, limB, inB] at h1
    omega
  · cases h
set_option maxRecDepth 100000 in
set_option maxHeartbeats 3200000 in
theorem plives_bad {S : Value} (mode bits win reo prx pro ppd pby mrx qb : Int) (W : World) (hck : checkF ⟨mode, bits, win, reo, prx, pro, ppd, pby, mrx, qb⟩ ≠ 0) : Calls Try.prog 6 #[.agg (Cf.a ⟨mode, bits, win, reo, prx, pro, ppd, pby, mrx, qb⟩), S] W fun e w' => e = .returned (.bool true) ∧ Below W.heap.size W w' := by
  have HN := Lib.hid (fun V => enew_bad mode bits win reo prx pro ppd pby mrx qb V hck)
  have HC := Lib.hid (fun V => rcheck_any ⟨mode, bits, win, reo, prx, pro, ppd, pby, mrx, qb⟩ V)
  have HA := Lib.hid ealive_any
  generalize checkF ⟨mode, bits, win, reo, prx, pro, ppd, pby, mrx, qb⟩ = er at *
  have he1 : (er == 0) = false := by simpa using hck
  have he2 : (er != 0) = true := by simpa using hck
  clear hck
  unfold Cf.a at *
  have ROW := Lib.hid (Row.made W 94 #[.int .i64 mode, .int .i64 bits, .int .i64 win, .int .i64 reo, .int .i64 prx, .int .i64 pro, .int .i64 ppd, .int .i64 pby, .int .i64 mrx, .int .i64 qb])
  have HB0 := Lib.hid (bl_alloc (Below.refl W.heap.size W) (.cells #[.int .i64 mode, .int .i64 bits, .int .i64 win, .int .i64 reo, .int .i64 prx, .int .i64 pro, .int .i64 ppd, .int .i64 pby, .int .i64 mrx, .int .i64 qb] 94))
  obtain ⟨c0, c1, c2, c3, c4, c5, c6, c7, c8, c9⟩ := cells10 ROW.out
  go_enter Try.func6, Try.ntmps6
  go_wp2_with (first
    | (go_at_call 53; (with_reducible refine (HN.out _).mono ?_); rintro e w1 ⟨rfl, hb1⟩; (have HB1 := Lib.hid (bl_step HB0.out hb1); have ROW1 := Lib.hid (ROW.out.later hb1); clear hb1 c0 c1 c2 c3 c4 c5 c6 c7 c8 c9; obtain ⟨c0, c1, c2, c3, c4, c5, c6, c7, c8, c9⟩ := cells10 ROW1.out))
    | (go_at_call 54; (with_reducible refine (HC.out _).mono ?_); rintro e w2 ⟨rfl, hb2⟩; (
        have HB2 := Lib.hid (bl_step HB1.out hb2); have ROW2 := Lib.hid (ROW1.out.later hb2); clear hb2 c0 c1 c2 c3 c4 c5 c6 c7 c8 c9; obtain ⟨c0, c1, c2, c3, c4, c5, c6, c7, c8, c9⟩ := cells10 ROW2.out
        have HZ1 := Lib.hid (zrow w2)
        have HZ2 := Lib.hid (HZ1.out.more (.cells #[.int .u8 1] 5))
        have HZ3 := Lib.hid (HZ2.out.more (.cells #[.int .u8 1] 5))
        have HBZ := Lib.hid (bl_alloc (bl_alloc (bl_alloc (Below.refl w2.heap.size w2) (.cells #[.int .i64 0, .int .i64 0, .int .i64 0, .int .i64 0, .int .i64 0, .int .i64 0, .int .i64 0, .int .i64 0, .int .i64 0, .int .i64 0, .pointer none] 101)) (.cells #[.int .u8 1] 5)) (.cells #[.int .u8 1] 5))))
    | (go_at_call 55; (with_reducible refine (via_push (equeue_nil _) (push_nil _ _)).mono ?_); rintro e _ ⟨rfl, rfl⟩)
    | (go_at_call 56; (with_reducible refine (ebuild_of_none 1 (equeue_any HZ2.out)).mono ?_); rintro e _ ⟨rfl, rfl⟩)
    | (go_at_call 57; (with_reducible refine (ehear_of_none (equeue_nil _)).mono ?_); rintro e _ ⟨rfl, rfl⟩)
    | (go_at_call 56; (with_reducible refine (ebuild_of_none 1 (equeue_nil _)).mono ?_); rintro e _ ⟨rfl, rfl⟩)
    | (go_at_call 58; (with_reducible refine (via_disc (equeue_any HZ3.out) (discard_nil 1 _)).mono ?_); rintro e _ ⟨rfl, rfl⟩)
    | (go_at_call 59; (with_reducible refine (via_bytes (equeue_nil _) (qbytes_nil _)).mono ?_); rintro e _ ⟨rfl, rfl⟩)
    | (go_at_call 60; (with_reducible refine (via_clear (n := 0) (P := fun A w1 => A = none ∧ _ = w1) (equeue_any HZ3.out) clear_nil9).mono ?_); rintro e _ ⟨A9, rfl, rfl, rfl⟩)
    | (go_at_call 61; (with_reducible refine (HA.out _).mono ?_); rintro e w9 ⟨rfl, hb⟩; (have HB9 := Lib.hid hb; clear hb)))
  go_ret
  exact ⟨rfl, bl_step (bl_step HB2.out HBZ.out) HB9.out⟩
set_option maxRecDepth 100000 in
set_option maxHeartbeats 3200000 in
theorem plives_kind {S : Value} (mode bits win reo prx pro ppd pby mrx qb : Int) (W : World) (hck : checkF ⟨mode, bits, win, reo, prx, pro, ppd, pby, mrx, qb⟩ = 0) (hm : mode ≠ 0) : Calls Try.prog 6 #[.agg (Cf.a ⟨mode, bits, win, reo, prx, pro, ppd, pby, mrx, qb⟩), S] W fun e w' => e = .returned (.bool true) ∧ Below W.heap.size W w' := by
  have HN := Lib.hid (fun V => enew_kind mode bits win reo prx pro ppd pby mrx qb V hck hm)
  have HC := Lib.hid (fun V => rcheck_any ⟨mode, bits, win, reo, prx, pro, ppd, pby, mrx, qb⟩ V)
  have HA := Lib.hid ealive_any
  rw [hck] at HC
  have hm2 : (mode != 0) = true := by simpa using hm
  clear hck hm
  unfold Cf.a at *
  have ROW := Lib.hid (Row.made W 94 #[.int .i64 mode, .int .i64 bits, .int .i64 win, .int .i64 reo, .int .i64 prx, .int .i64 pro, .int .i64 ppd, .int .i64 pby, .int .i64 mrx, .int .i64 qb])
  have HB0 := Lib.hid (bl_alloc (Below.refl W.heap.size W) (.cells #[.int .i64 mode, .int .i64 bits, .int .i64 win, .int .i64 reo, .int .i64 prx, .int .i64 pro, .int .i64 ppd, .int .i64 pby, .int .i64 mrx, .int .i64 qb] 94))
  obtain ⟨c0, c1, c2, c3, c4, c5, c6, c7, c8, c9⟩ := cells10 ROW.out
  go_enter Try.func6, Try.ntmps6
  go_wp2_with (first
    | (go_at_call 53; (with_reducible refine (HN.out _).mono ?_); rintro e w1 ⟨rfl, hb1⟩; (have HB1 := Lib.hid (bl_step HB0.out hb1); have ROW1 := Lib.hid (ROW.out.later hb1); clear hb1 c0 c1 c2 c3 c4 c5 c6 c7 c8 c9; obtain ⟨c0, c1, c2, c3, c4, c5, c6, c7, c8, c9⟩ := cells10 ROW1.out))
    | (go_at_call 54; (with_reducible refine (HC.out _).mono ?_); rintro e w2 ⟨rfl, hb2⟩; (
        have HB2 := Lib.hid (bl_step HB1.out hb2); have ROW2 := Lib.hid (ROW1.out.later hb2); clear hb2 c0 c1 c2 c3 c4 c5 c6 c7 c8 c9; obtain ⟨c0, c1, c2, c3, c4, c5, c6, c7, c8, c9⟩ := cells10 ROW2.out
        have HZ1 := Lib.hid (zrow w2)
        have HZ2 := Lib.hid (HZ1.out.more (.cells #[.int .u8 1] 5))
        have HZ3 := Lib.hid (HZ2.out.more (.cells #[.int .u8 1] 5))
        have HBZ := Lib.hid (bl_alloc (bl_alloc (bl_alloc (Below.refl w2.heap.size w2) (.cells #[.int .i64 0, .int .i64 0, .int .i64 0, .int .i64 0, .int .i64 0, .int .i64 0, .int .i64 0, .int .i64 0, .int .i64 0, .int .i64 0, .pointer none] 101)) (.cells #[.int .u8 1] 5)) (.cells #[.int .u8 1] 5))))
    | (go_at_call 55; (with_reducible refine (via_push (equeue_nil _) (push_nil _ _)).mono ?_); rintro e _ ⟨rfl, rfl⟩)
    | (go_at_call 56; (with_reducible refine (ebuild_of_none 1 (equeue_any HZ2.out)).mono ?_); rintro e _ ⟨rfl, rfl⟩)
    | (go_at_call 57; (with_reducible refine (ehear_of_none (equeue_nil _)).mono ?_); rintro e _ ⟨rfl, rfl⟩)
    | (go_at_call 56; (with_reducible refine (ebuild_of_none 1 (equeue_nil _)).mono ?_); rintro e _ ⟨rfl, rfl⟩)
    | (go_at_call 58; (with_reducible refine (via_disc (equeue_any HZ3.out) (discard_nil 1 _)).mono ?_); rintro e _ ⟨rfl, rfl⟩)
    | (go_at_call 59; (with_reducible refine (via_bytes (equeue_nil _) (qbytes_nil _)).mono ?_); rintro e _ ⟨rfl, rfl⟩)
    | (go_at_call 60; (with_reducible refine (via_clear (n := 0) (P := fun A w1 => A = none ∧ _ = w1) (equeue_any HZ3.out) clear_nil9).mono ?_); rintro e _ ⟨A9, rfl, rfl, rfl⟩)
    | (go_at_call 61; (with_reducible refine (HA.out _).mono ?_); rintro e w9 ⟨rfl, hb⟩; (have HB9 := Lib.hid hb; clear hb)))
  go_ret
  exact ⟨rfl, bl_step (bl_step HB2.out HBZ.out) HB9.out⟩
set_option maxRecDepth 100000 in
set_option maxHeartbeats 25600000 in
theorem plives_ok (A0 : Option Addr) (n0 c0_ : Nat) (l0 : List OpB) (bits win reo prx pro ppd pby mrx qb : Int) (W : World) (hck : checkF ⟨0, bits, win, reo, prx, pro, ppd, pby, mrx, qb⟩ = 0) (hl0 : l0.length = n0) (hm0 : n0 ≤ 9223372036854775807) (hs0 : BSrc15 W A0 l0) :
    Calls Try.prog 6 #[.agg (Cf.a ⟨0, bits, win, reo, prx, pro, ppd, pby, mrx, qb⟩), .slice A0 n0 c0_] W fun e w' => e = .returned (.bool true) ∧ Below W.heap.size W w' := by
  obtain ⟨h1, h2⟩ := check_room hck
  have HN := Lib.hid (fun V => enew_ok bits win reo prx pro ppd pby mrx qb V hck h1 h2)
  have HC := Lib.hid (fun V => rcheck_any ⟨0, bits, win, reo, prx, pro, ppd, pby, mrx, qb⟩ V)
  rw [hck] at HC
  have HCK := Lib.hid hck
  have HA := Lib.hid ealive_any
  have HS0 := Lib.hid hs0
  have HL0 := Lib.hid hl0
  have HQB := Lib.hid (And.intro h1 h2)
  clear hs0 hl0 hck h1 h2
  unfold Cf.a at *
  have ROW := Lib.hid (Row.made W 94 #[.int .i64 0, .int .i64 bits, .int .i64 win, .int .i64 reo, .int .i64 prx, .int .i64 pro, .int .i64 ppd, .int .i64 pby, .int .i64 mrx, .int .i64 qb])
  have HB0 := Lib.hid (bl_alloc (Below.refl W.heap.size W) (.cells #[.int .i64 0, .int .i64 bits, .int .i64 win, .int .i64 reo, .int .i64 prx, .int .i64 pro, .int .i64 ppd, .int .i64 pby, .int .i64 mrx, .int .i64 qb] 94))
  obtain ⟨c0, c1, c2, c3, c4, c5, c6, c7, c8, c9⟩ := cells10 ROW.out
  go_enter Try.func6, Try.ntmps6
  go_upto_region 1 with fail
  generalize hW0 : W.alloc (.cells #[.int .i64 0, .int .i64 bits, .int .i64 win, .int .i64 reo, .int .i64 prx, .int .i64 pro, .int .i64 ppd, .int .i64 pby, .int .i64 mrx, .int .i64 qb] 94) = W0 at *
  generalize hBB : W0.heap.size = B at *
  go_upto_region 17 with (first
    | (go_at_call 53; (with_reducible refine (HN.out _).mono ?_); rintro e w1 ⟨x, q, rfl, hx1, hq1, hb1, hxx⟩; (rw [hBB] at hq1; have HX1 := Lib.hid hx1; have HQ1 := Lib.hid hq1; have HB1 := Lib.hid (bl_step HB0.out hb1); have ROW1 := Lib.hid (ROW.out.later hb1); clear hb1 hx1 hq1 hxx c0 c1 c2 c3 c4 c5 c6 c7 c8 c9; obtain ⟨c0, c1, c2, c3, c4, c5, c6, c7, c8, c9⟩ := cells10 ROW1.out))
    | (go_at_call 54; (with_reducible refine (HC.out _).mono ?_); rintro e w2 ⟨rfl, hb2⟩; (
        have HX2 := Lib.hid (HX1.out.later hb2); have HQ2 := Lib.hid (HQ1.out.later hb2)
        have HB2 := Lib.hid (bl_step HB1.out hb2); have ROW2 := Lib.hid (ROW1.out.later hb2); clear hb2 c0 c1 c2 c3 c4 c5 c6 c7 c8 c9; obtain ⟨c0, c1, c2, c3, c4, c5, c6, c7, c8, c9⟩ := cells10 ROW2.out
        have HZ1 := Lib.hid (zrow w2)
        have HZ2 := Lib.hid (HZ1.out.more (.cells #[.int .u8 1] 5))
        have HZ3 := Lib.hid (HZ2.out.more (.cells #[.int .u8 1] 5))
        have HBZ := Lib.hid (bl_alloc (bl_alloc (bl_alloc (Below.refl w2.heap.size w2) (.cells #[.int .i64 0, .int .i64 0, .int .i64 0, .int .i64 0, .int .i64 0, .int .i64 0, .int .i64 0, .int .i64 0, .int .i64 0, .int .i64 0, .pointer none] 101)) (.cells #[.int .u8 1] 5)) (.cells #[.int .u8 1] 5))))
    | (go_at_call 55; (with_reducible refine (via_push (equeue_nil _) (push_nil _ _)).mono ?_); rintro e _ ⟨rfl, rfl⟩)
    | (go_at_call 56; (with_reducible refine (ebuild_of_none 1 (equeue_any HZ2.out)).mono ?_); rintro e _ ⟨rfl, rfl⟩)
    | (go_at_call 57; (with_reducible refine (ehear_of_none (equeue_nil _)).mono ?_); rintro e _ ⟨rfl, rfl⟩)
    | (go_at_call 56; (with_reducible refine (ebuild_of_none 1 (equeue_nil _)).mono ?_); rintro e _ ⟨rfl, rfl⟩)
    | (go_at_call 58; (with_reducible refine (via_disc (equeue_any HZ3.out) (discard_nil 1 _)).mono ?_); rintro e _ ⟨rfl, rfl⟩)
    | (go_at_call 59; (with_reducible refine (via_bytes (equeue_nil _) (qbytes_nil _)).mono ?_); rintro e _ ⟨rfl, rfl⟩)
    | (go_at_call 60; (with_reducible refine (via_clear (n := 0) (P := fun A w1 => A = none ∧ _ = w1) (equeue_any HZ3.out) clear_nil9).mono ?_); rintro e _ ⟨A9, rfl, rfl, rfl⟩))
  have HX3 := Lib.hid (HX2.out.later HBZ.out)
  have HQ3 := Lib.hid (HQ2.out.later HBZ.out)
  have HB3 := Lib.hid (bl_step HB2.out HBZ.out)
  have ROW3 := Lib.hid (ROW2.out.later HBZ.out)
  generalize hWZ : ((w2.alloc (.cells #[.int .i64 0, .int .i64 0, .int .i64 0, .int .i64 0, .int .i64 0, .int .i64 0, .int .i64 0, .int .i64 0, .int .i64 0, .int .i64 0, .pointer none] 101)).alloc (.cells #[.int .u8 1] 5)).alloc (.cells #[.int .u8 1] 5) = wz at *
  clear hWZ HZ1 HZ2 HZ3 HBZ c0 c1 c2 c3 c4 c5 c6 c7 c8 c9
  obtain ⟨c0, c1, c2, c3, c4, c5, c6, c7, c8, c9⟩ := cells10 ROW3.out
  have HBW : Hid (W.heap.size ≤ B) := Lib.hid (by rw [← hBB]; exact HB0.out.size)
  have hBz : B ≤ wz.heap.size := HQ3.out.2.1
  have HPB : Hid (PB (wz.alloc (.cells #[.int .i64 qb, .slice none 0 0, .slice none 0 0, .slice none 0 0] 33)) x q wz.heap.size B qb ⟨0, bits, win, reo, prx, pro, ppd, pby, mrx, qb⟩ [] []) := Lib.hid ⟨both_qnew HQ3.out HQB.out.1 HQB.out.2 hBz, HX3.out.later (bl_alloc (Below.refl _ _) _)⟩
  have HBY := Lib.hid (bl_alloc HB3.out (.cells #[.int .i64 qb, .slice none 0 0, .slice none 0 0, .slice none 0 0] 33))
  go_wp2
  clear c0 c1 c2 c3 c4 c5 c6 c7 c8 c9
  generalize hWY : wz.alloc (.cells #[.int .i64 qb, .slice none 0 0, .slice none 0 0, .slice none 0 0] 33) = wy at *
  generalize hY : wz.heap.size = y at *
  clear hWY hY hBz hBB hW0
  go_loopw [21] (fun s21 wr => ∃ (i : Nat) (ts : List Txt) (E : List Ent), i ≤ 60 ∧ i ≤ n0 ∧ s21 = .int .i64 i ∧ Hid (PB wr x q y B qb ⟨0, bits, win, reo, prx, pro, ppd, pby, mrx, qb⟩ ts E) ∧ Hid (E.length ≤ i) ∧ Hid (Below W.heap.size W wr)) (fun s21 _ => 60 - (intOf s21).toNat)
  case atStart => exact ⟨0, [], [], by omega, by omega, rfl, HPB, Lib.hid (by simp), HBY⟩
  case round =>
    obtain ⟨i, ts, E, hi, hin, rfl, HBr, HEi, HWr⟩ := hrel
    by_cases hlt : i < n0 ∧ i < 60
    · obtain ⟨hlt1, hlt2⟩ := hlt
      have hi1 : (i : Int) < n0 := by omega
      have hi2 : (i : Int) < 60 := by omega
      have hi0 : (0 : Int) ≤ i := by omega
      have HI := Lib.hid (And.intro hlt1 hlt2)
      obtain ⟨o, ho⟩ : ∃ o, l0[i]? = some o := ⟨_, List.getElem?_eq_getElem (by rw [HL0.out]; exact hlt1)⟩
      obtain ⟨bq, off, rfl, hq⟩ := HS0.out (by rw [HL0.out]; omega)
      obtain ⟨q0, q1, q2, q3⟩ := hq i o ho
      have z0 := kept_box HWr.out q0
      have z1 := kept_box HWr.out q1
      have z2 := kept_box HWr.out q2
      obtain ⟨kd, nn, rb⟩ := o
      obtain ⟨A3, c3, l3⟩ := rb
      simp only [RowB.v] at z0 z1 z2 q3
      have HR3 := Lib.hid q3
      obtain ⟨n3, hn3⟩ : ∃ n3, l3.length = n3 := ⟨_, rfl⟩
      rw [hn3] at z2
      have HN3 := Lib.hid hn3
      have HOB := Lib.hid (Row.made wr 106 #[.int .i64 kd, .int .i64 nn, .slice A3 n3 c3])
      have HXo := Lib.hid (HBr.out.later (bl_alloc (Below.refl _ _) (.cells #[.int .i64 kd, .int .i64 nn, .slice A3 n3 c3] 106)))
      have HWo := Lib.hid (bl_alloc HWr.out (.cells #[.int .i64 kd, .int .i64 nn, .slice A3 n3 c3] 106))
      clear ho hq q0 q1 q2 q3 hlt1 hlt2 hi hin hn3
      go_upto_region 22 with fail
      generalize hQ : (wr.alloc (.cells #[.int .i64 kd, .int .i64 nn, .slice A3 n3 c3] 106)) = wq at *
      clear hQ
      generalize hOO : wr.heap.size = oo at *
      clear hOO z0 z1 z2
      obtain ⟨d0, d1, d2⟩ := op15_cells HOB.out
      by_cases hlong : 1100 < n3
      · have hl1 : (1100 : Int) < n3 := by omega
        go_wp2_with (go_at_call 61; (with_reducible refine (HA.out _).mono ?_); rintro e w3 ⟨rfl, hb⟩; (have HB9 := Lib.hid hb; clear hb))
        go_ret
        exact ⟨rfl, bl_step HWo.out HB9.out⟩
      · have hl1 : ¬ (1100 : Int) < n3 := by omega
        clear hlong
        go_upto_block 2 with fail
        go_cut [23] (fun s23 wx => ∃ (wy : World) (ts' : List Txt) (E' : List Ent), wy = wx ∧ s23 = .bool true ∧ Hid (PB wy x q y B qb ⟨0, bits, win, reo, prx, pro, ppd, pby, mrx, qb⟩ ts' E') ∧ Hid (E'.length ≤ i + 1) ∧ Hid (Below W.heap.size W wy))
        case first =>
          rcases Classical.em (kd = 0) with hk0 | hk0
          · subst hk0
            obtain ⟨nid, er, hcc⟩ := pb_push A3 l3 c3 HXo.out (by have := HEi.out; have := HI.out.2; omega) (Nat.le_trans HR3.out.2.1 HR3.out.2.2.1) HR3.out.2.2.2 (fun W' hk => (src_qsrc HR3.out.1).later (HWo.out.trans (hk.below.mono HBW.out)))
            rw [HN3.out] at hcc
            have HN1 := Lib.hid hcc
            clear hcc
            go_wp2_with (first
              | (go_at_call 55; (with_reducible refine HN1.out.mono ?_); rintro e w3 ⟨rfl, hk3, hc3⟩; (have HK3 := Lib.hid hk3; have HN2 := Lib.hid hc3; have HO3 := Lib.hid (hk3.other HOB.out not_xq_15); clear hk3 hc3 d0 d1 d2; obtain ⟨d0, d1, d2⟩ := op15_cells HO3.out))
              | (go_at_call 16; (with_reducible refine HN2.out.mono ?_); rintro e w4 ⟨rfl, hk4, ts4, E4, hq4, hl4⟩; (have HK4 := Lib.hid hk4; have HQ4 := Lib.hid hq4; have HL4 := Lib.hid hl4; clear hk4 hq4 hl4 d0 d1 d2)))
            go_meet
            exact ⟨_, ts4, E4, rfl, by simp, HQ4, Lib.hid (by have := HL4.out; have := HEi.out; omega), Lib.hid ((HWo.out.trans (HK3.out.below.mono HBW.out)).trans (HK4.out.below.mono HBW.out))⟩
          · have e0 : (kd == 0) = false := by simpa using hk0
            rcases Classical.em (kd = 1) with hk1 | hk1
            · subst hk1
              by_cases hneg : nn < 0
              · go_wp2
                go_quiet (fail)
                go_wp2
                go_meet
                exact ⟨_, ts, E, rfl, by simp, Lib.hid (HXo.out.later (below_drewN (Below.refl _ _) _)), Lib.hid (by have := HEi.out; omega), Lib.hid (below_drewN HWo.out _)⟩
              · have hd : decide (nn < 0) = false := by simpa using hneg
                obtain ⟨n, hwn, hn64⟩ : ∃ n : Nat, IntKind.u64.wrap nn = (n : Int) ∧ n < 18446744073709551616 := ⟨(IntKind.u64.wrap nn).toNat, by rw [IntKind.wrap_u64]; omega, by rw [IntKind.wrap_u64]; omega⟩
                obtain ⟨er, hcc⟩ := pb_disc (HXo.out.later (bl_drew (Below.refl _ _))) n hn64
                rw [← hwn] at hcc
                clear hwn hn64
                have HN1 := Lib.hid hcc
                have k0 : wq.drew.cell? ⟨oo, 1, none⟩ = some (.int .i64 nn) := HOB.out.drawn.read rfl
                have HXd := Lib.hid (HXo.out.later (bl_drew (Below.refl _ _)))
                have HWd := Lib.hid (bl_drew HWo.out)
                clear hcc
                go_wp2
                go_region_held3 (fun w' => w'.cell? ⟨oo, 1, none⟩ = some (.int .i64 nn)) (first | with_reducible exact k0 | exact HO3.out.read rfl | exact HO4.out.read rfl | go_keep)
                  (first
                    | (go_at_call 58; (with_reducible refine HN1.out.mono ?_); rintro e w3 ⟨rfl, hk3, hc3⟩; (have HK3 := Lib.hid hk3; have HN2 := Lib.hid hc3; have HO3 := Lib.hid (hk3.other HOB.out.drawn not_xq_15); clear hk3 hc3))
                    | (go_at_call 20; (with_reducible refine HN2.out.mono ?_); rintro e w4 ⟨rfl, hk4, ts4, E4, hq4, hl4⟩; (have HK4 := Lib.hid hk4; have HQ4 := Lib.hid hq4; have HL4 := Lib.hid hl4; have HO4 := Lib.hid (hk4.other HO3.out not_xq_15); clear hk4 hq4 hl4)))
                go_wp2
                go_meet
                exact ⟨_, ts4, E4, rfl, by simp, HQ4, Lib.hid (by have := HL4.out; have := HEi.out; omega), Lib.hid ((HWd.out.trans (HK3.out.below.mono HBW.out)).trans (HK4.out.below.mono HBW.out))⟩
            · have e1 : (kd == 1) = false := by simpa using hk1
              rcases Classical.em (kd = 2) with hk2 | hk2
              · subst hk2
                have HN1 := Lib.hid (pb_build HXo.out nn)
                go_wp2_with (first
                  | (go_at_call 56; (with_reducible refine HN1.out.mono ?_); rintro e w3 ⟨a1, id, er, rfl, hk3, hc3⟩; (have HK3 := Lib.hid hk3; have HN2 := Lib.hid hc3; have HO3 := Lib.hid (hk3.other HOB.out not_xq_15); clear hk3 hc3 d0 d1 d2; obtain ⟨d0, d1, d2⟩ := op15_cells HO3.out))
                  | (go_at_call 62; (with_reducible refine HN2.out.mono ?_); rintro e w4 ⟨a2, l9, rfl, hk4, ⟨ts4, E4, hq4, hl4⟩, kc1, kc2⟩; (have HK4 := Lib.hid hk4; have HQ4 := Lib.hid hq4; have HL4 := Lib.hid hl4; unfold Reads at kc1 kc2; clear hk4 hq4 hl4 d0 d1 d2)))
                go_meet
                exact ⟨_, ts4, E4, rfl, by simp, HQ4, Lib.hid (by have := HL4.out; have := HEi.out; omega), Lib.hid ((HWo.out.trans (HK3.out.below.mono HBW.out)).trans (HK4.out.below.mono HBW.out))⟩
              · have e2 : (kd == 2) = false := by simpa using hk2
                rcases Classical.em (kd = 3) with hk3 | hk3
                · subst hk3
                  have HN1 := Lib.hid (pb_hear bits win reo prx pro ppd pby mrx qb n3 c3 HXo.out HCK.out HN3.out (src_later HR3.out.1 HWo.out) HR3.out.2.2.2)
                  go_wp2_with (first
                    | (go_at_call 57; (with_reducible refine HN1.out.mono ?_); rintro e w3 ⟨a1, er, rfl, hb3, hc3⟩; (have HB3 := Lib.hid hb3; have HN2 := Lib.hid hc3; have HO3 := Lib.hid (HOB.out.later hb3); clear hb3 hc3 d0 d1 d2; obtain ⟨d0, d1, d2⟩ := op15_cells HO3.out))
                    | (go_at_call 63; (with_reducible refine HN2.out.mono ?_); rintro e _ ⟨a2, l9, rfl, rfl, kc1, kc2⟩; (unfold Reads at kc1 kc2; clear d0 d1 d2)))
                  go_meet
                  exact ⟨_, ts, E, rfl, by simp, Lib.hid (HXo.out.later HB3.out), Lib.hid (by have := HEi.out; omega), Lib.hid (bl_step HWo.out HB3.out)⟩
                · have e3 : (kd == 3) = false := by simpa using hk3
                  rcases Classical.em (kd = 4) with hk4 | hk4
                  · subst hk4
                    have HN1 := Lib.hid (pb_reset HXo.out)
                    go_wp2_with (first
                      | (go_at_call 60; (with_reducible refine HN1.out.mono ?_); rintro e w3 ⟨A8, rfl, hk3, hc3⟩; (have HK3 := Lib.hid hk3; have HN2 := Lib.hid hc3; clear hk3 hc3))
                      | (go_at_call 23; (with_reducible refine HN2.out.mono ?_); rintro e w4 ⟨A9, c9, rfl, hk4, ts4, E4, hq4, hl4⟩; (have HK4 := Lib.hid hk4; have HQ4 := Lib.hid hq4; have HL4 := Lib.hid hl4; clear hk4 hq4 hl4)))
                    go_meet
                    exact ⟨_, ts4, E4, rfl, by simp, HQ4, Lib.hid (by have := HL4.out; have := HEi.out; omega), Lib.hid ((HWo.out.trans (HK3.out.below.mono HBW.out)).trans (HK4.out.below.mono HBW.out))⟩
                  · have e4 : (kd == 4) = false := by simpa using hk4
                    go_wp2
                    go_meet
                    exact ⟨_, ts, E, rfl, rfl, HXo, Lib.hid (by have := HEi.out; omega), HWo⟩
        case rest =>
          obtain ⟨wy, ts', E', hwy, rfl, HXy, HEy, HWy⟩ := hcut
          subst hwy
          clear HXo HWo HBr HWr HOB d0 d1 d2
          have HN1 := Lib.hid (pb_bytes HXy.out)
          go_wp2_with (first
            | (go_at_call 59; (with_reducible refine HN1.out.mono ?_); rintro e w3 ⟨rfl, hk3, hc3⟩; (have HK3 := Lib.hid hk3; have HN2 := Lib.hid hc3; clear hk3 hc3))
            | (go_at_call 27; (with_reducible refine HN2.out.mono ?_); rintro e w4 ⟨rfl, hk4, hq4⟩; (have HK4 := Lib.hid hk4; have HQ4 := Lib.hid hq4; clear hk4 hq4)))
          go_roundw
          case rel => exact ⟨i + 1, ts', E', by have := HI.out.2; omega, by have := HI.out.1; omega, by go_num, HQ4, HEy, Lib.hid ((HWy.out.trans (HK3.out.below.mono HBW.out)).trans (HK4.out.below.mono HBW.out))⟩
          case measure => have := HI.out.2; simp [intOf]; omega
    · rcases Nat.lt_or_ge i n0 with hc | hc
      all_goals
        first
          | (have hi1 : (i : Int) < n0 := (by omega); have hi2 : ¬ (i : Int) < 60 := (by omega))
          | (have hi1 : ¬ (i : Int) < n0 := (by omega))
        clear hlt hc hi hin
        go_wp2_with (go_at_call 61; (with_reducible refine (HA.out _).mono ?_); rintro e w6 ⟨rfl, hb⟩; (have HB6 := Lib.hid hb; clear hb))
        go_ret
        exact ⟨rfl, bl_step HWr.out HB6.out⟩
theorem plives_every (A0 : Option Addr) (n0 c0 : Nat) (l0 : List OpB) (c : Cf) (W : World) (hl0 : l0.length = n0) (hm0 : n0 ≤ 9223372036854775807) (hs0 : BSrc15 W A0 l0) :
    Calls Try.prog 6 #[.agg c.a, .slice A0 n0 c0] W fun e w' => e = .returned (.bool true) ∧ Below W.heap.size W w' := by
  obtain ⟨mode, bits, win, reo, prx, pro, ppd, pby, mrx, qb⟩ := c
  by_cases h : checkF ⟨mode, bits, win, reo, prx, pro, ppd, pby, mrx, qb⟩ = 0
  · by_cases hm : mode = 0
    · subst hm
      exact plives_ok A0 n0 c0 l0 bits win reo prx pro ppd pby mrx qb W h hl0 hm0 hs0
    · exact plives_kind mode bits win reo prx pro ppd pby mrx qb W h hm
  · exact plives_bad mode bits win reo prx pro ppd pby mrx qb W h
end
end Go.Proofs.Ytbcjfdhphpckfaa
namespace Go.Proofs.Ytbcjfdhphpckfaa
open Go.ChangeShapes Go.WideShapes Go.ChangeAt Go.RowKit Go.Deep

set_option maxRecDepth 100000 in
theorem config_arg {H : Type} {enc : TypeId × Value → H} {W : World} {base : Nat} {v : Value} {d : DataW H} {p : List MemPlace} (hok : Value.okWide Try.prog W .any base 94 v)
    (h : DataW.Trod enc Try.prog W 0 (fun _ => true) true 94 v d p) : ∃ c : Cf, v = .agg c.a := by
  obtain ⟨cs, rfl, hsz, n, hf⟩ := st_agg_field Try.underlying94 (by kernel_rfl) (by kernel_rfl) hok h
  obtain ⟨x0, y0, e0, h0⟩ := hf 0 _ rfl
  obtain ⟨x1, y1, e1, h1⟩ := hf 1 _ rfl
  obtain ⟨x2, y2, e2, h2⟩ := hf 2 _ rfl
  obtain ⟨x3, y3, e3, h3⟩ := hf 3 _ rfl
  obtain ⟨x4, y4, e4, h4⟩ := hf 4 _ rfl
  obtain ⟨x5, y5, e5, h5⟩ := hf 5 _ rfl
  obtain ⟨x6, y6, e6, h6⟩ := hf 6 _ rfl
  obtain ⟨x7, y7, e7, h7⟩ := hf 7 _ rfl
  obtain ⟨x8, y8, e8, h8⟩ := hf 8 _ rfl
  obtain ⟨x9, y9, e9, h9⟩ := hf 9 _ rfl
  have hcs : cs = #[x0, x1, x2, x3, x4, x5, x6, x7, x8, x9] := by
    have hsz7 : cs.size = 10 := hsz
    apply Array.ext (by rw [hsz7]; rfl)
    intro i hi _
    have h7 : i < 10 := by omega
    have key : ∀ k x, cs[k]? = some x → ∀ (hk : k < cs.size), cs[k] = x := fun k x hx hk => by
      rw [Array.getElem?_eq_getElem hk] at hx
      injection hx
    rcases i with _ | _ | _ | _ | _ | _ | _ | _ | _ | _ | i
    · exact key 0 _ e0 hi
    · exact key 1 _ e1 hi
    · exact key 2 _ e2 hi
    · exact key 3 _ e3 hi
    · exact key 4 _ e4 hi
    · exact key 5 _ e5 hi
    · exact key 6 _ e6 hi
    · exact key 7 _ e7 hi
    · exact key 8 _ e8 hi
    · exact key 9 _ e9 hi
    · omega
  subst hcs
  obtain ⟨a0, g0, _⟩ := DataW.trod_int Try.underlying3 h0
  injection g0 with g0
  subst g0
  obtain ⟨a1, g1, _⟩ := DataW.trod_int Try.underlying3 h1
  injection g1 with g1
  subst g1
  obtain ⟨a2, g2, _⟩ := DataW.trod_int Try.underlying3 h2
  injection g2 with g2
  subst g2
  obtain ⟨a3, g3, _⟩ := DataW.trod_int Try.underlying3 h3
  injection g3 with g3
  subst g3
  obtain ⟨a4, g4, _⟩ := DataW.trod_int Try.underlying3 h4
  injection g4 with g4
  subst g4
  obtain ⟨a5, g5, _⟩ := DataW.trod_int Try.underlying3 h5
  injection g5 with g5
  subst g5
  obtain ⟨a6, g6, _⟩ := DataW.trod_int Try.underlying3 h6
  injection g6 with g6
  subst g6
  obtain ⟨a7, g7, _⟩ := DataW.trod_int Try.underlying3 h7
  injection g7 with g7
  subst g7
  obtain ⟨a8, g8, _⟩ := DataW.trod_int Try.underlying3 h8
  injection g8 with g8
  subst g8
  obtain ⟨a9, g9, _⟩ := DataW.trod_int Try.underlying3 h9
  injection g9 with g9
  subst g9
  exact ⟨⟨a0, a1, a2, a3, a4, a5, a6, a7, a8, a9⟩, rfl⟩
end Go.Proofs.Ytbcjfdhphpckfaa
