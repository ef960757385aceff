/-
  PduConfigs: the law walked. A law's row follows from its walk: the call returns true, and below the heap's old size the world is as it was; then every argument reads as it did. How the packets and bytes that a statement draws read. pdu: how the configs that a statement draws read.
-/
import Derived.Test.YtbdjgdkafbkdbaaJPduConfigs24
import Derived.Test.YtbdjgdkafbkdbaaRows
import Derived.WalkKit
import Derived.ProofKit
import Derived.OpenShut
import Derived.Test.YtbdjgdkafbkdbaaJPduConfigs12
import Derived.SizedLaws
import Derived.Deep.Matrix
import Derived.Lib.SmallJoins
import Derived.Test.YtbdjgdkafbkdbaaJPduConfigs13
namespace Go.Proofs.Ytbdjgdkafbkdbaa
open Go.RowKit

theorem rcheck_any (c : Cf) (w : World) : Calls Try.prog 64 #[.agg c.a] w fun e w' => e = .returned (.int .i64 (checkF c)) ∧ Below w.heap.size w w' := by
  obtain ⟨mode, bits, win, reo, prx, pro, ppd, pby, mrx, qb⟩ := c
  by_cases h0 : mode = 0
  · subst h0; exact rcheck0 bits win reo prx pro ppd pby mrx qb w
  · by_cases h1 : mode = 1
    · subst h1; exact rcheck1 bits win reo prx pro ppd pby mrx qb w
    · by_cases h2 : mode = 2
      · subst h2; exact rcheck2 bits win reo prx pro ppd pby mrx qb w
      · exact rcheck9 mode bits win reo prx pro ppd pby mrx qb w h0 h1 h2
set_option maxRecDepth 100000 in
set_option maxHeartbeats 6400000 in
theorem pconf0 (mode bits win reo prx pro ppd pby mrx qb : Int) (w : World) :
    Calls Try.prog 8 #[.agg #[.int .i64 mode, .int .i64 bits, .int .i64 win, .int .i64 reo, .int .i64 prx, .int .i64 pro, .int .i64 ppd, .int .i64 pby, .int .i64 mrx, .int .i64 qb], .int .i64 0] w fun e w' => e = .returned (.bool true) ∧ Below w.heap.size w w' := by
  have ROW := Lib.hid (Row.made w 103 #[.int .i64 mode, .int .i64 bits, .int .i64 win, .int .i64 reo, .int .i64 prx, .int .i64 pro, .int .i64 ppd, .int .i64 pby, .int .i64 mrx, .int .i64 qb])
  have HB0 := Lib.hid (bl_alloc (Below.refl w.heap.size w) (.cells #[.int .i64 mode, .int .i64 bits, .int .i64 win, .int .i64 reo, .int .i64 prx, .int .i64 pro, .int .i64 ppd, .int .i64 pby, .int .i64 mrx, .int .i64 qb] 103))
  have HCK := Lib.hid (fun W => pcheck_any ⟨mode, bits, win, reo, prx, pro, ppd, pby, mrx, qb⟩ W)
  have HRC := Lib.hid (fun W => rcheck_any ⟨mode, bits, win, reo, prx, pro, ppd, pby, mrx, qb⟩ W)
  unfold Cf.a at HCK HRC
  have HUS : ∀ W, Calls Try.prog 61 #[.int .i64 0] W fun e w' => e = .returned (.agg #[.int .i64 0, .int .i64 0, .int .i64 0, .int .i64 0, .int .i64 0, .int .i64 0, .int .i64 0, .int .i64 0, .int .i64 0, .int .i64 5000]) ∧ Below W.heap.size W w' := fun W => pusual_any 0 W
  have HUSH := Lib.hid HUS
  have HCU : ∀ W, Calls Try.prog 62 #[.agg #[.int .i64 0, .int .i64 0, .int .i64 0, .int .i64 0, .int .i64 0, .int .i64 0, .int .i64 0, .int .i64 0, .int .i64 0, .int .i64 5000]] W fun e w' => e = .returned (.int .i64 0) ∧ Below W.heap.size W w' := by
    intro W
    have h := pcheck_any ⟨0, 0, 0, 0, 0, 0, 0, 0, 0, 5000⟩ W
    rw [show checkF ⟨0, 0, 0, 0, 0, 0, 0, 0, 0, 5000⟩ = 0 from by decide +kernel] at h
    exact h
  have HCUH := Lib.hid HCU
  clear HUS HCU
  generalize checkF ⟨mode, bits, win, reo, prx, pro, ppd, pby, mrx, qb⟩ = ck at *
  go_enter Try.func8, Try.ntmps8
  go_wp2_with (first
    | (go_at_call 61; (with_reducible refine (HUSH.out _).mono ?_); rintro e w1 ⟨rfl, hb1⟩; (have B1 := Lib.hid (bl_alloc (bl_step HB0.out hb1) (.cells #[.int .i64 0, .int .i64 0, .int .i64 0, .int .i64 0, .int .i64 0, .int .i64 0, .int .i64 0, .int .i64 0, .int .i64 0, .int .i64 5000] 103)); have RC1 := Lib.hid ((ROW.out.later hb1).more (.cells #[.int .i64 0, .int .i64 0, .int .i64 0, .int .i64 0, .int .i64 0, .int .i64 0, .int .i64 0, .int .i64 0, .int .i64 0, .int .i64 5000] 103)); have RU1 := Lib.hid (Row.made w1 103 #[.int .i64 0, .int .i64 0, .int .i64 0, .int .i64 0, .int .i64 0, .int .i64 0, .int .i64 0, .int .i64 0, .int .i64 0, .int .i64 5000]); clear hb1; obtain ⟨u0, u1, u2, u3, u4, u5, u6, u7, u8, u9⟩ := cells10 RU1.out))
    | (go_at_call 62; (with_reducible refine (HCUH.out _).mono ?_); rintro e w2 ⟨rfl, hb2⟩; (have BX := Lib.hid (bl_step B1.out hb2); have ROWC := Lib.hid (RC1.out.later hb2); have RU2 := Lib.hid (RU1.out.later hb2); clear hb2 u0 u1 u2 u3 u4 u5 u6 u7 u8 u9; obtain ⟨u0, u1, u2, u3, u4, u5, u6, u7, u8, u9⟩ := cells10 RU2.out)))
  generalize w2 = WX at *
  obtain ⟨d0, d1, d2, d3, d4, d5, d6, d7, d8, d9⟩ := cells10 ROWC.out.drawn
  go_region_held3 (fun w' => w'.cell? ⟨w.heap.size, 0, none⟩ = some (.int .i64 mode) ∧ w'.cell? ⟨w.heap.size, 1, none⟩ = some (.int .i64 bits) ∧ w'.cell? ⟨w.heap.size, 2, none⟩ = some (.int .i64 win) ∧ w'.cell? ⟨w.heap.size, 3, none⟩ = some (.int .i64 reo) ∧ w'.cell? ⟨w.heap.size, 4, none⟩ = some (.int .i64 prx) ∧ w'.cell? ⟨w.heap.size, 5, none⟩ = some (.int .i64 pro) ∧ w'.cell? ⟨w.heap.size, 6, none⟩ = some (.int .i64 ppd) ∧ w'.cell? ⟨w.heap.size, 7, none⟩ = some (.int .i64 pby) ∧ w'.cell? ⟨w.heap.size, 8, none⟩ = some (.int .i64 mrx) ∧ w'.cell? ⟨w.heap.size, 9, none⟩ = some (.int .i64 qb)) (first | assumption | exact ⟨d0, d1, d2, d3, d4, d5, d6, d7, d8, d9⟩ | exact k3 | exact k4 | exact k5 | go_keep) (first
    | (go_at_call 63; (with_reducible refine (palive_any _).mono ?_); rintro e v3 ⟨rfl, hb3⟩; have B3 := Lib.hid (show Below WX.heap.size WX v3 from bl_step (bl_drew (Below.refl _ _)) hb3); have k3 := cells10 (ROWC.out.later B3.out); clear hb3)
    | (go_at_call 62; (with_reducible refine (HCK.out _).mono ?_); rintro e v4 ⟨rfl, hb4⟩; have B4 := Lib.hid (bl_step B3.out hb4); have k4 := cells10 (ROWC.out.later B4.out); clear hb4)
    | (go_at_call 64; (with_reducible refine (HRC.out _).mono ?_); rintro e v5 ⟨rfl, hb5⟩; have B5 := Lib.hid (bl_step B4.out hb5); have k5 := cells10 (ROWC.out.later B5.out); clear hb5))
  go_wp2
  go_ret
  exact ⟨ret_bool (by simp), bl_step BX.out B5.out⟩
set_option maxRecDepth 100000 in
set_option maxHeartbeats 6400000 in
theorem pconf1 (mode bits win reo prx pro ppd pby mrx qb : Int) (w : World) :
    Calls Try.prog 8 #[.agg #[.int .i64 mode, .int .i64 bits, .int .i64 win, .int .i64 reo, .int .i64 prx, .int .i64 pro, .int .i64 ppd, .int .i64 pby, .int .i64 mrx, .int .i64 qb], .int .i64 1] w fun e w' => e = .returned (.bool true) ∧ Below w.heap.size w w' := by
  have ROW := Lib.hid (Row.made w 103 #[.int .i64 mode, .int .i64 bits, .int .i64 win, .int .i64 reo, .int .i64 prx, .int .i64 pro, .int .i64 ppd, .int .i64 pby, .int .i64 mrx, .int .i64 qb])
  have HB0 := Lib.hid (bl_alloc (Below.refl w.heap.size w) (.cells #[.int .i64 mode, .int .i64 bits, .int .i64 win, .int .i64 reo, .int .i64 prx, .int .i64 pro, .int .i64 ppd, .int .i64 pby, .int .i64 mrx, .int .i64 qb] 103))
  have HCK := Lib.hid (fun W => pcheck_any ⟨mode, bits, win, reo, prx, pro, ppd, pby, mrx, qb⟩ W)
  have HRC := Lib.hid (fun W => rcheck_any ⟨mode, bits, win, reo, prx, pro, ppd, pby, mrx, qb⟩ W)
  unfold Cf.a at HCK HRC
  have HUS : ∀ W, Calls Try.prog 61 #[.int .i64 1] W fun e w' => e = .returned (.agg #[.int .i64 1, .int .i64 5, .int .i64 16, .int .i64 4, .int .i64 0, .int .i64 0, .int .i64 0, .int .i64 0, .int .i64 0, .int .i64 5000]) ∧ Below W.heap.size W w' := fun W => pusual_any 1 W
  have HUSH := Lib.hid HUS
  have HCU : ∀ W, Calls Try.prog 62 #[.agg #[.int .i64 1, .int .i64 5, .int .i64 16, .int .i64 4, .int .i64 0, .int .i64 0, .int .i64 0, .int .i64 0, .int .i64 0, .int .i64 5000]] W fun e w' => e = .returned (.int .i64 0) ∧ Below W.heap.size W w' := by
    intro W
    have h := pcheck_any ⟨1, 5, 16, 4, 0, 0, 0, 0, 0, 5000⟩ W
    rw [show checkF ⟨1, 5, 16, 4, 0, 0, 0, 0, 0, 5000⟩ = 0 from by decide +kernel] at h
    exact h
  have HCUH := Lib.hid HCU
  clear HUS HCU
  generalize checkF ⟨mode, bits, win, reo, prx, pro, ppd, pby, mrx, qb⟩ = ck at *
  go_enter Try.func8, Try.ntmps8
  go_wp2_with (first
    | (go_at_call 61; (with_reducible refine (HUSH.out _).mono ?_); rintro e w1 ⟨rfl, hb1⟩; (have B1 := Lib.hid (bl_alloc (bl_step HB0.out hb1) (.cells #[.int .i64 1, .int .i64 5, .int .i64 16, .int .i64 4, .int .i64 0, .int .i64 0, .int .i64 0, .int .i64 0, .int .i64 0, .int .i64 5000] 103)); have RC1 := Lib.hid ((ROW.out.later hb1).more (.cells #[.int .i64 1, .int .i64 5, .int .i64 16, .int .i64 4, .int .i64 0, .int .i64 0, .int .i64 0, .int .i64 0, .int .i64 0, .int .i64 5000] 103)); have RU1 := Lib.hid (Row.made w1 103 #[.int .i64 1, .int .i64 5, .int .i64 16, .int .i64 4, .int .i64 0, .int .i64 0, .int .i64 0, .int .i64 0, .int .i64 0, .int .i64 5000]); clear hb1; obtain ⟨u0, u1, u2, u3, u4, u5, u6, u7, u8, u9⟩ := cells10 RU1.out))
    | (go_at_call 62; (with_reducible refine (HCUH.out _).mono ?_); rintro e w2 ⟨rfl, hb2⟩; (have BX := Lib.hid (bl_step B1.out hb2); have ROWC := Lib.hid (RC1.out.later hb2); have RU2 := Lib.hid (RU1.out.later hb2); clear hb2 u0 u1 u2 u3 u4 u5 u6 u7 u8 u9; obtain ⟨u0, u1, u2, u3, u4, u5, u6, u7, u8, u9⟩ := cells10 RU2.out)))
  generalize w2 = WX at *
  obtain ⟨d0, d1, d2, d3, d4, d5, d6, d7, d8, d9⟩ := cells10 ROWC.out.drawn
  go_region_held3 (fun w' => w'.cell? ⟨w.heap.size, 0, none⟩ = some (.int .i64 mode) ∧ w'.cell? ⟨w.heap.size, 1, none⟩ = some (.int .i64 bits) ∧ w'.cell? ⟨w.heap.size, 2, none⟩ = some (.int .i64 win) ∧ w'.cell? ⟨w.heap.size, 3, none⟩ = some (.int .i64 reo) ∧ w'.cell? ⟨w.heap.size, 4, none⟩ = some (.int .i64 prx) ∧ w'.cell? ⟨w.heap.size, 5, none⟩ = some (.int .i64 pro) ∧ w'.cell? ⟨w.heap.size, 6, none⟩ = some (.int .i64 ppd) ∧ w'.cell? ⟨w.heap.size, 7, none⟩ = some (.int .i64 pby) ∧ w'.cell? ⟨w.heap.size, 8, none⟩ = some (.int .i64 mrx) ∧ w'.cell? ⟨w.heap.size, 9, none⟩ = some (.int .i64 qb)) (first | assumption | exact ⟨d0, d1, d2, d3, d4, d5, d6, d7, d8, d9⟩ | exact k3 | exact k4 | exact k5 | go_keep) (first
    | (go_at_call 63; (with_reducible refine (palive_any _).mono ?_); rintro e v3 ⟨rfl, hb3⟩; have B3 := Lib.hid (show Below WX.heap.size WX v3 from bl_step (bl_drew (Below.refl _ _)) hb3); have k3 := cells10 (ROWC.out.later B3.out); clear hb3)
    | (go_at_call 62; (with_reducible refine (HCK.out _).mono ?_); rintro e v4 ⟨rfl, hb4⟩; have B4 := Lib.hid (bl_step B3.out hb4); have k4 := cells10 (ROWC.out.later B4.out); clear hb4)
    | (go_at_call 64; (with_reducible refine (HRC.out _).mono ?_); rintro e v5 ⟨rfl, hb5⟩; have B5 := Lib.hid (bl_step B4.out hb5); have k5 := cells10 (ROWC.out.later B5.out); clear hb5))
  go_wp2
  go_ret
  exact ⟨ret_bool (by simp), bl_step BX.out B5.out⟩
set_option maxRecDepth 100000 in
set_option maxHeartbeats 6400000 in
theorem pconf2 (mode bits win reo prx pro ppd pby mrx qb : Int) (w : World) :
    Calls Try.prog 8 #[.agg #[.int .i64 mode, .int .i64 bits, .int .i64 win, .int .i64 reo, .int .i64 prx, .int .i64 pro, .int .i64 ppd, .int .i64 pby, .int .i64 mrx, .int .i64 qb], .int .i64 2] w fun e w' => e = .returned (.bool true) ∧ Below w.heap.size w w' := by
  have ROW := Lib.hid (Row.made w 103 #[.int .i64 mode, .int .i64 bits, .int .i64 win, .int .i64 reo, .int .i64 prx, .int .i64 pro, .int .i64 ppd, .int .i64 pby, .int .i64 mrx, .int .i64 qb])
  have HB0 := Lib.hid (bl_alloc (Below.refl w.heap.size w) (.cells #[.int .i64 mode, .int .i64 bits, .int .i64 win, .int .i64 reo, .int .i64 prx, .int .i64 pro, .int .i64 ppd, .int .i64 pby, .int .i64 mrx, .int .i64 qb] 103))
  have HCK := Lib.hid (fun W => pcheck_any ⟨mode, bits, win, reo, prx, pro, ppd, pby, mrx, qb⟩ W)
  have HRC := Lib.hid (fun W => rcheck_any ⟨mode, bits, win, reo, prx, pro, ppd, pby, mrx, qb⟩ W)
  unfold Cf.a at HCK HRC
  have HUS : ∀ W, Calls Try.prog 61 #[.int .i64 2] W fun e w' => e = .returned (.agg #[.int .i64 2, .int .i64 10, .int .i64 512, .int .i64 4, .int .i64 8, .int .i64 3, .int .i64 4, .int .i64 500, .int .i64 4, .int .i64 5000]) ∧ Below W.heap.size W w' := fun W => pusual_any 2 W
  have HUSH := Lib.hid HUS
  have HCU : ∀ W, Calls Try.prog 62 #[.agg #[.int .i64 2, .int .i64 10, .int .i64 512, .int .i64 4, .int .i64 8, .int .i64 3, .int .i64 4, .int .i64 500, .int .i64 4, .int .i64 5000]] W fun e w' => e = .returned (.int .i64 0) ∧ Below W.heap.size W w' := by
    intro W
    have h := pcheck_any ⟨2, 10, 512, 4, 8, 3, 4, 500, 4, 5000⟩ W
    rw [show checkF ⟨2, 10, 512, 4, 8, 3, 4, 500, 4, 5000⟩ = 0 from by decide +kernel] at h
    exact h
  have HCUH := Lib.hid HCU
  clear HUS HCU
  generalize checkF ⟨mode, bits, win, reo, prx, pro, ppd, pby, mrx, qb⟩ = ck at *
  go_enter Try.func8, Try.ntmps8
  go_wp2_with (first
    | (go_at_call 61; (with_reducible refine (HUSH.out _).mono ?_); rintro e w1 ⟨rfl, hb1⟩; (have B1 := Lib.hid (bl_alloc (bl_step HB0.out hb1) (.cells #[.int .i64 2, .int .i64 10, .int .i64 512, .int .i64 4, .int .i64 8, .int .i64 3, .int .i64 4, .int .i64 500, .int .i64 4, .int .i64 5000] 103)); have RC1 := Lib.hid ((ROW.out.later hb1).more (.cells #[.int .i64 2, .int .i64 10, .int .i64 512, .int .i64 4, .int .i64 8, .int .i64 3, .int .i64 4, .int .i64 500, .int .i64 4, .int .i64 5000] 103)); have RU1 := Lib.hid (Row.made w1 103 #[.int .i64 2, .int .i64 10, .int .i64 512, .int .i64 4, .int .i64 8, .int .i64 3, .int .i64 4, .int .i64 500, .int .i64 4, .int .i64 5000]); clear hb1; obtain ⟨u0, u1, u2, u3, u4, u5, u6, u7, u8, u9⟩ := cells10 RU1.out))
    | (go_at_call 62; (with_reducible refine (HCUH.out _).mono ?_); rintro e w2 ⟨rfl, hb2⟩; (have BX := Lib.hid (bl_step B1.out hb2); have ROWC := Lib.hid (RC1.out.later hb2); have RU2 := Lib.hid (RU1.out.later hb2); clear hb2 u0 u1 u2 u3 u4 u5 u6 u7 u8 u9; obtain ⟨u0, u1, u2, u3, u4, u5, u6, u7, u8, u9⟩ := cells10 RU2.out)))
  generalize w2 = WX at *
  obtain ⟨d0, d1, d2, d3, d4, d5, d6, d7, d8, d9⟩ := cells10 ROWC.out.drawn
  go_region_held3 (fun w' => w'.cell? ⟨w.heap.size, 0, none⟩ = some (.int .i64 mode) ∧ w'.cell? ⟨w.heap.size, 1, none⟩ = some (.int .i64 bits) ∧ w'.cell? ⟨w.heap.size, 2, none⟩ = some (.int .i64 win) ∧ w'.cell? ⟨w.heap.size, 3, none⟩ = some (.int .i64 reo) ∧ w'.cell? ⟨w.heap.size, 4, none⟩ = some (.int .i64 prx) ∧ w'.cell? ⟨w.heap.size, 5, none⟩ = some (.int .i64 pro) ∧ w'.cell? ⟨w.heap.size, 6, none⟩ = some (.int .i64 ppd) ∧ w'.cell? ⟨w.heap.size, 7, none⟩ = some (.int .i64 pby) ∧ w'.cell? ⟨w.heap.size, 8, none⟩ = some (.int .i64 mrx) ∧ w'.cell? ⟨w.heap.size, 9, none⟩ = some (.int .i64 qb)) (first | assumption | exact ⟨d0, d1, d2, d3, d4, d5, d6, d7, d8, d9⟩ | exact k3 | exact k4 | exact k5 | go_keep) (first
    | (go_at_call 63; (with_reducible refine (palive_any _).mono ?_); rintro e v3 ⟨rfl, hb3⟩; have B3 := Lib.hid (show Below WX.heap.size WX v3 from bl_step (bl_drew (Below.refl _ _)) hb3); have k3 := cells10 (ROWC.out.later B3.out); clear hb3)
    | (go_at_call 62; (with_reducible refine (HCK.out _).mono ?_); rintro e v4 ⟨rfl, hb4⟩; have B4 := Lib.hid (bl_step B3.out hb4); have k4 := cells10 (ROWC.out.later B4.out); clear hb4)
    | (go_at_call 64; (with_reducible refine (HRC.out _).mono ?_); rintro e v5 ⟨rfl, hb5⟩; have B5 := Lib.hid (bl_step B4.out hb5); have k5 := cells10 (ROWC.out.later B5.out); clear hb5))
  go_wp2
  go_ret
  exact ⟨ret_bool (by simp), bl_step BX.out B5.out⟩
set_option maxRecDepth 100000 in
set_option maxHeartbeats 6400000 in
theorem pconfx (mode bits win reo prx pro ppd pby mrx qb md : Int) (w : World) (hm : md < 0 ∨ 2 < md) :
    Calls Try.prog 8 #[.agg #[.int .i64 mode, .int .i64 bits, .int .i64 win, .int .i64 reo, .int .i64 prx, .int .i64 pro, .int .i64 ppd, .int .i64 pby, .int .i64 mrx, .int .i64 qb], .int .i64 md] w fun e w' => e = .returned (.bool true) ∧ Below w.heap.size w w' := by
  have ROW := Lib.hid (Row.made w 103 #[.int .i64 mode, .int .i64 bits, .int .i64 win, .int .i64 reo, .int .i64 prx, .int .i64 pro, .int .i64 ppd, .int .i64 pby, .int .i64 mrx, .int .i64 qb])
  have HB0 := Lib.hid (bl_alloc (Below.refl w.heap.size w) (.cells #[.int .i64 mode, .int .i64 bits, .int .i64 win, .int .i64 reo, .int .i64 prx, .int .i64 pro, .int .i64 ppd, .int .i64 pby, .int .i64 mrx, .int .i64 qb] 103))
  have HCK := Lib.hid (fun W => pcheck_any ⟨mode, bits, win, reo, prx, pro, ppd, pby, mrx, qb⟩ W)
  have HRC := Lib.hid (fun W => rcheck_any ⟨mode, bits, win, reo, prx, pro, ppd, pby, mrx, qb⟩ W)
  unfold Cf.a at HCK HRC
  have HUS : ∀ W, Calls Try.prog 61 #[.int .i64 md] W fun e w' => e = .returned (.agg #[.int .i64 0, .int .i64 0, .int .i64 0, .int .i64 0, .int .i64 0, .int .i64 0, .int .i64 0, .int .i64 0, .int .i64 0, .int .i64 0]) ∧ Below W.heap.size W w' := by
    intro W
    have h := pusual_any md W
    rw [show usF md = ⟨0, 0, 0, 0, 0, 0, 0, 0, 0, 0⟩ from by unfold usF; rw [if_neg (by omega), if_neg (by omega), if_neg (by omega)]] at h
    exact h
  have HUSH := Lib.hid HUS
  clear HUS
  generalize checkF ⟨mode, bits, win, reo, prx, pro, ppd, pby, mrx, qb⟩ = ck at *
  rcases hm with hm | hm
  · have g1 : decide (md < 0) = true := decide_eq_true hm
    clear hm
    go_enter Try.func8, Try.ntmps8
    go_wp2_with (first
      | (go_at_call 61; (with_reducible refine (HUSH.out _).mono ?_); rintro e w1 ⟨rfl, hb1⟩; (have B1 := Lib.hid (bl_alloc (bl_step HB0.out hb1) (.cells #[.int .i64 0, .int .i64 0, .int .i64 0, .int .i64 0, .int .i64 0, .int .i64 0, .int .i64 0, .int .i64 0, .int .i64 0, .int .i64 0] 103)); have RC1 := Lib.hid ((ROW.out.later hb1).more (.cells #[.int .i64 0, .int .i64 0, .int .i64 0, .int .i64 0, .int .i64 0, .int .i64 0, .int .i64 0, .int .i64 0, .int .i64 0, .int .i64 0] 103)); have RU1 := Lib.hid (Row.made w1 103 #[.int .i64 0, .int .i64 0, .int .i64 0, .int .i64 0, .int .i64 0, .int .i64 0, .int .i64 0, .int .i64 0, .int .i64 0, .int .i64 0]); clear hb1; obtain ⟨u0, u1, u2, u3, u4, u5, u6, u7, u8, u9⟩ := cells10 RU1.out)))
    have BX := Lib.hid B1.out
    have ROWC := Lib.hid RC1.out
    generalize (w1.alloc (.cells #[.int .i64 0, .int .i64 0, .int .i64 0, .int .i64 0, .int .i64 0, .int .i64 0, .int .i64 0, .int .i64 0, .int .i64 0, .int .i64 0] 103)) = WX at *
    obtain ⟨d0, d1, d2, d3, d4, d5, d6, d7, d8, d9⟩ := cells10 ROWC.out.drawn
    go_region_held3 (fun w' => w'.cell? ⟨w.heap.size, 0, none⟩ = some (.int .i64 mode) ∧ w'.cell? ⟨w.heap.size, 1, none⟩ = some (.int .i64 bits) ∧ w'.cell? ⟨w.heap.size, 2, none⟩ = some (.int .i64 win) ∧ w'.cell? ⟨w.heap.size, 3, none⟩ = some (.int .i64 reo) ∧ w'.cell? ⟨w.heap.size, 4, none⟩ = some (.int .i64 prx) ∧ w'.cell? ⟨w.heap.size, 5, none⟩ = some (.int .i64 pro) ∧ w'.cell? ⟨w.heap.size, 6, none⟩ = some (.int .i64 ppd) ∧ w'.cell? ⟨w.heap.size, 7, none⟩ = some (.int .i64 pby) ∧ w'.cell? ⟨w.heap.size, 8, none⟩ = some (.int .i64 mrx) ∧ w'.cell? ⟨w.heap.size, 9, none⟩ = some (.int .i64 qb)) (first | assumption | exact ⟨d0, d1, d2, d3, d4, d5, d6, d7, d8, d9⟩ | exact k3 | exact k4 | exact k5 | go_keep) (first
      | (go_at_call 63; (with_reducible refine (palive_any _).mono ?_); rintro e v3 ⟨rfl, hb3⟩; have B3 := Lib.hid (show Below WX.heap.size WX v3 from bl_step (bl_drew (Below.refl _ _)) hb3); have k3 := cells10 (ROWC.out.later B3.out); clear hb3)
      | (go_at_call 62; (with_reducible refine (HCK.out _).mono ?_); rintro e v4 ⟨rfl, hb4⟩; have B4 := Lib.hid (bl_step B3.out hb4); have k4 := cells10 (ROWC.out.later B4.out); clear hb4)
      | (go_at_call 64; (with_reducible refine (HRC.out _).mono ?_); rintro e v5 ⟨rfl, hb5⟩; have B5 := Lib.hid (bl_step B4.out hb5); have k5 := cells10 (ROWC.out.later B5.out); clear hb5))
    go_wp2
    go_ret
    exact ⟨ret_bool (by simp), bl_step BX.out B5.out⟩
  · have g1 : decide (md < 0) = false := decide_eq_false (by omega)
    have g2 : decide (2 < md) = true := decide_eq_true hm
    clear hm
    go_enter Try.func8, Try.ntmps8
    go_wp2_with (first
      | (go_at_call 61; (with_reducible refine (HUSH.out _).mono ?_); rintro e w1 ⟨rfl, hb1⟩; (have B1 := Lib.hid (bl_alloc (bl_step HB0.out hb1) (.cells #[.int .i64 0, .int .i64 0, .int .i64 0, .int .i64 0, .int .i64 0, .int .i64 0, .int .i64 0, .int .i64 0, .int .i64 0, .int .i64 0] 103)); have RC1 := Lib.hid ((ROW.out.later hb1).more (.cells #[.int .i64 0, .int .i64 0, .int .i64 0, .int .i64 0, .int .i64 0, .int .i64 0, .int .i64 0, .int .i64 0, .int .i64 0, .int .i64 0] 103)); have RU1 := Lib.hid (Row.made w1 103 #[.int .i64 0, .int .i64 0, .int .i64 0, .int .i64 0, .int .i64 0, .int .i64 0, .int .i64 0, .int .i64 0, .int .i64 0, .int .i64 0]); clear hb1; obtain ⟨u0, u1, u2, u3, u4, u5, u6, u7, u8, u9⟩ := cells10 RU1.out)))
    have BX := Lib.hid B1.out
    have ROWC := Lib.hid RC1.out
    generalize (w1.alloc (.cells #[.int .i64 0, .int .i64 0, .int .i64 0, .int .i64 0, .int .i64 0, .int .i64 0, .int .i64 0, .int .i64 0, .int .i64 0, .int .i64 0] 103)) = WX at *
    obtain ⟨d0, d1, d2, d3, d4, d5, d6, d7, d8, d9⟩ := cells10 ROWC.out.drawn
    go_region_held3 (fun w' => w'.cell? ⟨w.heap.size, 0, none⟩ = some (.int .i64 mode) ∧ w'.cell? ⟨w.heap.size, 1, none⟩ = some (.int .i64 bits) ∧ w'.cell? ⟨w.heap.size, 2, none⟩ = some (.int .i64 win) ∧ w'.cell? ⟨w.heap.size, 3, none⟩ = some (.int .i64 reo) ∧ w'.cell? ⟨w.heap.size, 4, none⟩ = some (.int .i64 prx) ∧ w'.cell? ⟨w.heap.size, 5, none⟩ = some (.int .i64 pro) ∧ w'.cell? ⟨w.heap.size, 6, none⟩ = some (.int .i64 ppd) ∧ w'.cell? ⟨w.heap.size, 7, none⟩ = some (.int .i64 pby) ∧ w'.cell? ⟨w.heap.size, 8, none⟩ = some (.int .i64 mrx) ∧ w'.cell? ⟨w.heap.size, 9, none⟩ = some (.int .i64 qb)) (first | assumption | exact ⟨d0, d1, d2, d3, d4, d5, d6, d7, d8, d9⟩ | exact k3 | exact k4 | exact k5 | go_keep) (first
      | (go_at_call 63; (with_reducible refine (palive_any _).mono ?_); rintro e v3 ⟨rfl, hb3⟩; have B3 := Lib.hid (show Below WX.heap.size WX v3 from bl_step (bl_drew (Below.refl _ _)) hb3); have k3 := cells10 (ROWC.out.later B3.out); clear hb3)
      | (go_at_call 62; (with_reducible refine (HCK.out _).mono ?_); rintro e v4 ⟨rfl, hb4⟩; have B4 := Lib.hid (bl_step B3.out hb4); have k4 := cells10 (ROWC.out.later B4.out); clear hb4)
      | (go_at_call 64; (with_reducible refine (HRC.out _).mono ?_); rintro e v5 ⟨rfl, hb5⟩; have B5 := Lib.hid (bl_step B4.out hb5); have k5 := cells10 (ROWC.out.later B5.out); clear hb5))
    go_wp2
    go_ret
    exact ⟨ret_bool (by simp), bl_step BX.out B5.out⟩
theorem pconf_all (c : Cf) (mode : Int) (w : World) : Calls Try.prog 8 #[.agg c.a, .int .i64 mode] w fun e w' => e = .returned (.bool true) ∧ Below w.heap.size w w' := by
  obtain ⟨m0, bits, win, reo, prx, pro, ppd, pby, mrx, qb⟩ := c
  by_cases h0 : mode = 0
  · subst h0; exact pconf0 m0 bits win reo prx pro ppd pby mrx qb w
  · by_cases h1 : mode = 1
    · subst h1; exact pconf1 m0 bits win reo prx pro ppd pby mrx qb w
    · by_cases h2 : mode = 2
      · subst h2; exact pconf2 m0 bits win reo prx pro ppd pby mrx qb w
      · exact pconfx m0 bits win reo prx pro ppd pby mrx qb mode w (by omega)
end Go.Proofs.Ytbdjgdkafbkdbaa
namespace Go.Proofs.Ytbdjgdkafbkdbaa
open Go.ChangeShapes Go.WideShapes Go.ChangeAt Go.RowKit

theorem lawOwn : ownKnob Try.prog.godebug = none := by kernel_rfl
theorem lawLaid : laidOutB Try.prog = true := by kernel_rfl

section
variable {H : Type} {enc : TypeId × Value → H} {P : Program}
/-- what was read in the old world is read in the new one -/
theorem args_stay (hl : laidOutB P = true) {W W' : World} (hb : Below W.heap.size W W') : ∀ (ts : List TypeId) (vs : List Value) (ds : List (DataW H)) (ps : List MemPlace),
    (∀ t ∈ ts, P.readableRec t = true ∧ t < P.types.size) → DataW.TrodAll enc P W 0 (fun _ => true) true ts vs ds ps → (∀ x ∈ ps, x.block < W.heap.size) →
    DataW.TrodAll enc P W' 0 (fun b => decide (b < W.heap.size)) true ts vs ds ps := by
  intro ts
  induction ts with
  | nil =>
    intro vs ds ps _ h _
    obtain ⟨rfl, rfl, rfl⟩ := trodAll_nil h
    exact trodAll_mk0
  | cons t ts ih =>
    intro vs ds ps hr h hlt
    obtain ⟨v, vs', d, ds', p, q, rfl, rfl, rfl, h1, h2⟩ := trodAll_cons h
    have ht := hr t (List.mem_cons_self ..)
    exact trodAll_cons_mk (Below.trod hl ht.1 ht.2 h1 hb fun x hx => hlt x (List.mem_append_left _ hx))
      (ih vs' ds' q (fun u hu => hr u (List.mem_cons_of_mem _ hu)) h2 fun x hx => hlt x (List.mem_append_right _ hx))

theorem law_post {f : Func} {s : ChangeSpec} {W W' : World} {args : Array Value} {ds gs : List (DataW H)} {before : List MemPlace} {B : TypeId}
    (hl : laidOutB P = true) (hr : f.params.toList.all (fun t => P.readableRec t && decide (t < P.types.size)) = true) (hv : s.vars = [])
    (hW : DataW.Whole enc P f.params.toList s.vars false W args.toList ds gs before)
    (hs : s.fn H (ds ++ gs) = { results := [.lit (.bool true)], args := ds }) (ht : f.resultTypes = #[B]) (hB : P.underlying B = some .bool)
    (hb : Below W.heap.size W W') : s.post enc P f false true false false W args (.bool true) W' := by
  have hW' := hW
  obtain ⟨p, q, hA, hV, rfl, _, _⟩ := hW
  rw [hv] at hV
  obtain ⟨rfl, rfl⟩ := trodVars_none hV
  refine ⟨ds, [], p ++ [], [], p, [], hW', ?_, ?_, ?_, hb.frame _, fun h => by cases h⟩
  · rw [hs, ht]
    exact trodAll_mk1 (shut_bool hB true)
  · rw [hs]
    exact args_stay hl hb _ _ _ _ (fun t h => by have := List.all_eq_true.1 hr t h; simpa using this) hA fun x hx => hW'.lt x (List.mem_append_left _ hx)
  · rw [hs, hv]
    exact rfl
end
end Go.Proofs.Ytbdjgdkafbkdbaa
namespace Go.Proofs.Ytbdjgdkafbkdbaa
open Go.ChangeShapes Go.WideShapes Go.ChangeAt Go.RowKit Go.Deep


theorem Try.cells5 : Try.prog.cellsOf 5 = 1 := by kernel_rfl
theorem Try.cells61 : Try.prog.cellsOf 61 = 1 := by kernel_rfl
theorem nums_src {W : World} {a : Addr} {cap len : Nat} {zs : List Int} (hl : len ≤ cap) (hz : zs.length = cap) (hc : ∀ j, j < cap → W.cell? (a.add j) = some (.int .u8 (zs.getD j 0))) (hw : ∀ n ∈ zs, (Lit.int .u8 n).wf = true) :
    ((zs.take len).map Int.toNat).length = len ∧ Src W (some a) (bts ((zs.take len).map Int.toNat)) ∧ ∀ b ∈ (zs.take len).map Int.toNat, b < 256 := by
  have hlen : ((zs.take len).map Int.toNat).length = len := by rw [List.length_map, List.length_take]; omega
  refine ⟨hlen, fun h0 => ⟨a, rfl, fun j u hu => ?_⟩, fun b hb => ?_⟩
  · have hj : j < len := by
      have h1 := (List.getElem?_eq_some_iff.1 hu).1
      rw [length_bts, hlen] at h1
      exact h1
    have h2 := hc j (by omega)
    rw [h2]
    have hjz : j < zs.length := by omega
    have hww := bounds_u8 (hw zs[j] (List.getElem_mem hjz))
    have h3 : ((zs.take len).map Int.toNat)[j]? = some zs[j].toNat := by
      rw [List.getElem?_map, List.getElem?_take, if_pos hj, List.getElem?_eq_getElem hjz]
      rfl
    have h4 := bts_at h3
    rw [h4] at hu
    injection hu with hu
    rw [← hu, List.getD_eq_getElem?_getD, List.getElem?_eq_getElem hjz]
    simp only [Option.getD_some]
    rw [Int.toNat_of_nonneg hww.1]
  · rw [List.mem_map] at hb
    obtain ⟨z, hz2, rfl⟩ := hb
    have hww := bounds_u8 (hw z (List.mem_of_mem_take hz2))
    omega
set_option maxRecDepth 100000 in
theorem bytes_arg {H : Type} {enc : TypeId × Value → H} {W : World} {base : Nat} {v : Value} {d : DataW H} {p : List MemPlace} (hok : Value.okWide Try.prog W .any base 61 v)
    (h : DataW.Trod enc Try.prog W 0 (fun _ => true) true 61 v d p) : ∃ (A : Option Addr) (cap : Nat) (l : List Nat), v = .slice A l.length cap ∧ l.length ≤ cap ∧ cap ≤ 9223372036854775807 ∧ Src W A (bts l) ∧ ∀ b ∈ l, b < 256 := by
  obtain ⟨a0, len, cap, rfl⟩ := okWide_slice Try.underlying61 hok
  obtain ⟨fuel, hf⟩ := h
  rcases open_ints Try.underlying61 Try.underlying5 Try.cells5 hf with ⟨hcs, _⟩ | ⟨a, len', cap', zs, hcs, _, hl, hm, hz, _, hcell, hwz⟩
  · simp only [Value.cells] at hcs
    have e : Value.slice a0 len cap = .slice none 0 0 := by simpa using hcs
    rw [e]
    exact ⟨none, 0, [], rfl, Nat.le_refl _, by omega, fun h0 => absurd h0 (by simp [bts]), fun b hb => by cases hb⟩
  · have e : Value.slice a0 len cap = .slice (some a) len' cap' := by simpa [Value.cells] using hcs
    rw [e]
    have hz' : zs.length = cap' := by simpa using hz
    obtain ⟨h1, h2, h3⟩ := nums_src (W := W) (a := a) hl hz' (fun j hj => hcell j (by omega)) hwz
    exact ⟨some a, cap', _, by rw [h1], by omega, by unfold maxLen at hm; exact hm, h2, h3⟩
set_option maxRecDepth 100000 in
theorem rows_cells {H : Type} {enc : TypeId × Value → H} {W : World} {fuel : Nat} {v : Value} {y : DataW H × List MemPlace} (hf : DataW.trod enc Try.prog W 0 (fun _ => true) true fuel 57 [v] = some y) :
    ∃ (A : Option Addr) (cap : Nat) (L : List RowB), v = .slice A L.length cap ∧ L.length ≤ cap ∧ cap ≤ 9223372036854775807 ∧ RSrc W A L ∧ ∀ m ∈ lens L, m ≤ 9223372036854775807 := by
  rcases open_int_rows Try.underlying57 Try.underlying61 Try.underlying5 Try.cells61 Try.cells5 hf with ⟨hcs, _⟩ | ⟨a, len', cap', A, L, C, Z, hcs, _, hl, hm, _, hx⟩
  · have e : v = .slice none 0 0 := by simpa [Value.cells] using hcs
    rw [e]
    exact ⟨none, 0, [], rfl, Nat.le_refl _, by omega, fun h0 => absurd h0 (by simp), fun m hm => by cases hm⟩
  · have e : v = .slice (some a) len' cap' := by simpa [Value.cells] using hcs
    rw [e]
    have hlen : ((List.range len').map fun k => (⟨A k, C k, ((Z k).take (L k)).map Int.toNat⟩ : RowB)).length = len' := by simp
    have hrow : ∀ k r, ((List.range len').map fun k => (⟨A k, C k, ((Z k).take (L k)).map Int.toNat⟩ : RowB))[k]? = some r → W.cell? (a.add k) = some r.v ∧ r.ok W := by
      intro k r hr
      have hk : k < len' := by
        have h1 := (List.getElem?_eq_some_iff.1 hr).1
        rw [hlen] at h1
        exact h1
      have hr' : r = ⟨A k, C k, ((Z k).take (L k)).map Int.toNat⟩ := by
        rw [List.getElem?_map, List.getElem?_range hk] at hr
        simp only [Option.map_some, Option.some.injEq] at hr
        exact hr.symm
      subst hr'
      obtain ⟨h1, h2, h3, h4, h5, h6, h7⟩ := hx k (by omega)
      unfold maxLen at h3
      have hll : (((Z k).take (L k)).map Int.toNat).length = L k := by rw [List.length_map, List.length_take]; omega
      refine ⟨by rw [h1]; show _ = some (Value.slice (A k) (((Z k).take (L k)).map Int.toNat).length (C k)); rw [hll], ?_⟩
      cases hA : A k with
      | none =>
        have hc0 := h6 hA
        have hl0 : L k = 0 := by omega
        refine ⟨fun h0 => ?_, by rw [hll]; exact h2, h3, fun b hb => ?_⟩
        · rw [length_bts, hll] at h0; omega
        · rw [hl0] at hb; simp at hb
      | some a' =>
        obtain ⟨_, hc⟩ := h7 a' hA
        obtain ⟨_, g2, g3⟩ := nums_src (W := W) h2 h4 hc h5
        exact ⟨g2, by rw [hll]; exact h2, h3, g3⟩
    refine ⟨some a, cap', (List.range len').map fun k => ⟨A k, C k, ((Z k).take (L k)).map Int.toNat⟩, by rw [hlen], by omega, by unfold maxLen at hm; exact hm, fun h0 => ⟨a, rfl, hrow⟩, fun m hm2 => ?_⟩
    obtain ⟨k, hk⟩ := List.getElem?_of_mem hm2
    simp only [lens, List.getElem?_map, Option.map_eq_some_iff] at hk
    obtain ⟨r, hr, rfl⟩ := hk
    have h9 := (hrow k r (by rw [List.getElem?_map, Option.map_eq_some_iff]; exact hr)).2
    have := h9.2.1
    have := h9.2.2.1
    omega
set_option maxRecDepth 100000 in
/-- a packet of umd as it came in -/
theorem upack_arg {H : Type} {enc : TypeId × Value → H} {W : World} {base : Nat} {v : Value} {d : DataW H} {p : List MemPlace} (hok : Value.okWide Try.prog W .any base 108 v)
    (h : DataW.Trod enc Try.prog W 0 (fun _ => true) true 108 v d p) : ∃ (fi sn : Int) (A : Option Addr) (cap : Nat) (L : List RowB), v = .agg #[.int .i64 fi, .int .i64 sn, .slice A L.length cap] ∧ L.length ≤ cap ∧ cap ≤ 9223372036854775807 ∧ RSrc W A L ∧ ∀ m ∈ lens L, m ≤ 9223372036854775807 := by
  obtain ⟨v0, v1, v2, y0, y1, y2, k, rfl, _, _, h0, h1, h2⟩ := Joins.open_agg3 Try.underlying108 (by kernel_rfl) (by kernel_rfl) hok h
  obtain ⟨A, cap, L, rfl, g1, g2, g3, g4⟩ := rows_cells h2
  obtain ⟨fi, rfl⟩ : ∃ fi, v0 = .int .i64 fi := by
    obtain ⟨n, h9, _⟩ := DataW.trod_int Try.underlying3 h0
    exact ⟨n, by simpa using h9⟩
  obtain ⟨sn, rfl⟩ : ∃ sn, v1 = .int .i64 sn := by
    obtain ⟨n, h9, _⟩ := DataW.trod_int Try.underlying3 h1
    exact ⟨n, by simpa using h9⟩
  exact ⟨fi, sn, A, cap, L, rfl, g1, g2, g3, g4⟩
end Go.Proofs.Ytbdjgdkafbkdbaa
namespace Go.Proofs.Ytbdjgdkafbkdbaa
open Go.ChangeShapes Go.WideShapes Go.ChangeAt Go.RowKit Go.Deep

set_option maxRecDepth 100000 in
theorem config_arg {H : Type} {enc : TypeId × Value → H} {W : World} {base : Nat} {v : Value} {d : DataW H} {p : List MemPlace} (hok : Value.okWide Try.prog W .any base 103 v)
    (h : DataW.Trod enc Try.prog W 0 (fun _ => true) true 103 v d p) : ∃ c : Cf, v = .agg c.a := by
  obtain ⟨cs, rfl, hsz, n, hf⟩ := st_agg_field Try.underlying103 (by kernel_rfl) (by kernel_rfl) hok h
  obtain ⟨x0, y0, e0, h0⟩ := hf 0 _ rfl
  obtain ⟨x1, y1, e1, h1⟩ := hf 1 _ rfl
  obtain ⟨x2, y2, e2, h2⟩ := hf 2 _ rfl
  obtain ⟨x3, y3, e3, h3⟩ := hf 3 _ rfl
  obtain ⟨x4, y4, e4, h4⟩ := hf 4 _ rfl
  obtain ⟨x5, y5, e5, h5⟩ := hf 5 _ rfl
  obtain ⟨x6, y6, e6, h6⟩ := hf 6 _ rfl
  obtain ⟨x7, y7, e7, h7⟩ := hf 7 _ rfl
  obtain ⟨x8, y8, e8, h8⟩ := hf 8 _ rfl
  obtain ⟨x9, y9, e9, h9⟩ := hf 9 _ rfl
  have hcs : cs = #[x0, x1, x2, x3, x4, x5, x6, x7, x8, x9] := by
    have hsz7 : cs.size = 10 := hsz
    apply Array.ext (by rw [hsz7]; rfl)
    intro i hi _
    have h7 : i < 10 := by omega
    have key : ∀ k x, cs[k]? = some x → ∀ (hk : k < cs.size), cs[k] = x := fun k x hx hk => by
      rw [Array.getElem?_eq_getElem hk] at hx
      injection hx
    rcases i with _ | _ | _ | _ | _ | _ | _ | _ | _ | _ | i
    · exact key 0 _ e0 hi
    · exact key 1 _ e1 hi
    · exact key 2 _ e2 hi
    · exact key 3 _ e3 hi
    · exact key 4 _ e4 hi
    · exact key 5 _ e5 hi
    · exact key 6 _ e6 hi
    · exact key 7 _ e7 hi
    · exact key 8 _ e8 hi
    · exact key 9 _ e9 hi
    · omega
  subst hcs
  obtain ⟨a0, g0, _⟩ := DataW.trod_int Try.underlying3 h0
  injection g0 with g0
  subst g0
  obtain ⟨a1, g1, _⟩ := DataW.trod_int Try.underlying3 h1
  injection g1 with g1
  subst g1
  obtain ⟨a2, g2, _⟩ := DataW.trod_int Try.underlying3 h2
  injection g2 with g2
  subst g2
  obtain ⟨a3, g3, _⟩ := DataW.trod_int Try.underlying3 h3
  injection g3 with g3
  subst g3
  obtain ⟨a4, g4, _⟩ := DataW.trod_int Try.underlying3 h4
  injection g4 with g4
  subst g4
  obtain ⟨a5, g5, _⟩ := DataW.trod_int Try.underlying3 h5
  injection g5 with g5
  subst g5
  obtain ⟨a6, g6, _⟩ := DataW.trod_int Try.underlying3 h6
  injection g6 with g6
  subst g6
  obtain ⟨a7, g7, _⟩ := DataW.trod_int Try.underlying3 h7
  injection g7 with g7
  subst g7
  obtain ⟨a8, g8, _⟩ := DataW.trod_int Try.underlying3 h8
  injection g8 with g8
  subst g8
  obtain ⟨a9, g9, _⟩ := DataW.trod_int Try.underlying3 h9
  injection g9 with g9
  subst g9
  exact ⟨⟨a0, a1, a2, a3, a4, a5, a6, a7, a8, a9⟩, rfl⟩
end Go.Proofs.Ytbdjgdkafbkdbaa
