/-
  PduConfigs: the law walked. A law's row follows from its walk: the call returns true, and below the heap's old size the world is as it was; then every argument reads as it did.
-/
import Derived.Test.YtfgjlhklioijmaaJPduConfigs23
import Derived.Test.YtfgjlhklioijmaaRows
import Derived.WalkKit
import Derived.ProofKit
import Derived.OpenShut
namespace Go.Proofs.Ytfgjlhklioijmaa
open Go.RowKit

theorem rcheck_any (c : Cf) (w : World) : Calls Try.prog 40 #[.agg c.a] w fun e w' => e = .returned (.int .i64 (checkF c)) ∧ Below w.heap.size w w' := by
  obtain ⟨mode, bits, win, reo, prx, pro, ppd, pby, mrx, qb⟩ := c
  by_cases h0 : mode = 0
  · subst h0; exact rcheck0 bits win reo prx pro ppd pby mrx qb w
  · by_cases h1 : mode = 1
    · subst h1; exact rcheck1 bits win reo prx pro ppd pby mrx qb w
    · by_cases h2 : mode = 2
      · subst h2; exact rcheck2 bits win reo prx pro ppd pby mrx qb w
      · exact rcheck9 mode bits win reo prx pro ppd pby mrx qb w h0 h1 h2
set_option maxRecDepth 100000 in
set_option maxHeartbeats 6400000 in
theorem pconf0 (mode bits win reo prx pro ppd pby mrx qb : Int) (w : World) :
    Calls Try.prog 6 #[.agg #[.int .i64 mode, .int .i64 bits, .int .i64 win, .int .i64 reo, .int .i64 prx, .int .i64 pro, .int .i64 ppd, .int .i64 pby, .int .i64 mrx, .int .i64 qb], .int .i64 0] w fun e w' => e = .returned (.bool true) ∧ Below w.heap.size w w' := by
  have ROW := Lib.hid (Row.made w 49 #[.int .i64 mode, .int .i64 bits, .int .i64 win, .int .i64 reo, .int .i64 prx, .int .i64 pro, .int .i64 ppd, .int .i64 pby, .int .i64 mrx, .int .i64 qb])
  have HB0 := Lib.hid (bl_alloc (Below.refl w.heap.size w) (.cells #[.int .i64 mode, .int .i64 bits, .int .i64 win, .int .i64 reo, .int .i64 prx, .int .i64 pro, .int .i64 ppd, .int .i64 pby, .int .i64 mrx, .int .i64 qb] 49))
  have HCK := Lib.hid (fun W => pcheck_any ⟨mode, bits, win, reo, prx, pro, ppd, pby, mrx, qb⟩ W)
  have HRC := Lib.hid (fun W => rcheck_any ⟨mode, bits, win, reo, prx, pro, ppd, pby, mrx, qb⟩ W)
  unfold Cf.a at HCK HRC
  have HUS : ∀ W, Calls Try.prog 39 #[.int .i64 0] W fun e w' => e = .returned (.agg #[.int .i64 0, .int .i64 0, .int .i64 0, .int .i64 0, .int .i64 0, .int .i64 0, .int .i64 0, .int .i64 0, .int .i64 0, .int .i64 5000]) ∧ Below W.heap.size W w' := fun W => pusual_any 0 W
  have HUSH := Lib.hid HUS
  have HCU : ∀ W, Calls Try.prog 38 #[.agg #[.int .i64 0, .int .i64 0, .int .i64 0, .int .i64 0, .int .i64 0, .int .i64 0, .int .i64 0, .int .i64 0, .int .i64 0, .int .i64 5000]] W fun e w' => e = .returned (.int .i64 0) ∧ Below W.heap.size W w' := by
    intro W
    have h := pcheck_any ⟨0, 0, 0, 0, 0, 0, 0, 0, 0, 5000⟩ W
    rw [show checkF ⟨0, 0, 0, 0, 0, 0, 0, 0, 0, 5000⟩ = 0 from by decide +kernel] at h
    exact h
  have HCUH := Lib.hid HCU
  clear HUS HCU
  generalize checkF ⟨mode, bits, win, reo, prx, pro, ppd, pby, mrx, qb⟩ = ck at *
  go_enter Try.func6, Try.ntmps6
  go_wp2_with (first
    | (go_at_call 39; (with_reducible refine (HUSH.out _).mono ?_); rintro e w1 ⟨rfl, hb1⟩; (have B1 := Lib.hid (bl_alloc (bl_step HB0.out hb1) (.cells #[.int .i64 0, .int .i64 0, .int .i64 0, .int .i64 0, .int .i64 0, .int .i64 0, .int .i64 0, .int .i64 0, .int .i64 0, .int .i64 5000] 49)); have RC1 := Lib.hid ((ROW.out.later hb1).more (.cells #[.int .i64 0, .int .i64 0, .int .i64 0, .int .i64 0, .int .i64 0, .int .i64 0, .int .i64 0, .int .i64 0, .int .i64 0, .int .i64 5000] 49)); have RU1 := Lib.hid (Row.made w1 49 #[.int .i64 0, .int .i64 0, .int .i64 0, .int .i64 0, .int .i64 0, .int .i64 0, .int .i64 0, .int .i64 0, .int .i64 0, .int .i64 5000]); clear hb1; obtain ⟨u0, u1, u2, u3, u4, u5, u6, u7, u8, u9⟩ := cells10 RU1.out))
    | (go_at_call 38; (with_reducible refine (HCUH.out _).mono ?_); rintro e w2 ⟨rfl, hb2⟩; (have BX := Lib.hid (bl_step B1.out hb2); have ROWC := Lib.hid (RC1.out.later hb2); have RU2 := Lib.hid (RU1.out.later hb2); clear hb2 u0 u1 u2 u3 u4 u5 u6 u7 u8 u9; obtain ⟨u0, u1, u2, u3, u4, u5, u6, u7, u8, u9⟩ := cells10 RU2.out)))
  generalize w2 = WX at *
  obtain ⟨d0, d1, d2, d3, d4, d5, d6, d7, d8, d9⟩ := cells10 ROWC.out.drawn
  go_region_held3 (fun w' => w'.cell? ⟨w.heap.size, 0, none⟩ = some (.int .i64 mode) ∧ w'.cell? ⟨w.heap.size, 1, none⟩ = some (.int .i64 bits) ∧ w'.cell? ⟨w.heap.size, 2, none⟩ = some (.int .i64 win) ∧ w'.cell? ⟨w.heap.size, 3, none⟩ = some (.int .i64 reo) ∧ w'.cell? ⟨w.heap.size, 4, none⟩ = some (.int .i64 prx) ∧ w'.cell? ⟨w.heap.size, 5, none⟩ = some (.int .i64 pro) ∧ w'.cell? ⟨w.heap.size, 6, none⟩ = some (.int .i64 ppd) ∧ w'.cell? ⟨w.heap.size, 7, none⟩ = some (.int .i64 pby) ∧ w'.cell? ⟨w.heap.size, 8, none⟩ = some (.int .i64 mrx) ∧ w'.cell? ⟨w.heap.size, 9, none⟩ = some (.int .i64 qb)) (first | assumption | exact ⟨d0, d1, d2, d3, d4, d5, d6, d7, d8, d9⟩ | exact k3 | exact k4 | exact k5 | go_keep) (first
    | (go_at_call 36; (with_reducible refine (palive_any _).mono ?_); rintro e v3 ⟨rfl, hb3⟩; have B3 := Lib.hid (show Below WX.heap.size WX v3 from bl_step (bl_drew (Below.refl _ _)) hb3); have k3 := cells10 (ROWC.out.later B3.out); clear hb3)
    | (go_at_call 38; (with_reducible refine (HCK.out _).mono ?_); rintro e v4 ⟨rfl, hb4⟩; have B4 := Lib.hid (bl_step B3.out hb4); have k4 := cells10 (ROWC.out.later B4.out); clear hb4)
    | (go_at_call 40; (with_reducible refine (HRC.out _).mono ?_); rintro e v5 ⟨rfl, hb5⟩; have B5 := Lib.hid (bl_step B4.out hb5); have k5 := cells10 (ROWC.out.later B5.out); clear hb5))
  go_wp2
  go_ret
  exact ⟨ret_bool (by simp), bl_step BX.out B5.out⟩
set_option maxRecDepth 100000 in
set_option maxHeartbeats 6400000 in
theorem pconf1 (mode bits win reo prx pro ppd pby mrx qb : Int) (w : World) :
    Calls Try.prog 6 #[.agg #[.int .i64 mode, .int .i64 bits, .int .i64 win, .int .i64 reo, .int .i64 prx, .int .i64 pro, .int .i64 ppd, .int .i64 pby, .int .i64 mrx, .int .i64 qb], .int .i64 1] w fun e w' => e = .returned (.bool true) ∧ Below w.heap.size w w' := by
  have ROW := Lib.hid (Row.made w 49 #[.int .i64 mode, .int .i64 bits, .int .i64 win, .int .i64 reo, .int .i64 prx, .int .i64 pro, .int .i64 ppd, .int .i64 pby, .int .i64 mrx, .int .i64 qb])
  have HB0 := Lib.hid (bl_alloc (Below.refl w.heap.size w) (.cells #[.int .i64 mode, .int .i64 bits, .int .i64 win, .int .i64 reo, .int .i64 prx, .int .i64 pro, .int .i64 ppd, .int .i64 pby, .int .i64 mrx, .int .i64 qb] 49))
  have HCK := Lib.hid (fun W => pcheck_any ⟨mode, bits, win, reo, prx, pro, ppd, pby, mrx, qb⟩ W)
  have HRC := Lib.hid (fun W => rcheck_any ⟨mode, bits, win, reo, prx, pro, ppd, pby, mrx, qb⟩ W)
  unfold Cf.a at HCK HRC
  have HUS : ∀ W, Calls Try.prog 39 #[.int .i64 1] W fun e w' => e = .returned (.agg #[.int .i64 1, .int .i64 5, .int .i64 16, .int .i64 4, .int .i64 0, .int .i64 0, .int .i64 0, .int .i64 0, .int .i64 0, .int .i64 5000]) ∧ Below W.heap.size W w' := fun W => pusual_any 1 W
  have HUSH := Lib.hid HUS
  have HCU : ∀ W, Calls Try.prog 38 #[.agg #[.int .i64 1, .int .i64 5, .int .i64 16, .int .i64 4, .int .i64 0, .int .i64 0, .int .i64 0, .int .i64 0, .int .i64 0, .int .i64 5000]] W fun e w' => e = .returned (.int .i64 0) ∧ Below W.heap.size W w' := by
    intro W
    have h := pcheck_any ⟨1, 5, 16, 4, 0, 0, 0, 0, 0, 5000⟩ W
    rw [show checkF ⟨1, 5, 16, 4, 0, 0, 0, 0, 0, 5000⟩ = 0 from by decide +kernel] at h
    exact h
  have HCUH := Lib.hid HCU
  clear HUS HCU
  generalize checkF ⟨mode, bits, win, reo, prx, pro, ppd, pby, mrx, qb⟩ = ck at *
  go_enter Try.func6, Try.ntmps6
  go_wp2_with (first
    | (go_at_call 39; (with_reducible refine (HUSH.out _).mono ?_); rintro e w1 ⟨rfl, hb1⟩; (have B1 := Lib.hid (bl_alloc (bl_step HB0.out hb1) (.cells #[.int .i64 1, .int .i64 5, .int .i64 16, .int .i64 4, .int .i64 0, .int .i64 0, .int .i64 0, .int .i64 0, .int .i64 0, .int .i64 5000] 49)); have RC1 := Lib.hid ((ROW.out.later hb1).more (.cells #[.int .i64 1, .int .i64 5, .int .i64 16, .int .i64 4, .int .i64 0, .int .i64 0, .int .i64 0, .int .i64 0, .int .i64 0, .int .i64 5000] 49)); have RU1 := Lib.hid (Row.made w1 49 #[.int .i64 1, .int .i64 5, .int .i64 16, .int .i64 4, .int .i64 0, .int .i64 0, .int .i64 0, .int .i64 0, .int .i64 0, .int .i64 5000]); clear hb1; obtain ⟨u0, u1, u2, u3, u4, u5, u6, u7, u8, u9⟩ := cells10 RU1.out))
    | (go_at_call 38; (with_reducible refine (HCUH.out _).mono ?_); rintro e w2 ⟨rfl, hb2⟩; (have BX := Lib.hid (bl_step B1.out hb2); have ROWC := Lib.hid (RC1.out.later hb2); have RU2 := Lib.hid (RU1.out.later hb2); clear hb2 u0 u1 u2 u3 u4 u5 u6 u7 u8 u9; obtain ⟨u0, u1, u2, u3, u4, u5, u6, u7, u8, u9⟩ := cells10 RU2.out)))
  generalize w2 = WX at *
  obtain ⟨d0, d1, d2, d3, d4, d5, d6, d7, d8, d9⟩ := cells10 ROWC.out.drawn
  go_region_held3 (fun w' => w'.cell? ⟨w.heap.size, 0, none⟩ = some (.int .i64 mode) ∧ w'.cell? ⟨w.heap.size, 1, none⟩ = some (.int .i64 bits) ∧ w'.cell? ⟨w.heap.size, 2, none⟩ = some (.int .i64 win) ∧ w'.cell? ⟨w.heap.size, 3, none⟩ = some (.int .i64 reo) ∧ w'.cell? ⟨w.heap.size, 4, none⟩ = some (.int .i64 prx) ∧ w'.cell? ⟨w.heap.size, 5, none⟩ = some (.int .i64 pro) ∧ w'.cell? ⟨w.heap.size, 6, none⟩ = some (.int .i64 ppd) ∧ w'.cell? ⟨w.heap.size, 7, none⟩ = some (.int .i64 pby) ∧ w'.cell? ⟨w.heap.size, 8, none⟩ = some (.int .i64 mrx) ∧ w'.cell? ⟨w.heap.size, 9, none⟩ = some (.int .i64 qb)) (first | assumption | exact ⟨d0, d1, d2, d3, d4, d5, d6, d7, d8, d9⟩ | exact k3 | exact k4 | exact k5 | go_keep) (first
    | (go_at_call 36; (with_reducible refine (palive_any _).mono ?_); rintro e v3 ⟨rfl, hb3⟩; have B3 := Lib.hid (show Below WX.heap.size WX v3 from bl_step (bl_drew (Below.refl _ _)) hb3); have k3 := cells10 (ROWC.out.later B3.out); clear hb3)
    | (go_at_call 38; (with_reducible refine (HCK.out _).mono ?_); rintro e v4 ⟨rfl, hb4⟩; have B4 := Lib.hid (bl_step B3.out hb4); have k4 := cells10 (ROWC.out.later B4.out); clear hb4)
    | (go_at_call 40; (with_reducible refine (HRC.out _).mono ?_); rintro e v5 ⟨rfl, hb5⟩; have B5 := Lib.hid (bl_step B4.out hb5); have k5 := cells10 (ROWC.out.later B5.out); clear hb5))
  go_wp2
  go_ret
  exact ⟨ret_bool (by simp), bl_step BX.out B5.out⟩
set_option maxRecDepth 100000 in
set_option maxHeartbeats 6400000 in
theorem pconf2 (mode bits win reo prx pro ppd pby mrx qb : Int) (w : World) :
    Calls Try.prog 6 #[.agg #[.int .i64 mode, .int .i64 bits, .int .i64 win, .int .i64 reo, .int .i64 prx, .int .i64 pro, .int .i64 ppd, .int .i64 pby, .int .i64 mrx, .int .i64 qb], .int .i64 2] w fun e w' => e = .returned (.bool true) ∧ Below w.heap.size w w' := by
  have ROW := Lib.hid (Row.made w 49 #[.int .i64 mode, .int .i64 bits, .int .i64 win, .int .i64 reo, .int .i64 prx, .int .i64 pro, .int .i64 ppd, .int .i64 pby, .int .i64 mrx, .int .i64 qb])
  have HB0 := Lib.hid (bl_alloc (Below.refl w.heap.size w) (.cells #[.int .i64 mode, .int .i64 bits, .int .i64 win, .int .i64 reo, .int .i64 prx, .int .i64 pro, .int .i64 ppd, .int .i64 pby, .int .i64 mrx, .int .i64 qb] 49))
  have HCK := Lib.hid (fun W => pcheck_any ⟨mode, bits, win, reo, prx, pro, ppd, pby, mrx, qb⟩ W)
  have HRC := Lib.hid (fun W => rcheck_any ⟨mode, bits, win, reo, prx, pro, ppd, pby, mrx, qb⟩ W)
  unfold Cf.a at HCK HRC
  have HUS : ∀ W, Calls Try.prog 39 #[.int .i64 2] W fun e w' => e = .returned (.agg #[.int .i64 2, .int .i64 10, .int .i64 512, .int .i64 4, .int .i64 8, .int .i64 3, .int .i64 4, .int .i64 500, .int .i64 4, .int .i64 5000]) ∧ Below W.heap.size W w' := fun W => pusual_any 2 W
  have HUSH := Lib.hid HUS
  have HCU : ∀ W, Calls Try.prog 38 #[.agg #[.int .i64 2, .int .i64 10, .int .i64 512, .int .i64 4, .int .i64 8, .int .i64 3, .int .i64 4, .int .i64 500, .int .i64 4, .int .i64 5000]] W fun e w' => e = .returned (.int .i64 0) ∧ Below W.heap.size W w' := by
    intro W
    have h := pcheck_any ⟨2, 10, 512, 4, 8, 3, 4, 500, 4, 5000⟩ W
    rw [show checkF ⟨2, 10, 512, 4, 8, 3, 4, 500, 4, 5000⟩ = 0 from by decide +kernel] at h
    exact h
  have HCUH := Lib.hid HCU
  clear HUS HCU
  generalize checkF ⟨mode, bits, win, reo, prx, pro, ppd, pby, mrx, qb⟩ = ck at *
  go_enter Try.func6, Try.ntmps6
  go_wp2_with (first
    | (go_at_call 39; (with_reducible refine (HUSH.out _).mono ?_); rintro e w1 ⟨rfl, hb1⟩; (have B1 := Lib.hid (bl_alloc (bl_step HB0.out hb1) (.cells #[.int .i64 2, .int .i64 10, .int .i64 512, .int .i64 4, .int .i64 8, .int .i64 3, .int .i64 4, .int .i64 500, .int .i64 4, .int .i64 5000] 49)); have RC1 := Lib.hid ((ROW.out.later hb1).more (.cells #[.int .i64 2, .int .i64 10, .int .i64 512, .int .i64 4, .int .i64 8, .int .i64 3, .int .i64 4, .int .i64 500, .int .i64 4, .int .i64 5000] 49)); have RU1 := Lib.hid (Row.made w1 49 #[.int .i64 2, .int .i64 10, .int .i64 512, .int .i64 4, .int .i64 8, .int .i64 3, .int .i64 4, .int .i64 500, .int .i64 4, .int .i64 5000]); clear hb1; obtain ⟨u0, u1, u2, u3, u4, u5, u6, u7, u8, u9⟩ := cells10 RU1.out))
    | (go_at_call 38; (with_reducible refine (HCUH.out _).mono ?_); rintro e w2 ⟨rfl, hb2⟩; (have BX := Lib.hid (bl_step B1.out hb2); have ROWC := Lib.hid (RC1.out.later hb2); have RU2 := Lib.hid (RU1.out.later hb2); clear hb2 u0 u1 u2 u3 u4 u5 u6 u7 u8 u9; obtain ⟨u0, u1, u2, u3, u4, u5, u6, u7, u8, u9⟩ := cells10 RU2.out)))
  generalize w2 = WX at *
  obtain ⟨d0, d1, d2, d3, d4, d5, d6, d7, d8, d9⟩ := cells10 ROWC.out.drawn
  go_region_held3 (fun w' => w'.cell? ⟨w.heap.size, 0, none⟩ = some (.int .i64 mode) ∧ w'.cell? ⟨w.heap.size, 1, none⟩ = some (.int .i64 bits) ∧ w'.cell? ⟨w.heap.size, 2, none⟩ = some (.int .i64 win) ∧ w'.cell? ⟨w.heap.size, 3, none⟩ = some (.int .i64 reo) ∧ w'.cell? ⟨w.heap.size, 4, none⟩ = some (.int .i64 prx) ∧ w'.cell? ⟨w.heap.size, 5, none⟩ = some (.int .i64 pro) ∧ w'.cell? ⟨w.heap.size, 6, none⟩ = some (.int .i64 ppd) ∧ w'.cell? ⟨w.heap.size, 7, none⟩ = some (.int .i64 pby) ∧ w'.cell? ⟨w.heap.size, 8, none⟩ = some (.int .i64 mrx) ∧ w'.cell? ⟨w.heap.size, 9, none⟩ = some (.int .i64 qb)) (first | assumption | exact ⟨d0, d1, d2, d3, d4, d5, d6, d7, d8, d9⟩ | exact k3 | exact k4 | exact k5 | go_keep) (first
    | (go_at_call 36; (with_reducible refine (palive_any _).mono ?_); rintro e v3 ⟨rfl, hb3⟩; have B3 := Lib.hid (show Below WX.heap.size WX v3 from bl_step (bl_drew (Below.refl _ _)) hb3); have k3 := cells10 (ROWC.out.later B3.out); clear hb3)
    | (go_at_call 38; (with_reducible refine (HCK.out _).mono ?_); rintro e v4 ⟨rfl, hb4⟩; have B4 := Lib.hid (bl_step B3.out hb4); have k4 := cells10 (ROWC.out.later B4.out); clear hb4)
    | (go_at_call 40; (with_reducible refine (HRC.out _).mono ?_); rintro e v5 ⟨rfl, hb5⟩; have B5 := Lib.hid (bl_step B4.out hb5); have k5 := cells10 (ROWC.out.later B5.out); clear hb5))
  go_wp2
  go_ret
  exact ⟨ret_bool (by simp), bl_step BX.out B5.out⟩
set_option maxRecDepth 100000 in
set_option maxHeartbeats 6400000 in
theorem pconfx (mode bits win reo prx pro ppd pby mrx qb md : Int) (w : World) (hm : md < 0 ∨ 2 < md) :
    Calls Try.prog 6 #[.agg #[.int .i64 mode, .int .i64 bits, .int .i64 win, .int .i64 reo, .int .i64 prx, .int .i64 pro, .int .i64 ppd, .int .i64 pby, .int .i64 mrx, .int .i64 qb], .int .i64 md] w fun e w' => e = .returned (.bool true) ∧ Below w.heap.size w w' := by
  have ROW := Lib.hid (Row.made w 49 #[.int .i64 mode, .int .i64 bits, .int .i64 win, .int .i64 reo, .int .i64 prx, .int .i64 pro, .int .i64 ppd, .int .i64 pby, .int .i64 mrx, .int .i64 qb])
  have HB0 := Lib.hid (bl_alloc (Below.refl w.heap.size w) (.cells #[.int .i64 mode, .int .i64 bits, .int .i64 win, .int .i64 reo, .int .i64 prx, .int .i64 pro, .int .i64 ppd, .int .i64 pby, .int .i64 mrx, .int .i64 qb] 49))
  have HCK := Lib.hid (fun W => pcheck_any ⟨mode, bits, win, reo, prx, pro, ppd, pby, mrx, qb⟩ W)
  have HRC := Lib.hid (fun W => rcheck_any ⟨mode, bits, win, reo, prx, pro, ppd, pby, mrx, qb⟩ W)
  unfold Cf.a at HCK HRC
  have HUS : ∀ W, Calls Try.prog 39 #[.int .i64 md] W fun e w' => e = .returned (.agg #[.int .i64 0, .int .i64 0, .int .i64 0, .int .i64 0, .int .i64 0, .int .i64 0, .int .i64 0, .int .i64 0, .int .i64 0, .int .i64 0]) ∧ Below W.heap.size W w' := by
    intro W
    have h := pusual_any md W
    rw [show usF md = ⟨0, 0, 0, 0, 0, 0, 0, 0, 0, 0⟩ from by unfold usF; rw [if_neg (by omega), if_neg (by omega), if_neg (by omega)]] at h
    exact h
  have HUSH := Lib.hid HUS
  clear HUS
  generalize checkF ⟨mode, bits, win, reo, prx, pro, ppd, pby, mrx, qb⟩ = ck at *
  rcases hm with hm | hm
  · have g1 : decide (md < 0) = true := decide_eq_true hm
    clear hm
    go_enter Try.func6, Try.ntmps6
    go_wp2_with (first
      | (go_at_call 39; (with_reducible refine (HUSH.out _).mono ?_); rintro e w1 ⟨rfl, hb1⟩; (have B1 := Lib.hid (bl_alloc (bl_step HB0.out hb1) (.cells #[.int .i64 0, .int .i64 0, .int .i64 0, .int .i64 0, .int .i64 0, .int .i64 0, .int .i64 0, .int .i64 0, .int .i64 0, .int .i64 0] 49)); have RC1 := Lib.hid ((ROW.out.later hb1).more (.cells #[.int .i64 0, .int .i64 0, .int .i64 0, .int .i64 0, .int .i64 0, .int .i64 0, .int .i64 0, .int .i64 0, .int .i64 0, .int .i64 0] 49)); have RU1 := Lib.hid (Row.made w1 49 #[.int .i64 0, .int .i64 0, .int .i64 0, .int .i64 0, .int .i64 0, .int .i64 0, .int .i64 0, .int .i64 0, .int .i64 0, .int .i64 0]); clear hb1; obtain ⟨u0, u1, u2, u3, u4, u5, u6, u7, u8, u9⟩ := cells10 RU1.out)))
    have BX := Lib.hid B1.out
    have ROWC := Lib.hid RC1.out
    generalize (w1.alloc (.cells #[.int .i64 0, .int .i64 0, .int .i64 0, .int .i64 0, .int .i64 0, .int .i64 0, .int .i64 0, .int .i64 0, .int .i64 0, .int .i64 0] 49)) = WX at *
    obtain ⟨d0, d1, d2, d3, d4, d5, d6, d7, d8, d9⟩ := cells10 ROWC.out.drawn
    go_region_held3 (fun w' => w'.cell? ⟨w.heap.size, 0, none⟩ = some (.int .i64 mode) ∧ w'.cell? ⟨w.heap.size, 1, none⟩ = some (.int .i64 bits) ∧ w'.cell? ⟨w.heap.size, 2, none⟩ = some (.int .i64 win) ∧ w'.cell? ⟨w.heap.size, 3, none⟩ = some (.int .i64 reo) ∧ w'.cell? ⟨w.heap.size, 4, none⟩ = some (.int .i64 prx) ∧ w'.cell? ⟨w.heap.size, 5, none⟩ = some (.int .i64 pro) ∧ w'.cell? ⟨w.heap.size, 6, none⟩ = some (.int .i64 ppd) ∧ w'.cell? ⟨w.heap.size, 7, none⟩ = some (.int .i64 pby) ∧ w'.cell? ⟨w.heap.size, 8, none⟩ = some (.int .i64 mrx) ∧ w'.cell? ⟨w.heap.size, 9, none⟩ = some (.int .i64 qb)) (first | assumption | exact ⟨d0, d1, d2, d3, d4, d5, d6, d7, d8, d9⟩ | exact k3 | exact k4 | exact k5 | go_keep) (first
      | (go_at_call 36; (with_reducible refine (palive_any _).mono ?_); rintro e v3 ⟨rfl, hb3⟩; have B3 := Lib.hid (show Below WX.heap.size WX v3 from bl_step (bl_drew (Below.refl _ _)) hb3); have k3 := cells10 (ROWC.out.later B3.out); clear hb3)
      | (go_at_call 38; (with_reducible refine (HCK.out _).mono ?_); rintro e v4 ⟨rfl, hb4⟩; have B4 := Lib.hid (bl_step B3.out hb4); have k4 := cells10 (ROWC.out.later B4.out); clear hb4)
      | (go_at_call 40; (with_reducible refine (HRC.out _).mono ?_); rintro e v5 ⟨rfl, hb5⟩; have B5 := Lib.hid (bl_step B4.out hb5); have k5 := cells10 (ROWC.out.later B5.out); clear hb5))
    go_wp2
    go_ret
    exact ⟨ret_bool (by simp), bl_step BX.out B5.out⟩
  · have g1 : decide (md < 0) = false := decide_eq_false (by omega)
    have g2 : decide (2 < md) = true := decide_eq_true hm
    clear hm
    go_enter Try.func6, Try.ntmps6
    go_wp2_with (first
      | (go_at_call 39; (with_reducible refine (HUSH.out _).mono ?_); rintro e w1 ⟨rfl, hb1⟩; (have B1 := Lib.hid (bl_alloc (bl_step HB0.out hb1) (.cells #[.int .i64 0, .int .i64 0, .int .i64 0, .int .i64 0, .int .i64 0, .int .i64 0, .int .i64 0, .int .i64 0, .int .i64 0, .int .i64 0] 49)); have RC1 := Lib.hid ((ROW.out.later hb1).more (.cells #[.int .i64 0, .int .i64 0, .int .i64 0, .int .i64 0, .int .i64 0, .int .i64 0, .int .i64 0, .int .i64 0, .int .i64 0, .int .i64 0] 49)); have RU1 := Lib.hid (Row.made w1 49 #[.int .i64 0, .int .i64 0, .int .i64 0, .int .i64 0, .int .i64 0, .int .i64 0, .int .i64 0, .int .i64 0, .int .i64 0, .int .i64 0]); clear hb1; obtain ⟨u0, u1, u2, u3, u4, u5, u6, u7, u8, u9⟩ := cells10 RU1.out)))
    have BX := Lib.hid B1.out
    have ROWC := Lib.hid RC1.out
    generalize (w1.alloc (.cells #[.int .i64 0, .int .i64 0, .int .i64 0, .int .i64 0, .int .i64 0, .int .i64 0, .int .i64 0, .int .i64 0, .int .i64 0, .int .i64 0] 49)) = WX at *
    obtain ⟨d0, d1, d2, d3, d4, d5, d6, d7, d8, d9⟩ := cells10 ROWC.out.drawn
    go_region_held3 (fun w' => w'.cell? ⟨w.heap.size, 0, none⟩ = some (.int .i64 mode) ∧ w'.cell? ⟨w.heap.size, 1, none⟩ = some (.int .i64 bits) ∧ w'.cell? ⟨w.heap.size, 2, none⟩ = some (.int .i64 win) ∧ w'.cell? ⟨w.heap.size, 3, none⟩ = some (.int .i64 reo) ∧ w'.cell? ⟨w.heap.size, 4, none⟩ = some (.int .i64 prx) ∧ w'.cell? ⟨w.heap.size, 5, none⟩ = some (.int .i64 pro) ∧ w'.cell? ⟨w.heap.size, 6, none⟩ = some (.int .i64 ppd) ∧ w'.cell? ⟨w.heap.size, 7, none⟩ = some (.int .i64 pby) ∧ w'.cell? ⟨w.heap.size, 8, none⟩ = some (.int .i64 mrx) ∧ w'.cell? ⟨w.heap.size, 9, none⟩ = some (.int .i64 qb)) (first | assumption | exact ⟨d0, d1, d2, d3, d4, d5, d6, d7, d8, d9⟩ | exact k3 | exact k4 | exact k5 | go_keep) (first
      | (go_at_call 36; (with_reducible refine (palive_any _).mono ?_); rintro e v3 ⟨rfl, hb3⟩; have B3 := Lib.hid (show Below WX.heap.size WX v3 from bl_step (bl_drew (Below.refl _ _)) hb3); have k3 := cells10 (ROWC.out.later B3.out); clear hb3)
      | (go_at_call 38; (with_reducible refine (HCK.out _).mono ?_); rintro e v4 ⟨rfl, hb4⟩; have B4 := Lib.hid (bl_step B3.out hb4); have k4 := cells10 (ROWC.out.later B4.out); clear hb4)
      | (go_at_call 40; (with_reducible refine (HRC.out _).mono ?_); rintro e v5 ⟨rfl, hb5⟩; have B5 := Lib.hid (bl_step B4.out hb5); have k5 := cells10 (ROWC.out.later B5.out); clear hb5))
    go_wp2
    go_ret
    exact ⟨ret_bool (by simp), bl_step BX.out B5.out⟩
theorem pconf_all (c : Cf) (mode : Int) (w : World) : Calls Try.prog 6 #[.agg c.a, .int .i64 mode] w fun e w' => e = .returned (.bool true) ∧ Below w.heap.size w w' := by
  obtain ⟨m0, bits, win, reo, prx, pro, ppd, pby, mrx, qb⟩ := c
  by_cases h0 : mode = 0
  · subst h0; exact pconf0 m0 bits win reo prx pro ppd pby mrx qb w
  · by_cases h1 : mode = 1
    · subst h1; exact pconf1 m0 bits win reo prx pro ppd pby mrx qb w
    · by_cases h2 : mode = 2
      · subst h2; exact pconf2 m0 bits win reo prx pro ppd pby mrx qb w
      · exact pconfx m0 bits win reo prx pro ppd pby mrx qb mode w (by omega)
end Go.Proofs.Ytfgjlhklioijmaa
namespace Go.Proofs.Ytfgjlhklioijmaa
open Go.ChangeShapes Go.WideShapes Go.ChangeAt Go.RowKit

theorem lawOwn : ownKnob Try.prog.godebug = none := by kernel_rfl
theorem lawLaid : laidOutB Try.prog = true := by kernel_rfl

section
variable {H : Type} {enc : TypeId × Value → H} {P : Program}
/-- what was read in the old world is read in the new one -/
theorem args_stay (hl : laidOutB P = true) {W W' : World} (hb : Below W.heap.size W W') : ∀ (ts : List TypeId) (vs : List Value) (ds : List (DataW H)) (ps : List MemPlace),
    (∀ t ∈ ts, P.readableRec t = true ∧ t < P.types.size) → DataW.TrodAll enc P W 0 (fun _ => true) true ts vs ds ps → (∀ x ∈ ps, x.block < W.heap.size) →
    DataW.TrodAll enc P W' 0 (fun b => decide (b < W.heap.size)) true ts vs ds ps := by
  intro ts
  induction ts with
  | nil =>
    intro vs ds ps _ h _
    obtain ⟨rfl, rfl, rfl⟩ := trodAll_nil h
    exact trodAll_mk0
  | cons t ts ih =>
    intro vs ds ps hr h hlt
    obtain ⟨v, vs', d, ds', p, q, rfl, rfl, rfl, h1, h2⟩ := trodAll_cons h
    have ht := hr t (List.mem_cons_self ..)
    exact trodAll_cons_mk (Below.trod hl ht.1 ht.2 h1 hb fun x hx => hlt x (List.mem_append_left _ hx))
      (ih vs' ds' q (fun u hu => hr u (List.mem_cons_of_mem _ hu)) h2 fun x hx => hlt x (List.mem_append_right _ hx))

theorem law_post {f : Func} {s : ChangeSpec} {W W' : World} {args : Array Value} {ds gs : List (DataW H)} {before : List MemPlace} {B : TypeId}
    (hl : laidOutB P = true) (hr : f.params.toList.all (fun t => P.readableRec t && decide (t < P.types.size)) = true) (hv : s.vars = [])
    (hW : DataW.Whole enc P f.params.toList s.vars false W args.toList ds gs before)
    (hs : s.fn H (ds ++ gs) = { results := [.lit (.bool true)], args := ds }) (ht : f.resultTypes = #[B]) (hB : P.underlying B = some .bool)
    (hb : Below W.heap.size W W') : s.post enc P f false true false false W args (.bool true) W' := by
  have hW' := hW
  obtain ⟨p, q, hA, hV, rfl, _, _⟩ := hW
  rw [hv] at hV
  obtain ⟨rfl, rfl⟩ := trodVars_none hV
  refine ⟨ds, [], p ++ [], [], p, [], hW', ?_, ?_, ?_, hb.frame _, fun h => by cases h⟩
  · rw [hs, ht]
    exact trodAll_mk1 (shut_bool hB true)
  · rw [hs]
    exact args_stay hl hb _ _ _ _ (fun t h => by have := List.all_eq_true.1 hr t h; simpa using this) hA fun x hx => hW'.lt x (List.mem_append_left _ hx)
  · rw [hs, hv]
    exact rfl
end
end Go.Proofs.Ytfgjlhklioijmaa
