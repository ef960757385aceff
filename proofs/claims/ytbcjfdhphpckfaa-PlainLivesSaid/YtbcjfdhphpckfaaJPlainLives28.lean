/-
  pdu: the document's Check. pdu: the document's Check, of the mode that asks. pdu: the document's Check, of packets with numbers. PduConfigs: the law walked. A law's row follows from its walk: the call returns true, and below the heap's old size the world is as it was; then every argument reads as it did. How the packets and bytes that a statement draws read. How calls of two numbers and bytes that a statement draws read.
-/
import Derived.Test.YtbcjfdhphpckfaaJPlainLives14
import Derived.Test.YtbcjfdhphpckfaaJPlainLives11
import Derived.Test.YtbcjfdhphpckfaaJPlainLives27
import Derived.Test.YtbcjfdhphpckfaaRows
import Derived.WalkKit
import Derived.ProofKit
import Derived.OpenShut
import Derived.Test.YtbcjfdhphpckfaaJPlainLives09
import Derived.SizedLaws
import Derived.Deep.Matrix
import Derived.Lib.SmallJoins
import Derived.Test.YtbcjfdhphpckfaaJPlainLives01
import Derived.Deep.Slices
import Derived.Deep.SlicePairs
namespace Go.Proofs.Ytbcjfdhphpckfaa
open Go.RowKit

theorem rpis_any (n l m : Int) (w : World) : Calls Try.prog 136 #[.int .i64 n, .int .i64 l, .int .i64 m] w fun e w' => e = .returned (.bool (inB n l m)) ∧ w = w' := by
  by_cases h1 : l ≤ n
  · by_cases h2 : n ≤ m
    · have HX := Lib.hid (show inB n l m = true by simp [inB, h1, h2])
      go_enter Try.func136, Try.ntmps136
      go_wp2
      go_ret
      exact ⟨by rw [HX.out]; rfl, rfl⟩
    · have HX := Lib.hid (show inB n l m = false by simp [inB, h2])
      have h2' : decide (n ≤ m) = false := decide_eq_false h2
      go_enter Try.func136, Try.ntmps136
      go_wp2
      go_ret
      exact ⟨by rw [HX.out]; rfl, rfl⟩
  · have HX := Lib.hid (show inB n l m = false by simp [inB, h1])
    have h2' : decide (l ≤ n) = false := decide_eq_false h1
    go_enter Try.func136, Try.ntmps136
    go_wp2
    go_ret
    exact ⟨by rw [HX.out]; rfl, rfl⟩
set_option maxRecDepth 100000 in
set_option maxHeartbeats 12800000 in
theorem rcheck0 (bits win reo prx pro ppd pby mrx qb : Int) (w : World) :
    Calls Try.prog 54 #[.agg #[.int .i64 0, .int .i64 bits, .int .i64 win, .int .i64 reo, .int .i64 prx, .int .i64 pro, .int .i64 ppd, .int .i64 pby, .int .i64 mrx, .int .i64 qb]] w fun e w' => e = .returned (.int .i64 (checkF ⟨0, bits, win, reo, prx, pro, ppd, pby, mrx, qb⟩)) ∧ Below w.heap.size w w' := by
  have ROW := Lib.hid (Row.made w 94 #[.int .i64 0, .int .i64 bits, .int .i64 win, .int .i64 reo, .int .i64 prx, .int .i64 pro, .int .i64 ppd, .int .i64 pby, .int .i64 mrx, .int .i64 qb])
  have HB0 := Lib.hid (bl_alloc (Below.refl w.heap.size w) (.cells #[.int .i64 0, .int .i64 bits, .int .i64 win, .int .i64 reo, .int .i64 prx, .int .i64 pro, .int .i64 ppd, .int .i64 pby, .int .i64 mrx, .int .i64 qb] 94))
  have HSZ := Lib.hid (fun W => rsize_any bits W)
  have hsz := sz_bd bits
  have HF := Lib.hid (show checkF ⟨0, bits, win, reo, prx, pro, ppd, pby, mrx, qb⟩ = if inB qb 1 20000 && z8 ⟨0, bits, win, reo, prx, pro, ppd, pby, mrx, qb⟩ then 0 else 1 from rfl)
  have HI0 := Lib.hid (fun W => rpis_any qb 1 20000 W)
  generalize sz bits = sb at *
  cases hq0 : inB qb 1 20000
  · rw [hq0] at HI0 HF
    clear hq0
    go_enter Try.func54, Try.ntmps54
    obtain ⟨c0, c1, c2, c3, c4, c5, c6, c7, c8, c9⟩ := cells10 ROW.out
    go_wp2_with (first
      | (go_at_call 136; (with_reducible refine (HI0.out _).mono ?_); rintro e wx ⟨rfl, rfl⟩)
      | (go_at_call 137; (with_reducible refine (HSZ.out _).mono ?_); rintro e wx ⟨rfl, rfl⟩))
    all_goals
      go_ret
      refine ⟨?_, bl_alloc (Below.refl _ _) _⟩
      rw [HF.out]
      first | rfl | simp_all [z8, z5, in2]
  · rw [hq0] at HI0 HF
    clear hq0
    go_enter Try.func54, Try.ntmps54
    obtain ⟨c0, c1, c2, c3, c4, c5, c6, c7, c8, c9⟩ := cells10 ROW.out
    go_wp2_with (first
      | (go_at_call 136; (with_reducible refine (HI0.out _).mono ?_); rintro e wx ⟨rfl, rfl⟩)
      | (go_at_call 137; (with_reducible refine (HSZ.out _).mono ?_); rintro e wx ⟨rfl, rfl⟩))
    all_goals
      go_ret
      refine ⟨?_, bl_alloc (Below.refl _ _) _⟩
      rw [HF.out]
      first | rfl | simp_all [z8, z5]
set_option maxRecDepth 100000 in
set_option maxHeartbeats 12800000 in
theorem rcheck9 (mode bits win reo prx pro ppd pby mrx qb : Int) (w : World) (g0 : mode ≠ 0) (g1 : mode ≠ 1) (g2 : mode ≠ 2) :
    Calls Try.prog 54 #[.agg #[.int .i64 mode, .int .i64 bits, .int .i64 win, .int .i64 reo, .int .i64 prx, .int .i64 pro, .int .i64 ppd, .int .i64 pby, .int .i64 mrx, .int .i64 qb]] w fun e w' => e = .returned (.int .i64 (checkF ⟨mode, bits, win, reo, prx, pro, ppd, pby, mrx, qb⟩)) ∧ Below w.heap.size w w' := by
  have ROW := Lib.hid (Row.made w 94 #[.int .i64 mode, .int .i64 bits, .int .i64 win, .int .i64 reo, .int .i64 prx, .int .i64 pro, .int .i64 ppd, .int .i64 pby, .int .i64 mrx, .int .i64 qb])
  have HB0 := Lib.hid (bl_alloc (Below.refl w.heap.size w) (.cells #[.int .i64 mode, .int .i64 bits, .int .i64 win, .int .i64 reo, .int .i64 prx, .int .i64 pro, .int .i64 ppd, .int .i64 pby, .int .i64 mrx, .int .i64 qb] 94))
  have HSZ := Lib.hid (fun W => rsize_any bits W)
  have hsz := sz_bd bits
  have HF := Lib.hid (show checkF ⟨mode, bits, win, reo, prx, pro, ppd, pby, mrx, qb⟩ = 9 by unfold checkF; rw [if_neg g0, if_neg g1, if_neg g2])
  have g0' : (mode == 0) = false := by simpa using g0
  have g1' : (mode == 1) = false := by simpa using g1
  have g2' : (mode == 2) = false := by simpa using g2
  clear g0 g1 g2
  have HI0 := Lib.hid (fun W => rpis_any qb 1 20000 W)
  generalize sz bits = sb at *
  cases hq0 : inB qb 1 20000
  · rw [hq0] at HI0
    clear hq0
    go_enter Try.func54, Try.ntmps54
    obtain ⟨c0, c1, c2, c3, c4, c5, c6, c7, c8, c9⟩ := cells10 ROW.out
    go_wp2_with (first
      | (go_at_call 136; (with_reducible refine (HI0.out _).mono ?_); rintro e wx ⟨rfl, rfl⟩)
      | (go_at_call 137; (with_reducible refine (HSZ.out _).mono ?_); rintro e wx ⟨rfl, rfl⟩))
    all_goals
      go_ret
      refine ⟨?_, bl_alloc (Below.refl _ _) _⟩
      rw [HF.out]
      first | rfl | simp_all [z8, z5, in2]
  · rw [hq0] at HI0
    clear hq0
    go_enter Try.func54, Try.ntmps54
    obtain ⟨c0, c1, c2, c3, c4, c5, c6, c7, c8, c9⟩ := cells10 ROW.out
    go_wp2_with (first
      | (go_at_call 136; (with_reducible refine (HI0.out _).mono ?_); rintro e wx ⟨rfl, rfl⟩)
      | (go_at_call 137; (with_reducible refine (HSZ.out _).mono ?_); rintro e wx ⟨rfl, rfl⟩))
    all_goals
      go_ret
      refine ⟨?_, bl_alloc (Below.refl _ _) _⟩
      rw [HF.out]
      first | rfl | simp_all [z8, z5, in2]
end Go.Proofs.Ytbcjfdhphpckfaa
namespace Go.Proofs.Ytbcjfdhphpckfaa
open Go.RowKit

set_option maxRecDepth 100000 in
set_option maxHeartbeats 12800000 in
theorem rcheck2 (bits win reo prx pro ppd pby mrx qb : Int) (w : World) :
    Calls Try.prog 54 #[.agg #[.int .i64 2, .int .i64 bits, .int .i64 win, .int .i64 reo, .int .i64 prx, .int .i64 pro, .int .i64 ppd, .int .i64 pby, .int .i64 mrx, .int .i64 qb]] w fun e w' => e = .returned (.int .i64 (checkF ⟨2, bits, win, reo, prx, pro, ppd, pby, mrx, qb⟩)) ∧ Below w.heap.size w w' := by
  have ROW := Lib.hid (Row.made w 94 #[.int .i64 2, .int .i64 bits, .int .i64 win, .int .i64 reo, .int .i64 prx, .int .i64 pro, .int .i64 ppd, .int .i64 pby, .int .i64 mrx, .int .i64 qb])
  have HB0 := Lib.hid (bl_alloc (Below.refl w.heap.size w) (.cells #[.int .i64 2, .int .i64 bits, .int .i64 win, .int .i64 reo, .int .i64 prx, .int .i64 pro, .int .i64 ppd, .int .i64 pby, .int .i64 mrx, .int .i64 qb] 94))
  have HSZ := Lib.hid (fun W => rsize_any bits W)
  have hsz := sz_bd bits
  have HF := Lib.hid (show checkF ⟨2, bits, win, reo, prx, pro, ppd, pby, mrx, qb⟩ = if inB qb 1 20000 && (in2 bits 10 16 && (inB win 1 (sz bits / 2) && (inB reo 1 1000 && (inB prx 1 1000 && (inB pro 0 1000 && (inB ppd 1 1000 && (inB pby 1 20000 && inB mrx 1 32))))))) then 0 else 1 by unfold checkF qbB numB askB limB; simp [Bool.and_assoc])
  have HI0 := Lib.hid (fun W => rpis_any qb 1 20000 W)
  have HI1 := Lib.hid (fun W => rpis_any win 1 (sz bits / 2) W)
  have HI2 := Lib.hid (fun W => rpis_any reo 1 1000 W)
  have HI3 := Lib.hid (fun W => rpis_any prx 1 1000 W)
  have HI4 := Lib.hid (fun W => rpis_any pro 0 1000 W)
  have HI5 := Lib.hid (fun W => rpis_any ppd 1 1000 W)
  have HI6 := Lib.hid (fun W => rpis_any pby 1 20000 W)
  have HI7 := Lib.hid (fun W => rpis_any mrx 1 32 W)
  generalize sz bits = sb at *
  cases hq0 : inB qb 1 20000
  · rw [hq0] at HI0 HF
    clear hq0
    go_enter Try.func54, Try.ntmps54
    obtain ⟨c0, c1, c2, c3, c4, c5, c6, c7, c8, c9⟩ := cells10 ROW.out
    go_wp2_with (first
      | (go_at_call 136; (with_reducible refine (HI0.out _).mono ?_); rintro e wx ⟨rfl, rfl⟩)
      | (go_at_call 136; (with_reducible refine (HI1.out _).mono ?_); rintro e wx ⟨rfl, rfl⟩)
      | (go_at_call 136; (with_reducible refine (HI2.out _).mono ?_); rintro e wx ⟨rfl, rfl⟩)
      | (go_at_call 136; (with_reducible refine (HI3.out _).mono ?_); rintro e wx ⟨rfl, rfl⟩)
      | (go_at_call 136; (with_reducible refine (HI4.out _).mono ?_); rintro e wx ⟨rfl, rfl⟩)
      | (go_at_call 136; (with_reducible refine (HI5.out _).mono ?_); rintro e wx ⟨rfl, rfl⟩)
      | (go_at_call 136; (with_reducible refine (HI6.out _).mono ?_); rintro e wx ⟨rfl, rfl⟩)
      | (go_at_call 136; (with_reducible refine (HI7.out _).mono ?_); rintro e wx ⟨rfl, rfl⟩)
      | (go_at_call 137; (with_reducible refine (HSZ.out _).mono ?_); rintro e wx ⟨rfl, rfl⟩))
    all_goals
      go_ret
      refine ⟨?_, bl_alloc (Below.refl _ _) _⟩
      rw [HF.out]
      first | rfl | simp_all [z8, z5, in2]
  · rw [hq0] at HI0 HF
    clear hq0
    cases hq1 : inB win 1 (sb / 2)
    · rw [hq1] at HI1 HF
      clear hq1
      go_enter Try.func54, Try.ntmps54
      obtain ⟨c0, c1, c2, c3, c4, c5, c6, c7, c8, c9⟩ := cells10 ROW.out
      go_wp2_with (first
        | (go_at_call 136; (with_reducible refine (HI0.out _).mono ?_); rintro e wx ⟨rfl, rfl⟩)
        | (go_at_call 136; (with_reducible refine (HI1.out _).mono ?_); rintro e wx ⟨rfl, rfl⟩)
        | (go_at_call 136; (with_reducible refine (HI2.out _).mono ?_); rintro e wx ⟨rfl, rfl⟩)
        | (go_at_call 136; (with_reducible refine (HI3.out _).mono ?_); rintro e wx ⟨rfl, rfl⟩)
        | (go_at_call 136; (with_reducible refine (HI4.out _).mono ?_); rintro e wx ⟨rfl, rfl⟩)
        | (go_at_call 136; (with_reducible refine (HI5.out _).mono ?_); rintro e wx ⟨rfl, rfl⟩)
        | (go_at_call 136; (with_reducible refine (HI6.out _).mono ?_); rintro e wx ⟨rfl, rfl⟩)
        | (go_at_call 136; (with_reducible refine (HI7.out _).mono ?_); rintro e wx ⟨rfl, rfl⟩)
        | (go_at_call 137; (with_reducible refine (HSZ.out _).mono ?_); rintro e wx ⟨rfl, rfl⟩))
      all_goals
        go_ret
        refine ⟨?_, bl_alloc (Below.refl _ _) _⟩
        rw [HF.out]
        first | rfl | simp_all [in2]
    · rw [hq1] at HI1 HF
      clear hq1
      cases hq2 : inB reo 1 1000
      · rw [hq2] at HI2 HF
        clear hq2
        go_enter Try.func54, Try.ntmps54
        obtain ⟨c0, c1, c2, c3, c4, c5, c6, c7, c8, c9⟩ := cells10 ROW.out
        go_wp2_with (first
          | (go_at_call 136; (with_reducible refine (HI0.out _).mono ?_); rintro e wx ⟨rfl, rfl⟩)
          | (go_at_call 136; (with_reducible refine (HI1.out _).mono ?_); rintro e wx ⟨rfl, rfl⟩)
          | (go_at_call 136; (with_reducible refine (HI2.out _).mono ?_); rintro e wx ⟨rfl, rfl⟩)
          | (go_at_call 136; (with_reducible refine (HI3.out _).mono ?_); rintro e wx ⟨rfl, rfl⟩)
          | (go_at_call 136; (with_reducible refine (HI4.out _).mono ?_); rintro e wx ⟨rfl, rfl⟩)
          | (go_at_call 136; (with_reducible refine (HI5.out _).mono ?_); rintro e wx ⟨rfl, rfl⟩)
          | (go_at_call 136; (with_reducible refine (HI6.out _).mono ?_); rintro e wx ⟨rfl, rfl⟩)
          | (go_at_call 136; (with_reducible refine (HI7.out _).mono ?_); rintro e wx ⟨rfl, rfl⟩)
          | (go_at_call 137; (with_reducible refine (HSZ.out _).mono ?_); rintro e wx ⟨rfl, rfl⟩))
        all_goals
          go_ret
          refine ⟨?_, bl_alloc (Below.refl _ _) _⟩
          rw [HF.out]
          first | rfl | simp_all [in2]
      · rw [hq2] at HI2 HF
        clear hq2
        cases hq3 : inB prx 1 1000
        · rw [hq3] at HI3 HF
          clear hq3
          go_enter Try.func54, Try.ntmps54
          obtain ⟨c0, c1, c2, c3, c4, c5, c6, c7, c8, c9⟩ := cells10 ROW.out
          go_wp2_with (first
            | (go_at_call 136; (with_reducible refine (HI0.out _).mono ?_); rintro e wx ⟨rfl, rfl⟩)
            | (go_at_call 136; (with_reducible refine (HI1.out _).mono ?_); rintro e wx ⟨rfl, rfl⟩)
            | (go_at_call 136; (with_reducible refine (HI2.out _).mono ?_); rintro e wx ⟨rfl, rfl⟩)
            | (go_at_call 136; (with_reducible refine (HI3.out _).mono ?_); rintro e wx ⟨rfl, rfl⟩)
            | (go_at_call 136; (with_reducible refine (HI4.out _).mono ?_); rintro e wx ⟨rfl, rfl⟩)
            | (go_at_call 136; (with_reducible refine (HI5.out _).mono ?_); rintro e wx ⟨rfl, rfl⟩)
            | (go_at_call 136; (with_reducible refine (HI6.out _).mono ?_); rintro e wx ⟨rfl, rfl⟩)
            | (go_at_call 136; (with_reducible refine (HI7.out _).mono ?_); rintro e wx ⟨rfl, rfl⟩)
            | (go_at_call 137; (with_reducible refine (HSZ.out _).mono ?_); rintro e wx ⟨rfl, rfl⟩))
          all_goals
            go_ret
            refine ⟨?_, bl_alloc (Below.refl _ _) _⟩
            rw [HF.out]
            first | rfl | simp_all [in2]
        · rw [hq3] at HI3 HF
          clear hq3
          cases hq4 : inB pro 0 1000
          · rw [hq4] at HI4 HF
            clear hq4
            go_enter Try.func54, Try.ntmps54
            obtain ⟨c0, c1, c2, c3, c4, c5, c6, c7, c8, c9⟩ := cells10 ROW.out
            go_wp2_with (first
              | (go_at_call 136; (with_reducible refine (HI0.out _).mono ?_); rintro e wx ⟨rfl, rfl⟩)
              | (go_at_call 136; (with_reducible refine (HI1.out _).mono ?_); rintro e wx ⟨rfl, rfl⟩)
              | (go_at_call 136; (with_reducible refine (HI2.out _).mono ?_); rintro e wx ⟨rfl, rfl⟩)
              | (go_at_call 136; (with_reducible refine (HI3.out _).mono ?_); rintro e wx ⟨rfl, rfl⟩)
              | (go_at_call 136; (with_reducible refine (HI4.out _).mono ?_); rintro e wx ⟨rfl, rfl⟩)
              | (go_at_call 136; (with_reducible refine (HI5.out _).mono ?_); rintro e wx ⟨rfl, rfl⟩)
              | (go_at_call 136; (with_reducible refine (HI6.out _).mono ?_); rintro e wx ⟨rfl, rfl⟩)
              | (go_at_call 136; (with_reducible refine (HI7.out _).mono ?_); rintro e wx ⟨rfl, rfl⟩)
              | (go_at_call 137; (with_reducible refine (HSZ.out _).mono ?_); rintro e wx ⟨rfl, rfl⟩))
            all_goals
              go_ret
              refine ⟨?_, bl_alloc (Below.refl _ _) _⟩
              rw [HF.out]
              first | rfl | simp_all [in2]
          · rw [hq4] at HI4 HF
            clear hq4
            cases hq5 : inB ppd 1 1000
            · rw [hq5] at HI5 HF
              clear hq5
              go_enter Try.func54, Try.ntmps54
              obtain ⟨c0, c1, c2, c3, c4, c5, c6, c7, c8, c9⟩ := cells10 ROW.out
              go_wp2_with (first
                | (go_at_call 136; (with_reducible refine (HI0.out _).mono ?_); rintro e wx ⟨rfl, rfl⟩)
                | (go_at_call 136; (with_reducible refine (HI1.out _).mono ?_); rintro e wx ⟨rfl, rfl⟩)
                | (go_at_call 136; (with_reducible refine (HI2.out _).mono ?_); rintro e wx ⟨rfl, rfl⟩)
                | (go_at_call 136; (with_reducible refine (HI3.out _).mono ?_); rintro e wx ⟨rfl, rfl⟩)
                | (go_at_call 136; (with_reducible refine (HI4.out _).mono ?_); rintro e wx ⟨rfl, rfl⟩)
                | (go_at_call 136; (with_reducible refine (HI5.out _).mono ?_); rintro e wx ⟨rfl, rfl⟩)
                | (go_at_call 136; (with_reducible refine (HI6.out _).mono ?_); rintro e wx ⟨rfl, rfl⟩)
                | (go_at_call 136; (with_reducible refine (HI7.out _).mono ?_); rintro e wx ⟨rfl, rfl⟩)
                | (go_at_call 137; (with_reducible refine (HSZ.out _).mono ?_); rintro e wx ⟨rfl, rfl⟩))
              all_goals
                go_ret
                refine ⟨?_, bl_alloc (Below.refl _ _) _⟩
                rw [HF.out]
                first | rfl | simp_all [in2]
            · rw [hq5] at HI5 HF
              clear hq5
              cases hq6 : inB pby 1 20000
              · rw [hq6] at HI6 HF
                clear hq6
                go_enter Try.func54, Try.ntmps54
                obtain ⟨c0, c1, c2, c3, c4, c5, c6, c7, c8, c9⟩ := cells10 ROW.out
                go_wp2_with (first
                  | (go_at_call 136; (with_reducible refine (HI0.out _).mono ?_); rintro e wx ⟨rfl, rfl⟩)
                  | (go_at_call 136; (with_reducible refine (HI1.out _).mono ?_); rintro e wx ⟨rfl, rfl⟩)
                  | (go_at_call 136; (with_reducible refine (HI2.out _).mono ?_); rintro e wx ⟨rfl, rfl⟩)
                  | (go_at_call 136; (with_reducible refine (HI3.out _).mono ?_); rintro e wx ⟨rfl, rfl⟩)
                  | (go_at_call 136; (with_reducible refine (HI4.out _).mono ?_); rintro e wx ⟨rfl, rfl⟩)
                  | (go_at_call 136; (with_reducible refine (HI5.out _).mono ?_); rintro e wx ⟨rfl, rfl⟩)
                  | (go_at_call 136; (with_reducible refine (HI6.out _).mono ?_); rintro e wx ⟨rfl, rfl⟩)
                  | (go_at_call 136; (with_reducible refine (HI7.out _).mono ?_); rintro e wx ⟨rfl, rfl⟩)
                  | (go_at_call 137; (with_reducible refine (HSZ.out _).mono ?_); rintro e wx ⟨rfl, rfl⟩))
                all_goals
                  go_ret
                  refine ⟨?_, bl_alloc (Below.refl _ _) _⟩
                  rw [HF.out]
                  first | rfl | simp_all [in2]
              · rw [hq6] at HI6 HF
                clear hq6
                cases hq7 : inB mrx 1 32
                · rw [hq7] at HI7 HF
                  clear hq7
                  go_enter Try.func54, Try.ntmps54
                  obtain ⟨c0, c1, c2, c3, c4, c5, c6, c7, c8, c9⟩ := cells10 ROW.out
                  go_wp2_with (first
                    | (go_at_call 136; (with_reducible refine (HI0.out _).mono ?_); rintro e wx ⟨rfl, rfl⟩)
                    | (go_at_call 136; (with_reducible refine (HI1.out _).mono ?_); rintro e wx ⟨rfl, rfl⟩)
                    | (go_at_call 136; (with_reducible refine (HI2.out _).mono ?_); rintro e wx ⟨rfl, rfl⟩)
                    | (go_at_call 136; (with_reducible refine (HI3.out _).mono ?_); rintro e wx ⟨rfl, rfl⟩)
                    | (go_at_call 136; (with_reducible refine (HI4.out _).mono ?_); rintro e wx ⟨rfl, rfl⟩)
                    | (go_at_call 136; (with_reducible refine (HI5.out _).mono ?_); rintro e wx ⟨rfl, rfl⟩)
                    | (go_at_call 136; (with_reducible refine (HI6.out _).mono ?_); rintro e wx ⟨rfl, rfl⟩)
                    | (go_at_call 136; (with_reducible refine (HI7.out _).mono ?_); rintro e wx ⟨rfl, rfl⟩)
                    | (go_at_call 137; (with_reducible refine (HSZ.out _).mono ?_); rintro e wx ⟨rfl, rfl⟩))
                  all_goals
                    go_ret
                    refine ⟨?_, bl_alloc (Below.refl _ _) _⟩
                    rw [HF.out]
                    first | rfl | simp_all [in2]
                · rw [hq7] at HI7 HF
                  clear hq7
                  go_enter Try.func54, Try.ntmps54
                  obtain ⟨c0, c1, c2, c3, c4, c5, c6, c7, c8, c9⟩ := cells10 ROW.out
                  go_wp2_with (first
                    | (go_at_call 136; (with_reducible refine (HI0.out _).mono ?_); rintro e wx ⟨rfl, rfl⟩)
                    | (go_at_call 136; (with_reducible refine (HI1.out _).mono ?_); rintro e wx ⟨rfl, rfl⟩)
                    | (go_at_call 136; (with_reducible refine (HI2.out _).mono ?_); rintro e wx ⟨rfl, rfl⟩)
                    | (go_at_call 136; (with_reducible refine (HI3.out _).mono ?_); rintro e wx ⟨rfl, rfl⟩)
                    | (go_at_call 136; (with_reducible refine (HI4.out _).mono ?_); rintro e wx ⟨rfl, rfl⟩)
                    | (go_at_call 136; (with_reducible refine (HI5.out _).mono ?_); rintro e wx ⟨rfl, rfl⟩)
                    | (go_at_call 136; (with_reducible refine (HI6.out _).mono ?_); rintro e wx ⟨rfl, rfl⟩)
                    | (go_at_call 136; (with_reducible refine (HI7.out _).mono ?_); rintro e wx ⟨rfl, rfl⟩)
                    | (go_at_call 137; (with_reducible refine (HSZ.out _).mono ?_); rintro e wx ⟨rfl, rfl⟩))
                  all_goals
                    go_ret
                    refine ⟨?_, bl_alloc (Below.refl _ _) _⟩
                    rw [HF.out]
                    first | rfl | simp_all [in2]
end Go.Proofs.Ytbcjfdhphpckfaa
namespace Go.Proofs.Ytbcjfdhphpckfaa
open Go.RowKit

set_option maxRecDepth 100000 in
set_option maxHeartbeats 12800000 in
theorem rcheck1 (bits win reo prx pro ppd pby mrx qb : Int) (w : World) :
    Calls Try.prog 54 #[.agg #[.int .i64 1, .int .i64 bits, .int .i64 win, .int .i64 reo, .int .i64 prx, .int .i64 pro, .int .i64 ppd, .int .i64 pby, .int .i64 mrx, .int .i64 qb]] w fun e w' => e = .returned (.int .i64 (checkF ⟨1, bits, win, reo, prx, pro, ppd, pby, mrx, qb⟩)) ∧ Below w.heap.size w w' := by
  have ROW := Lib.hid (Row.made w 94 #[.int .i64 1, .int .i64 bits, .int .i64 win, .int .i64 reo, .int .i64 prx, .int .i64 pro, .int .i64 ppd, .int .i64 pby, .int .i64 mrx, .int .i64 qb])
  have HB0 := Lib.hid (bl_alloc (Below.refl w.heap.size w) (.cells #[.int .i64 1, .int .i64 bits, .int .i64 win, .int .i64 reo, .int .i64 prx, .int .i64 pro, .int .i64 ppd, .int .i64 pby, .int .i64 mrx, .int .i64 qb] 94))
  have HSZ := Lib.hid (fun W => rsize_any bits W)
  have hsz := sz_bd bits
  have HF := Lib.hid (show checkF ⟨1, bits, win, reo, prx, pro, ppd, pby, mrx, qb⟩ = if inB qb 1 20000 && (in2 bits 5 10 && (inB win 1 (sz bits / 2) && (inB reo 1 1000 && z5 ⟨1, bits, win, reo, prx, pro, ppd, pby, mrx, qb⟩))) then 0 else 1 by unfold checkF qbB numB limB; simp [Bool.and_assoc])
  have HI0 := Lib.hid (fun W => rpis_any qb 1 20000 W)
  have HI1 := Lib.hid (fun W => rpis_any win 1 (sz bits / 2) W)
  have HI2 := Lib.hid (fun W => rpis_any reo 1 1000 W)
  generalize sz bits = sb at *
  cases hq0 : inB qb 1 20000
  · rw [hq0] at HI0 HF
    clear hq0
    go_enter Try.func54, Try.ntmps54
    obtain ⟨c0, c1, c2, c3, c4, c5, c6, c7, c8, c9⟩ := cells10 ROW.out
    go_wp2_with (first
      | (go_at_call 136; (with_reducible refine (HI0.out _).mono ?_); rintro e wx ⟨rfl, rfl⟩)
      | (go_at_call 136; (with_reducible refine (HI1.out _).mono ?_); rintro e wx ⟨rfl, rfl⟩)
      | (go_at_call 136; (with_reducible refine (HI2.out _).mono ?_); rintro e wx ⟨rfl, rfl⟩)
      | (go_at_call 137; (with_reducible refine (HSZ.out _).mono ?_); rintro e wx ⟨rfl, rfl⟩))
    all_goals
      go_ret
      refine ⟨?_, bl_alloc (Below.refl _ _) _⟩
      rw [HF.out]
      first | rfl | simp_all [z8, z5, in2]
  · rw [hq0] at HI0 HF
    clear hq0
    cases hq1 : inB win 1 (sb / 2)
    · rw [hq1] at HI1 HF
      clear hq1
      go_enter Try.func54, Try.ntmps54
      obtain ⟨c0, c1, c2, c3, c4, c5, c6, c7, c8, c9⟩ := cells10 ROW.out
      go_wp2_with (first
        | (go_at_call 136; (with_reducible refine (HI0.out _).mono ?_); rintro e wx ⟨rfl, rfl⟩)
        | (go_at_call 136; (with_reducible refine (HI1.out _).mono ?_); rintro e wx ⟨rfl, rfl⟩)
        | (go_at_call 136; (with_reducible refine (HI2.out _).mono ?_); rintro e wx ⟨rfl, rfl⟩)
        | (go_at_call 137; (with_reducible refine (HSZ.out _).mono ?_); rintro e wx ⟨rfl, rfl⟩))
      all_goals
        go_ret
        refine ⟨?_, bl_alloc (Below.refl _ _) _⟩
        rw [HF.out]
        first | rfl | simp_all [z5, in2]
    · rw [hq1] at HI1 HF
      clear hq1
      cases hq2 : inB reo 1 1000
      · rw [hq2] at HI2 HF
        clear hq2
        go_enter Try.func54, Try.ntmps54
        obtain ⟨c0, c1, c2, c3, c4, c5, c6, c7, c8, c9⟩ := cells10 ROW.out
        go_wp2_with (first
          | (go_at_call 136; (with_reducible refine (HI0.out _).mono ?_); rintro e wx ⟨rfl, rfl⟩)
          | (go_at_call 136; (with_reducible refine (HI1.out _).mono ?_); rintro e wx ⟨rfl, rfl⟩)
          | (go_at_call 136; (with_reducible refine (HI2.out _).mono ?_); rintro e wx ⟨rfl, rfl⟩)
          | (go_at_call 137; (with_reducible refine (HSZ.out _).mono ?_); rintro e wx ⟨rfl, rfl⟩))
        all_goals
          go_ret
          refine ⟨?_, bl_alloc (Below.refl _ _) _⟩
          rw [HF.out]
          first | rfl | simp_all [z5, in2]
      · rw [hq2] at HI2 HF
        clear hq2
        go_enter Try.func54, Try.ntmps54
        obtain ⟨c0, c1, c2, c3, c4, c5, c6, c7, c8, c9⟩ := cells10 ROW.out
        go_wp2_with (first
          | (go_at_call 136; (with_reducible refine (HI0.out _).mono ?_); rintro e wx ⟨rfl, rfl⟩)
          | (go_at_call 136; (with_reducible refine (HI1.out _).mono ?_); rintro e wx ⟨rfl, rfl⟩)
          | (go_at_call 136; (with_reducible refine (HI2.out _).mono ?_); rintro e wx ⟨rfl, rfl⟩)
          | (go_at_call 137; (with_reducible refine (HSZ.out _).mono ?_); rintro e wx ⟨rfl, rfl⟩))
        all_goals
          go_ret
          refine ⟨?_, bl_alloc (Below.refl _ _) _⟩
          rw [HF.out]
          first | rfl | simp_all [z5, in2]
end Go.Proofs.Ytbcjfdhphpckfaa
namespace Go.Proofs.Ytbcjfdhphpckfaa
open Go.RowKit

theorem rcheck_any (c : Cf) (w : World) : Calls Try.prog 54 #[.agg c.a] w fun e w' => e = .returned (.int .i64 (checkF c)) ∧ Below w.heap.size w w' := by
  obtain ⟨mode, bits, win, reo, prx, pro, ppd, pby, mrx, qb⟩ := c
  by_cases h0 : mode = 0
  · subst h0; exact rcheck0 bits win reo prx pro ppd pby mrx qb w
  · by_cases h1 : mode = 1
    · subst h1; exact rcheck1 bits win reo prx pro ppd pby mrx qb w
    · by_cases h2 : mode = 2
      · subst h2; exact rcheck2 bits win reo prx pro ppd pby mrx qb w
      · exact rcheck9 mode bits win reo prx pro ppd pby mrx qb w h0 h1 h2
end Go.Proofs.Ytbcjfdhphpckfaa
namespace Go.Proofs.Ytbcjfdhphpckfaa
open Go.ChangeShapes Go.WideShapes Go.ChangeAt Go.RowKit

theorem lawOwn : ownKnob Try.prog.godebug = none := by kernel_rfl
theorem lawLaid : laidOutB Try.prog = true := by kernel_rfl

section
variable {H : Type} {enc : TypeId × Value → H} {P : Program}
/-- what was read in the old world is read in the new one -/
theorem args_stay (hl : laidOutB P = true) {W W' : World} (hb : Below W.heap.size W W') : ∀ (ts : List TypeId) (vs : List Value) (ds : List (DataW H)) (ps : List MemPlace),
    (∀ t ∈ ts, P.readableRec t = true ∧ t < P.types.size) → DataW.TrodAll enc P W 0 (fun _ => true) true ts vs ds ps → (∀ x ∈ ps, x.block < W.heap.size) →
    DataW.TrodAll enc P W' 0 (fun b => decide (b < W.heap.size)) true ts vs ds ps := by
  intro ts
  induction ts with
  | nil =>
    intro vs ds ps _ h _
    obtain ⟨rfl, rfl, rfl⟩ := trodAll_nil h
    exact trodAll_mk0
  | cons t ts ih =>
    intro vs ds ps hr h hlt
    obtain ⟨v, vs', d, ds', p, q, rfl, rfl, rfl, h1, h2⟩ := trodAll_cons h
    have ht := hr t (List.mem_cons_self ..)
    exact trodAll_cons_mk (Below.trod hl ht.1 ht.2 h1 hb fun x hx => hlt x (List.mem_append_left _ hx))
      (ih vs' ds' q (fun u hu => hr u (List.mem_cons_of_mem _ hu)) h2 fun x hx => hlt x (List.mem_append_right _ hx))

theorem law_post {f : Func} {s : ChangeSpec} {W W' : World} {args : Array Value} {ds gs : List (DataW H)} {before : List MemPlace} {B : TypeId}
    (hl : laidOutB P = true) (hr : f.params.toList.all (fun t => P.readableRec t && decide (t < P.types.size)) = true) (hv : s.vars = [])
    (hW : DataW.Whole enc P f.params.toList s.vars false W args.toList ds gs before)
    (hs : s.fn H (ds ++ gs) = { results := [.lit (.bool true)], args := ds }) (ht : f.resultTypes = #[B]) (hB : P.underlying B = some .bool)
    (hb : Below W.heap.size W W') : s.post enc P f false true false false W args (.bool true) W' := by
  have hW' := hW
  obtain ⟨p, q, hA, hV, rfl, _, _⟩ := hW
  rw [hv] at hV
  obtain ⟨rfl, rfl⟩ := trodVars_none hV
  refine ⟨ds, [], p ++ [], [], p, [], hW', ?_, ?_, ?_, hb.frame _, fun h => by cases h⟩
  · rw [hs, ht]
    exact trodAll_mk1 (shut_bool hB true)
  · rw [hs]
    exact args_stay hl hb _ _ _ _ (fun t h => by have := List.all_eq_true.1 hr t h; simpa using this) hA fun x hx => hW'.lt x (List.mem_append_left _ hx)
  · rw [hs, hv]
    exact rfl
end
end Go.Proofs.Ytbcjfdhphpckfaa
namespace Go.Proofs.Ytbcjfdhphpckfaa
open Go.ChangeShapes Go.WideShapes Go.ChangeAt Go.RowKit Go.Deep


theorem Try.cells5 : Try.prog.cellsOf 5 = 1 := by kernel_rfl
theorem Try.cells34 : Try.prog.cellsOf 34 = 1 := by kernel_rfl
theorem nums_src {W : World} {a : Addr} {cap len : Nat} {zs : List Int} (hl : len ≤ cap) (hz : zs.length = cap) (hc : ∀ j, j < cap → W.cell? (a.add j) = some (.int .u8 (zs.getD j 0))) (hw : ∀ n ∈ zs, (Lit.int .u8 n).wf = true) :
    ((zs.take len).map Int.toNat).length = len ∧ Src W (some a) (bts ((zs.take len).map Int.toNat)) ∧ ∀ b ∈ (zs.take len).map Int.toNat, b < 256 := by
  have hlen : ((zs.take len).map Int.toNat).length = len := by rw [List.length_map, List.length_take]; omega
  refine ⟨hlen, fun h0 => ⟨a, rfl, fun j u hu => ?_⟩, fun b hb => ?_⟩
  · have hj : j < len := by
      have h1 := (List.getElem?_eq_some_iff.1 hu).1
      rw [length_bts, hlen] at h1
      exact h1
    have h2 := hc j (by omega)
    rw [h2]
    have hjz : j < zs.length := by omega
    have hww := bounds_u8 (hw zs[j] (List.getElem_mem hjz))
    have h3 : ((zs.take len).map Int.toNat)[j]? = some zs[j].toNat := by
      rw [List.getElem?_map, List.getElem?_take, if_pos hj, List.getElem?_eq_getElem hjz]
      rfl
    have h4 := bts_at h3
    rw [h4] at hu
    injection hu with hu
    rw [← hu, List.getD_eq_getElem?_getD, List.getElem?_eq_getElem hjz]
    simp only [Option.getD_some]
    rw [Int.toNat_of_nonneg hww.1]
  · rw [List.mem_map] at hb
    obtain ⟨z, hz2, rfl⟩ := hb
    have hww := bounds_u8 (hw z (List.mem_of_mem_take hz2))
    omega
set_option maxRecDepth 100000 in
theorem bytes_arg {H : Type} {enc : TypeId × Value → H} {W : World} {base : Nat} {v : Value} {d : DataW H} {p : List MemPlace} (hok : Value.okWide Try.prog W .any base 34 v)
    (h : DataW.Trod enc Try.prog W 0 (fun _ => true) true 34 v d p) : ∃ (A : Option Addr) (cap : Nat) (l : List Nat), v = .slice A l.length cap ∧ l.length ≤ cap ∧ cap ≤ 9223372036854775807 ∧ Src W A (bts l) ∧ ∀ b ∈ l, b < 256 := by
  obtain ⟨a0, len, cap, rfl⟩ := okWide_slice Try.underlying34 hok
  obtain ⟨fuel, hf⟩ := h
  rcases open_ints Try.underlying34 Try.underlying5 Try.cells5 hf with ⟨hcs, _⟩ | ⟨a, len', cap', zs, hcs, _, hl, hm, hz, _, hcell, hwz⟩
  · simp only [Value.cells] at hcs
    have e : Value.slice a0 len cap = .slice none 0 0 := by simpa using hcs
    rw [e]
    exact ⟨none, 0, [], rfl, Nat.le_refl _, by omega, fun h0 => absurd h0 (by simp [bts]), fun b hb => by cases hb⟩
  · have e : Value.slice a0 len cap = .slice (some a) len' cap' := by simpa [Value.cells] using hcs
    rw [e]
    have hz' : zs.length = cap' := by simpa using hz
    obtain ⟨h1, h2, h3⟩ := nums_src (W := W) (a := a) hl hz' (fun j hj => hcell j (by omega)) hwz
    exact ⟨some a, cap', _, by rw [h1], by omega, by unfold maxLen at hm; exact hm, h2, h3⟩
set_option maxRecDepth 100000 in
theorem rows_cells {H : Type} {enc : TypeId × Value → H} {W : World} {fuel : Nat} {v : Value} {y : DataW H × List MemPlace} (hf : DataW.trod enc Try.prog W 0 (fun _ => true) true fuel 29 [v] = some y) :
    ∃ (A : Option Addr) (cap : Nat) (L : List RowB), v = .slice A L.length cap ∧ L.length ≤ cap ∧ cap ≤ 9223372036854775807 ∧ RSrc W A L ∧ ∀ m ∈ lens L, m ≤ 9223372036854775807 := by
  rcases open_int_rows Try.underlying29 Try.underlying34 Try.underlying5 Try.cells34 Try.cells5 hf with ⟨hcs, _⟩ | ⟨a, len', cap', A, L, C, Z, hcs, _, hl, hm, _, hx⟩
  · have e : v = .slice none 0 0 := by simpa [Value.cells] using hcs
    rw [e]
    exact ⟨none, 0, [], rfl, Nat.le_refl _, by omega, fun h0 => absurd h0 (by simp), fun m hm => by cases hm⟩
  · have e : v = .slice (some a) len' cap' := by simpa [Value.cells] using hcs
    rw [e]
    have hlen : ((List.range len').map fun k => (⟨A k, C k, ((Z k).take (L k)).map Int.toNat⟩ : RowB)).length = len' := by simp
    have hrow : ∀ k r, ((List.range len').map fun k => (⟨A k, C k, ((Z k).take (L k)).map Int.toNat⟩ : RowB))[k]? = some r → W.cell? (a.add k) = some r.v ∧ r.ok W := by
      intro k r hr
      have hk : k < len' := by
        have h1 := (List.getElem?_eq_some_iff.1 hr).1
        rw [hlen] at h1
        exact h1
      have hr' : r = ⟨A k, C k, ((Z k).take (L k)).map Int.toNat⟩ := by
        rw [List.getElem?_map, List.getElem?_range hk] at hr
        simp only [Option.map_some, Option.some.injEq] at hr
        exact hr.symm
      subst hr'
      obtain ⟨h1, h2, h3, h4, h5, h6, h7⟩ := hx k (by omega)
      unfold maxLen at h3
      have hll : (((Z k).take (L k)).map Int.toNat).length = L k := by rw [List.length_map, List.length_take]; omega
      refine ⟨by rw [h1]; show _ = some (Value.slice (A k) (((Z k).take (L k)).map Int.toNat).length (C k)); rw [hll], ?_⟩
      cases hA : A k with
      | none =>
        have hc0 := h6 hA
        have hl0 : L k = 0 := by omega
        refine ⟨fun h0 => ?_, by rw [hll]; exact h2, h3, fun b hb => ?_⟩
        · rw [length_bts, hll] at h0; omega
        · rw [hl0] at hb; simp at hb
      | some a' =>
        obtain ⟨_, hc⟩ := h7 a' hA
        obtain ⟨_, g2, g3⟩ := nums_src (W := W) h2 h4 hc h5
        exact ⟨g2, by rw [hll]; exact h2, h3, g3⟩
    refine ⟨some a, cap', (List.range len').map fun k => ⟨A k, C k, ((Z k).take (L k)).map Int.toNat⟩, by rw [hlen], by omega, by unfold maxLen at hm; exact hm, fun h0 => ⟨a, rfl, hrow⟩, fun m hm2 => ?_⟩
    obtain ⟨k, hk⟩ := List.getElem?_of_mem hm2
    simp only [lens, List.getElem?_map, Option.map_eq_some_iff] at hk
    obtain ⟨r, hr, rfl⟩ := hk
    have h9 := (hrow k r (by rw [List.getElem?_map, Option.map_eq_some_iff]; exact hr)).2
    have := h9.2.1
    have := h9.2.2.1
    omega
set_option maxRecDepth 100000 in
/-- a packet of umd as it came in -/
theorem upack_arg {H : Type} {enc : TypeId × Value → H} {W : World} {base : Nat} {v : Value} {d : DataW H} {p : List MemPlace} (hok : Value.okWide Try.prog W .any base 198 v)
    (h : DataW.Trod enc Try.prog W 0 (fun _ => true) true 198 v d p) : ∃ (fi sn : Int) (A : Option Addr) (cap : Nat) (L : List RowB), v = .agg #[.int .i64 fi, .int .i64 sn, .slice A L.length cap] ∧ L.length ≤ cap ∧ cap ≤ 9223372036854775807 ∧ RSrc W A L ∧ ∀ m ∈ lens L, m ≤ 9223372036854775807 := by
  obtain ⟨v0, v1, v2, y0, y1, y2, k, rfl, _, _, h0, h1, h2⟩ := Joins.open_agg3 Try.underlying198 (by kernel_rfl) (by kernel_rfl) hok h
  obtain ⟨A, cap, L, rfl, g1, g2, g3, g4⟩ := rows_cells h2
  obtain ⟨fi, rfl⟩ : ∃ fi, v0 = .int .i64 fi := by
    obtain ⟨n, h9, _⟩ := DataW.trod_int Try.underlying3 h0
    exact ⟨n, by simpa using h9⟩
  obtain ⟨sn, rfl⟩ : ∃ sn, v1 = .int .i64 sn := by
    obtain ⟨n, h9, _⟩ := DataW.trod_int Try.underlying3 h1
    exact ⟨n, by simpa using h9⟩
  exact ⟨fi, sn, A, cap, L, rfl, g1, g2, g3, g4⟩
end Go.Proofs.Ytbcjfdhphpckfaa
namespace Go.Proofs.Ytbcjfdhphpckfaa
open Go.ChangeShapes Go.WideShapes Go.ChangeAt Go.RowKit Go.Deep Go.Joins

theorem Try.cells106p : Try.prog.cellsOf 106 = 3 := by kernel_rfl
theorem Try.cells3p : Try.prog.cellsOf 3 = 1 := by kernel_rfl
/-- a call: what, a number, bytes -/
structure OpB where
  k : Int
  n : Int
  r : RowB
/-- where calls lie -/
def BSrc15 (w : World) (A : Option Addr) (l : List OpB) : Prop :=
  0 < l.length → ∃ b off, A = some ⟨b, off, none⟩ ∧ ∀ k o, l[k]? = some o → w.cell? ⟨b, off + k * 3, none⟩ = some (.int .i64 o.k) ∧ w.cell? ⟨b, off + k * 3 + 1, none⟩ = some (.int .i64 o.n) ∧ w.cell? ⟨b, off + k * 3 + 2, none⟩ = some o.r.v ∧ o.r.ok w
set_option maxRecDepth 100000 in
theorem bytes_cellp {H : Type} {enc : TypeId × Value → H} {W : World} {fuel : Nat} {cs : List Value} {y : DataW H × List MemPlace} (hf : DataW.trod enc Try.prog W 0 (fun _ => true) true fuel 34 cs = some y) :
    ∃ r : RowB, cs = [r.v] ∧ r.ok W := by
  rcases open_ints Try.underlying34 Try.underlying5 Try.cells5 hf with ⟨hcs, _⟩ | ⟨a, len', cap', zs, hcs, _, hl, hm, hz, _, hcell, hwz⟩
  · exact ⟨⟨none, 0, []⟩, hcs, fun h0 => absurd h0 (by simp [bts]), Nat.le_refl _, by show 0 ≤ 9223372036854775807; omega, fun b hb => by cases hb⟩
  · have hz : zs.length = cap' := by simpa using hz
    obtain ⟨h1, h2, h3⟩ := nums_src hl hz (fun j hj => hcell j (by omega)) hwz
    refine ⟨⟨some a, cap', (zs.take len').map Int.toNat⟩, by rw [hcs]; unfold RowB.v; rw [h1], h2, by show ((zs.take len').map Int.toNat).length ≤ cap'; omega, by show cap' ≤ 9223372036854775807; unfold maxLen at hm; exact hm, h3⟩
set_option maxRecDepth 100000 in
theorem opb_cells {H : Type} {enc : TypeId × Value → H} {W : World} {fuel : Nat} {cs : List Value} {x : DataW H × List MemPlace}
    (h : DataW.trod enc Try.prog W 0 (fun _ => true) true fuel 106 cs = some x) : ∃ (a b : Int) (r : RowB), cs = [.int .i64 a, .int .i64 b, r.v] ∧ r.ok W := by
  obtain ⟨xs, n, _, _, hl, hxs, hf⟩ := DataW.trod_struct Try.underlying106 h
  have h0 := hf 0 _ rfl
  have h1 := hf 1 _ rfl
  have h2 := hf 2 _ rfl
  rw [Try.cells106p] at hl
  match cs, hl with
  | [c0, c1, c2], _ =>
    have hxs' : xs.length = 3 := by simpa using hxs
    match xs, hxs' with
    | [y0, y1, y2], _ =>
      have h0' : DataW.trod enc Try.prog W 0 (fun _ => true) true n 3 (([c0, c1, c2].drop 0).take (Try.prog.cellsOf 3)) = some y0 := h0
      have h1' : DataW.trod enc Try.prog W 0 (fun _ => true) true n 3 (([c0, c1, c2].drop 1).take (Try.prog.cellsOf 3)) = some y1 := h1
      have h2' : DataW.trod enc Try.prog W 0 (fun _ => true) true n 34 (([c0, c1, c2].drop 2).take (Try.prog.cellsOf 34)) = some y2 := h2
      rw [Try.cells3p] at h0' h1'
      rw [Try.cells34] at h2'
      obtain ⟨a, ea, _, _⟩ := DataW.trod_int Try.underlying3 h0'
      obtain ⟨b, eb, _, _⟩ := DataW.trod_int Try.underlying3 h1'
      obtain ⟨r, er, hr⟩ := bytes_cellp h2'
      simp at ea eb er
      exact ⟨a, b, r, by rw [ea, eb, er], hr⟩
set_option maxRecDepth 100000 in
theorem opsb_arg {H : Type} {enc : TypeId × Value → H} {W : World} {base : Nat} {v : Value} {d : DataW H} {p : List MemPlace} (hok : Value.okWide Try.prog W .any base 95 v)
    (h : DataW.Trod enc Try.prog W 0 (fun _ => true) true 95 v d p) : ∃ (A : Option Addr) (cap : Nat) (l : List OpB), v = .slice A l.length cap ∧ l.length ≤ cap ∧ cap ≤ 9223372036854775807 ∧ BSrc15 W A l := by
  obtain ⟨a0, len, cap, rfl⟩ := okWide_slice Try.underlying95 hok
  obtain ⟨fuel, hf⟩ := h
  rcases open_slice Try.underlying95 hf with ⟨hcs, _⟩ | ⟨a, len', cap', m, n, D, Pl, hcs, _, hl, hm, hmm, _, hcell⟩
  · have e : Value.slice a0 len cap = .slice none 0 0 := by simpa [Value.cells] using hcs
    rw [e]
    exact ⟨none, 0, [], rfl, Nat.le_refl _, by omega, fun h0 => absurd h0 (by simp)⟩
  · have e : Value.slice a0 len cap = .slice (some a) len' cap' := by simpa [Value.cells] using hcs
    rw [e]
    have hm' : m = cap' := by simpa using hmm
    have each : ∀ i, i < len' → ∃ o : OpB, W.cell? (a.add (i * 3)) = some (.int .i64 o.k) ∧ W.cell? (a.add (i * 3 + 1)) = some (.int .i64 o.n) ∧ W.cell? (a.add (i * 3 + 2)) = some o.r.v ∧ o.r.ok W := by
      intro i hi
      obtain ⟨cs', hc, ht⟩ := hcell i (by omega)
      rw [Try.cells106p] at hc
      obtain ⟨t, u, r, rfl, hr⟩ := opb_cells ht
      obtain ⟨_, _, hat⟩ := World.cells?_some hc
      have h0 := hat 0 (by omega)
      have h1 := hat 1 (by omega)
      have h2 := hat 2 (by omega)
      rw [add_add] at h0 h1 h2
      exact ⟨⟨t, u, r⟩, h0, h1, h2, hr⟩
    have pick : ∃ f : Nat → OpB, ∀ i, i < len' → W.cell? (a.add (i * 3)) = some (.int .i64 (f i).k) ∧ W.cell? (a.add (i * 3 + 1)) = some (.int .i64 (f i).n) ∧ W.cell? (a.add (i * 3 + 2)) = some (f i).r.v ∧ (f i).r.ok W := by
      refine ⟨fun i => if hi : i < len' then (each i hi).choose else ⟨0, 0, ⟨none, 0, []⟩⟩, fun i hi => ?_⟩
      simp only [dif_pos hi]
      exact (each i hi).choose_spec
    obtain ⟨f, hf'⟩ := pick
    have hlen : ((List.range len').map f).length = len' := by simp
    refine ⟨some a, cap', (List.range len').map f, by rw [hlen], by omega, by unfold maxLen at hm; exact hm, fun h0 => ?_⟩
    rw [hlen] at h0
    obtain ⟨b, off, spot⟩ := a
    have hspot : spot = none := by
      have hc := (hf' 0 (by omega)).1
      simpa [Addr.add] using World.cell?_spot hc
    subst hspot
    refine ⟨b, off, rfl, fun k o ho => ?_⟩
    have hk : k < len' := by
      have h1 := (List.getElem?_eq_some_iff.1 ho).1
      rw [hlen] at h1
      exact h1
    have ho' : o = f k := by
      rw [List.getElem?_map, List.getElem?_range hk] at ho
      simp at ho
      exact ho.symm
    subst ho'
    have h3 := hf' k hk
    rw [add_plain, add_plain, add_plain] at h3
    simpa [Nat.add_assoc] using h3
end Go.Proofs.Ytbcjfdhphpckfaa
