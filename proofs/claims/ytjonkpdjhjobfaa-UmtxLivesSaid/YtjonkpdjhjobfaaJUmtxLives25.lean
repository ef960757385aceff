/-
  pdu: the document's Check, of the mode that asks. pdu: the document's Check, of packets with numbers. PduConfigs: the law walked. A law's row follows from its walk: the call returns true, and below the heap's old size the world is as it was; then every argument reads as it did. How the packets and bytes that a statement draws read. How calls of two numbers and bytes that a statement draws read. UmtxLives: the walk of a config that may not be.
-/
import Derived.Test.YtjonkpdjhjobfaaJUmtxLives24
import Derived.Test.YtjonkpdjhjobfaaRows
import Derived.WalkKit
import Derived.ProofKit
import Derived.OpenShut
import Derived.Test.YtjonkpdjhjobfaaJUmtxLives05
import Derived.SizedLaws
import Derived.Deep.Matrix
import Derived.Lib.SmallJoins
import Derived.Test.YtjonkpdjhjobfaaJUmtxLives01
import Derived.Deep.Slices
import Derived.Deep.SlicePairs
import Derived.Test.YtjonkpdjhjobfaaJUmtxLives23
import Derived.Test.YtjonkpdjhjobfaaJUmtxLives16
import Derived.Deep.DeepCutAuto
import Derived.Deep.CutBlock
namespace Go.Proofs.Ytjonkpdjhjobfaa
open Go.RowKit

set_option maxRecDepth 100000 in
set_option maxHeartbeats 12800000 in
theorem rcheck2 (bits win reo prx pro ppd pby mrx qb : Int) (w : World) :
    Calls Try.prog 11 #[.agg #[.int .i64 2, .int .i64 bits, .int .i64 win, .int .i64 reo, .int .i64 prx, .int .i64 pro, .int .i64 ppd, .int .i64 pby, .int .i64 mrx, .int .i64 qb]] w fun e w' => e = .returned (.int .i64 (checkF ⟨2, bits, win, reo, prx, pro, ppd, pby, mrx, qb⟩)) ∧ Below w.heap.size w w' := by
  have ROW := Lib.hid (Row.made w 23 #[.int .i64 2, .int .i64 bits, .int .i64 win, .int .i64 reo, .int .i64 prx, .int .i64 pro, .int .i64 ppd, .int .i64 pby, .int .i64 mrx, .int .i64 qb])
  have HB0 := Lib.hid (bl_alloc (Below.refl w.heap.size w) (.cells #[.int .i64 2, .int .i64 bits, .int .i64 win, .int .i64 reo, .int .i64 prx, .int .i64 pro, .int .i64 ppd, .int .i64 pby, .int .i64 mrx, .int .i64 qb] 23))
  have HSZ := Lib.hid (fun W => rsize_any bits W)
  have hsz := sz_bd bits
  have HF := Lib.hid (show checkF ⟨2, bits, win, reo, prx, pro, ppd, pby, mrx, qb⟩ = if inB qb 1 20000 && (in2 bits 10 16 && (inB win 1 (sz bits / 2) && (inB reo 1 1000 && (inB prx 1 1000 && (inB pro 0 1000 && (inB ppd 1 1000 && (inB pby 1 20000 && inB mrx 1 32))))))) then 0 else 1 by unfold checkF qbB numB askB limB; simp [Bool.and_assoc])
  have HI0 := Lib.hid (fun W => rpis_any qb 1 20000 W)
  have HI1 := Lib.hid (fun W => rpis_any win 1 (sz bits / 2) W)
  have HI2 := Lib.hid (fun W => rpis_any reo 1 1000 W)
  have HI3 := Lib.hid (fun W => rpis_any prx 1 1000 W)
  have HI4 := Lib.hid (fun W => rpis_any pro 0 1000 W)
  have HI5 := Lib.hid (fun W => rpis_any ppd 1 1000 W)
  have HI6 := Lib.hid (fun W => rpis_any pby 1 20000 W)
  have HI7 := Lib.hid (fun W => rpis_any mrx 1 32 W)
  generalize sz bits = sb at *
  cases hq0 : inB qb 1 20000
  · rw [hq0] at HI0 HF
    clear hq0
    go_enter Try.func11, Try.ntmps11
    obtain ⟨c0, c1, c2, c3, c4, c5, c6, c7, c8, c9⟩ := cells10 ROW.out
    go_wp2_with (first
      | (go_at_call 79; (with_reducible refine (HI0.out _).mono ?_); rintro e wx ⟨rfl, rfl⟩)
      | (go_at_call 79; (with_reducible refine (HI1.out _).mono ?_); rintro e wx ⟨rfl, rfl⟩)
      | (go_at_call 79; (with_reducible refine (HI2.out _).mono ?_); rintro e wx ⟨rfl, rfl⟩)
      | (go_at_call 79; (with_reducible refine (HI3.out _).mono ?_); rintro e wx ⟨rfl, rfl⟩)
      | (go_at_call 79; (with_reducible refine (HI4.out _).mono ?_); rintro e wx ⟨rfl, rfl⟩)
      | (go_at_call 79; (with_reducible refine (HI5.out _).mono ?_); rintro e wx ⟨rfl, rfl⟩)
      | (go_at_call 79; (with_reducible refine (HI6.out _).mono ?_); rintro e wx ⟨rfl, rfl⟩)
      | (go_at_call 79; (with_reducible refine (HI7.out _).mono ?_); rintro e wx ⟨rfl, rfl⟩)
      | (go_at_call 80; (with_reducible refine (HSZ.out _).mono ?_); rintro e wx ⟨rfl, rfl⟩))
    all_goals
      go_ret
      refine ⟨?_, bl_alloc (Below.refl _ _) _⟩
      rw [HF.out]
      first | rfl | simp_all [z8, z5, in2]
  · rw [hq0] at HI0 HF
    clear hq0
    cases hq1 : inB win 1 (sb / 2)
    · rw [hq1] at HI1 HF
      clear hq1
      go_enter Try.func11, Try.ntmps11
      obtain ⟨c0, c1, c2, c3, c4, c5, c6, c7, c8, c9⟩ := cells10 ROW.out
      go_wp2_with (first
        | (go_at_call 79; (with_reducible refine (HI0.out _).mono ?_); rintro e wx ⟨rfl, rfl⟩)
        | (go_at_call 79; (with_reducible refine (HI1.out _).mono ?_); rintro e wx ⟨rfl, rfl⟩)
        | (go_at_call 79; (with_reducible refine (HI2.out _).mono ?_); rintro e wx ⟨rfl, rfl⟩)
        | (go_at_call 79; (with_reducible refine (HI3.out _).mono ?_); rintro e wx ⟨rfl, rfl⟩)
        | (go_at_call 79; (with_reducible refine (HI4.out _).mono ?_); rintro e wx ⟨rfl, rfl⟩)
        | (go_at_call 79; (with_reducible refine (HI5.out _).mono ?_); rintro e wx ⟨rfl, rfl⟩)
        | (go_at_call 79; (with_reducible refine (HI6.out _).mono ?_); rintro e wx ⟨rfl, rfl⟩)
        | (go_at_call 79; (with_reducible refine (HI7.out _).mono ?_); rintro e wx ⟨rfl, rfl⟩)
        | (go_at_call 80; (with_reducible refine (HSZ.out _).mono ?_); rintro e wx ⟨rfl, rfl⟩))
      all_goals
        go_ret
        refine ⟨?_, bl_alloc (Below.refl _ _) _⟩
        rw [HF.out]
        first | rfl | simp_all [in2]
    · rw [hq1] at HI1 HF
      clear hq1
      cases hq2 : inB reo 1 1000
      · rw [hq2] at HI2 HF
        clear hq2
        go_enter Try.func11, Try.ntmps11
        obtain ⟨c0, c1, c2, c3, c4, c5, c6, c7, c8, c9⟩ := cells10 ROW.out
        go_wp2_with (first
          | (go_at_call 79; (with_reducible refine (HI0.out _).mono ?_); rintro e wx ⟨rfl, rfl⟩)
          | (go_at_call 79; (with_reducible refine (HI1.out _).mono ?_); rintro e wx ⟨rfl, rfl⟩)
          | (go_at_call 79; (with_reducible refine (HI2.out _).mono ?_); rintro e wx ⟨rfl, rfl⟩)
          | (go_at_call 79; (with_reducible refine (HI3.out _).mono ?_); rintro e wx ⟨rfl, rfl⟩)
          | (go_at_call 79; (with_reducible refine (HI4.out _).mono ?_); rintro e wx ⟨rfl, rfl⟩)
          | (go_at_call 79; (with_reducible refine (HI5.out _).mono ?_); rintro e wx ⟨rfl, rfl⟩)
          | (go_at_call 79; (with_reducible refine (HI6.out _).mono ?_); rintro e wx ⟨rfl, rfl⟩)
          | (go_at_call 79; (with_reducible refine (HI7.out _).mono ?_); rintro e wx ⟨rfl, rfl⟩)
          | (go_at_call 80; (with_reducible refine (HSZ.out _).mono ?_); rintro e wx ⟨rfl, rfl⟩))
        all_goals
          go_ret
          refine ⟨?_, bl_alloc (Below.refl _ _) _⟩
          rw [HF.out]
          first | rfl | simp_all [in2]
      · rw [hq2] at HI2 HF
        clear hq2
        cases hq3 : inB prx 1 1000
        · rw [hq3] at HI3 HF
          clear hq3
          go_enter Try.func11, Try.ntmps11
          obtain ⟨c0, c1, c2, c3, c4, c5, c6, c7, c8, c9⟩ := cells10 ROW.out
          go_wp2_with (first
            | (go_at_call 79; (with_reducible refine (HI0.out _).mono ?_); rintro e wx ⟨rfl, rfl⟩)
            | (go_at_call 79; (with_reducible refine (HI1.out _).mono ?_); rintro e wx ⟨rfl, rfl⟩)
            | (go_at_call 79; (with_reducible refine (HI2.out _).mono ?_); rintro e wx ⟨rfl, rfl⟩)
            | (go_at_call 79; (with_reducible refine (HI3.out _).mono ?_); rintro e wx ⟨rfl, rfl⟩)
            | (go_at_call 79; (with_reducible refine (HI4.out _).mono ?_); rintro e wx ⟨rfl, rfl⟩)
            | (go_at_call 79; (with_reducible refine (HI5.out _).mono ?_); rintro e wx ⟨rfl, rfl⟩)
            | (go_at_call 79; (with_reducible refine (HI6.out _).mono ?_); rintro e wx ⟨rfl, rfl⟩)
            | (go_at_call 79; (with_reducible refine (HI7.out _).mono ?_); rintro e wx ⟨rfl, rfl⟩)
            | (go_at_call 80; (with_reducible refine (HSZ.out _).mono ?_); rintro e wx ⟨rfl, rfl⟩))
          all_goals
            go_ret
            refine ⟨?_, bl_alloc (Below.refl _ _) _⟩
            rw [HF.out]
            first | rfl | simp_all [in2]
        · rw [hq3] at HI3 HF
          clear hq3
          cases hq4 : inB pro 0 1000
          · rw [hq4] at HI4 HF
            clear hq4
            go_enter Try.func11, Try.ntmps11
            obtain ⟨c0, c1, c2, c3, c4, c5, c6, c7, c8, c9⟩ := cells10 ROW.out
            go_wp2_with (first
              | (go_at_call 79; (with_reducible refine (HI0.out _).mono ?_); rintro e wx ⟨rfl, rfl⟩)
              | (go_at_call 79; (with_reducible refine (HI1.out _).mono ?_); rintro e wx ⟨rfl, rfl⟩)
              | (go_at_call 79; (with_reducible refine (HI2.out _).mono ?_); rintro e wx ⟨rfl, rfl⟩)
              | (go_at_call 79; (with_reducible refine (HI3.out _).mono ?_); rintro e wx ⟨rfl, rfl⟩)
              | (go_at_call 79; (with_reducible refine (HI4.out _).mono ?_); rintro e wx ⟨rfl, rfl⟩)
              | (go_at_call 79; (with_reducible refine (HI5.out _).mono ?_); rintro e wx ⟨rfl, rfl⟩)
              | (go_at_call 79; (with_reducible refine (HI6.out _).mono ?_); rintro e wx ⟨rfl, rfl⟩)
              | (go_at_call 79; (with_reducible refine (HI7.out _).mono ?_); rintro e wx ⟨rfl, rfl⟩)
              | (go_at_call 80; (with_reducible refine (HSZ.out _).mono ?_); rintro e wx ⟨rfl, rfl⟩))
            all_goals
              go_ret
              refine ⟨?_, bl_alloc (Below.refl _ _) _⟩
              rw [HF.out]
              first | rfl | simp_all [in2]
          · rw [hq4] at HI4 HF
            clear hq4
            cases hq5 : inB ppd 1 1000
            · rw [hq5] at HI5 HF
              clear hq5
              go_enter Try.func11, Try.ntmps11
              obtain ⟨c0, c1, c2, c3, c4, c5, c6, c7, c8, c9⟩ := cells10 ROW.out
              go_wp2_with (first
                | (go_at_call 79; (with_reducible refine (HI0.out _).mono ?_); rintro e wx ⟨rfl, rfl⟩)
                | (go_at_call 79; (with_reducible refine (HI1.out _).mono ?_); rintro e wx ⟨rfl, rfl⟩)
                | (go_at_call 79; (with_reducible refine (HI2.out _).mono ?_); rintro e wx ⟨rfl, rfl⟩)
                | (go_at_call 79; (with_reducible refine (HI3.out _).mono ?_); rintro e wx ⟨rfl, rfl⟩)
                | (go_at_call 79; (with_reducible refine (HI4.out _).mono ?_); rintro e wx ⟨rfl, rfl⟩)
                | (go_at_call 79; (with_reducible refine (HI5.out _).mono ?_); rintro e wx ⟨rfl, rfl⟩)
                | (go_at_call 79; (with_reducible refine (HI6.out _).mono ?_); rintro e wx ⟨rfl, rfl⟩)
                | (go_at_call 79; (with_reducible refine (HI7.out _).mono ?_); rintro e wx ⟨rfl, rfl⟩)
                | (go_at_call 80; (with_reducible refine (HSZ.out _).mono ?_); rintro e wx ⟨rfl, rfl⟩))
              all_goals
                go_ret
                refine ⟨?_, bl_alloc (Below.refl _ _) _⟩
                rw [HF.out]
                first | rfl | simp_all [in2]
            · rw [hq5] at HI5 HF
              clear hq5
              cases hq6 : inB pby 1 20000
              · rw [hq6] at HI6 HF
                clear hq6
                go_enter Try.func11, Try.ntmps11
                obtain ⟨c0, c1, c2, c3, c4, c5, c6, c7, c8, c9⟩ := cells10 ROW.out
                go_wp2_with (first
                  | (go_at_call 79; (with_reducible refine (HI0.out _).mono ?_); rintro e wx ⟨rfl, rfl⟩)
                  | (go_at_call 79; (with_reducible refine (HI1.out _).mono ?_); rintro e wx ⟨rfl, rfl⟩)
                  | (go_at_call 79; (with_reducible refine (HI2.out _).mono ?_); rintro e wx ⟨rfl, rfl⟩)
                  | (go_at_call 79; (with_reducible refine (HI3.out _).mono ?_); rintro e wx ⟨rfl, rfl⟩)
                  | (go_at_call 79; (with_reducible refine (HI4.out _).mono ?_); rintro e wx ⟨rfl, rfl⟩)
                  | (go_at_call 79; (with_reducible refine (HI5.out _).mono ?_); rintro e wx ⟨rfl, rfl⟩)
                  | (go_at_call 79; (with_reducible refine (HI6.out _).mono ?_); rintro e wx ⟨rfl, rfl⟩)
                  | (go_at_call 79; (with_reducible refine (HI7.out _).mono ?_); rintro e wx ⟨rfl, rfl⟩)
                  | (go_at_call 80; (with_reducible refine (HSZ.out _).mono ?_); rintro e wx ⟨rfl, rfl⟩))
                all_goals
                  go_ret
                  refine ⟨?_, bl_alloc (Below.refl _ _) _⟩
                  rw [HF.out]
                  first | rfl | simp_all [in2]
              · rw [hq6] at HI6 HF
                clear hq6
                cases hq7 : inB mrx 1 32
                · rw [hq7] at HI7 HF
                  clear hq7
                  go_enter Try.func11, Try.ntmps11
                  obtain ⟨c0, c1, c2, c3, c4, c5, c6, c7, c8, c9⟩ := cells10 ROW.out
                  go_wp2_with (first
                    | (go_at_call 79; (with_reducible refine (HI0.out _).mono ?_); rintro e wx ⟨rfl, rfl⟩)
                    | (go_at_call 79; (with_reducible refine (HI1.out _).mono ?_); rintro e wx ⟨rfl, rfl⟩)
                    | (go_at_call 79; (with_reducible refine (HI2.out _).mono ?_); rintro e wx ⟨rfl, rfl⟩)
                    | (go_at_call 79; (with_reducible refine (HI3.out _).mono ?_); rintro e wx ⟨rfl, rfl⟩)
                    | (go_at_call 79; (with_reducible refine (HI4.out _).mono ?_); rintro e wx ⟨rfl, rfl⟩)
                    | (go_at_call 79; (with_reducible refine (HI5.out _).mono ?_); rintro e wx ⟨rfl, rfl⟩)
                    | (go_at_call 79; (with_reducible refine (HI6.out _).mono ?_); rintro e wx ⟨rfl, rfl⟩)
                    | (go_at_call 79; (with_reducible refine (HI7.out _).mono ?_); rintro e wx ⟨rfl, rfl⟩)
                    | (go_at_call 80; (with_reducible refine (HSZ.out _).mono ?_); rintro e wx ⟨rfl, rfl⟩))
                  all_goals
                    go_ret
                    refine ⟨?_, bl_alloc (Below.refl _ _) _⟩
                    rw [HF.out]
                    first | rfl | simp_all [in2]
                · rw [hq7] at HI7 HF
                  clear hq7
                  go_enter Try.func11, Try.ntmps11
                  obtain ⟨c0, c1, c2, c3, c4, c5, c6, c7, c8, c9⟩ := cells10 ROW.out
                  go_wp2_with (first
                    | (go_at_call 79; (with_reducible refine (HI0.out _).mono ?_); rintro e wx ⟨rfl, rfl⟩)
                    | (go_at_call 79; (with_reducible refine (HI1.out _).mono ?_); rintro e wx ⟨rfl, rfl⟩)
                    | (go_at_call 79; (with_reducible refine (HI2.out _).mono ?_); rintro e wx ⟨rfl, rfl⟩)
                    | (go_at_call 79; (with_reducible refine (HI3.out _).mono ?_); rintro e wx ⟨rfl, rfl⟩)
                    | (go_at_call 79; (with_reducible refine (HI4.out _).mono ?_); rintro e wx ⟨rfl, rfl⟩)
                    | (go_at_call 79; (with_reducible refine (HI5.out _).mono ?_); rintro e wx ⟨rfl, rfl⟩)
                    | (go_at_call 79; (with_reducible refine (HI6.out _).mono ?_); rintro e wx ⟨rfl, rfl⟩)
                    | (go_at_call 79; (with_reducible refine (HI7.out _).mono ?_); rintro e wx ⟨rfl, rfl⟩)
                    | (go_at_call 80; (with_reducible refine (HSZ.out _).mono ?_); rintro e wx ⟨rfl, rfl⟩))
                  all_goals
                    go_ret
                    refine ⟨?_, bl_alloc (Below.refl _ _) _⟩
                    rw [HF.out]
                    first | rfl | simp_all [in2]
end Go.Proofs.Ytjonkpdjhjobfaa
namespace Go.Proofs.Ytjonkpdjhjobfaa
open Go.RowKit

set_option maxRecDepth 100000 in
set_option maxHeartbeats 12800000 in
theorem rcheck1 (bits win reo prx pro ppd pby mrx qb : Int) (w : World) :
    Calls Try.prog 11 #[.agg #[.int .i64 1, .int .i64 bits, .int .i64 win, .int .i64 reo, .int .i64 prx, .int .i64 pro, .int .i64 ppd, .int .i64 pby, .int .i64 mrx, .int .i64 qb]] w fun e w' => e = .returned (.int .i64 (checkF ⟨1, bits, win, reo, prx, pro, ppd, pby, mrx, qb⟩)) ∧ Below w.heap.size w w' := by
  have ROW := Lib.hid (Row.made w 23 #[.int .i64 1, .int .i64 bits, .int .i64 win, .int .i64 reo, .int .i64 prx, .int .i64 pro, .int .i64 ppd, .int .i64 pby, .int .i64 mrx, .int .i64 qb])
  have HB0 := Lib.hid (bl_alloc (Below.refl w.heap.size w) (.cells #[.int .i64 1, .int .i64 bits, .int .i64 win, .int .i64 reo, .int .i64 prx, .int .i64 pro, .int .i64 ppd, .int .i64 pby, .int .i64 mrx, .int .i64 qb] 23))
  have HSZ := Lib.hid (fun W => rsize_any bits W)
  have hsz := sz_bd bits
  have HF := Lib.hid (show checkF ⟨1, bits, win, reo, prx, pro, ppd, pby, mrx, qb⟩ = if inB qb 1 20000 && (in2 bits 5 10 && (inB win 1 (sz bits / 2) && (inB reo 1 1000 && z5 ⟨1, bits, win, reo, prx, pro, ppd, pby, mrx, qb⟩))) then 0 else 1 by unfold checkF qbB numB limB; simp [Bool.and_assoc])
  have HI0 := Lib.hid (fun W => rpis_any qb 1 20000 W)
  have HI1 := Lib.hid (fun W => rpis_any win 1 (sz bits / 2) W)
  have HI2 := Lib.hid (fun W => rpis_any reo 1 1000 W)
  generalize sz bits = sb at *
  cases hq0 : inB qb 1 20000
  · rw [hq0] at HI0 HF
    clear hq0
    go_enter Try.func11, Try.ntmps11
    obtain ⟨c0, c1, c2, c3, c4, c5, c6, c7, c8, c9⟩ := cells10 ROW.out
    go_wp2_with (first
      | (go_at_call 79; (with_reducible refine (HI0.out _).mono ?_); rintro e wx ⟨rfl, rfl⟩)
      | (go_at_call 79; (with_reducible refine (HI1.out _).mono ?_); rintro e wx ⟨rfl, rfl⟩)
      | (go_at_call 79; (with_reducible refine (HI2.out _).mono ?_); rintro e wx ⟨rfl, rfl⟩)
      | (go_at_call 80; (with_reducible refine (HSZ.out _).mono ?_); rintro e wx ⟨rfl, rfl⟩))
    all_goals
      go_ret
      refine ⟨?_, bl_alloc (Below.refl _ _) _⟩
      rw [HF.out]
      first | rfl | simp_all [z8, z5, in2]
  · rw [hq0] at HI0 HF
    clear hq0
    cases hq1 : inB win 1 (sb / 2)
    · rw [hq1] at HI1 HF
      clear hq1
      go_enter Try.func11, Try.ntmps11
      obtain ⟨c0, c1, c2, c3, c4, c5, c6, c7, c8, c9⟩ := cells10 ROW.out
      go_wp2_with (first
        | (go_at_call 79; (with_reducible refine (HI0.out _).mono ?_); rintro e wx ⟨rfl, rfl⟩)
        | (go_at_call 79; (with_reducible refine (HI1.out _).mono ?_); rintro e wx ⟨rfl, rfl⟩)
        | (go_at_call 79; (with_reducible refine (HI2.out _).mono ?_); rintro e wx ⟨rfl, rfl⟩)
        | (go_at_call 80; (with_reducible refine (HSZ.out _).mono ?_); rintro e wx ⟨rfl, rfl⟩))
      all_goals
        go_ret
        refine ⟨?_, bl_alloc (Below.refl _ _) _⟩
        rw [HF.out]
        first | rfl | simp_all [z5, in2]
    · rw [hq1] at HI1 HF
      clear hq1
      cases hq2 : inB reo 1 1000
      · rw [hq2] at HI2 HF
        clear hq2
        go_enter Try.func11, Try.ntmps11
        obtain ⟨c0, c1, c2, c3, c4, c5, c6, c7, c8, c9⟩ := cells10 ROW.out
        go_wp2_with (first
          | (go_at_call 79; (with_reducible refine (HI0.out _).mono ?_); rintro e wx ⟨rfl, rfl⟩)
          | (go_at_call 79; (with_reducible refine (HI1.out _).mono ?_); rintro e wx ⟨rfl, rfl⟩)
          | (go_at_call 79; (with_reducible refine (HI2.out _).mono ?_); rintro e wx ⟨rfl, rfl⟩)
          | (go_at_call 80; (with_reducible refine (HSZ.out _).mono ?_); rintro e wx ⟨rfl, rfl⟩))
        all_goals
          go_ret
          refine ⟨?_, bl_alloc (Below.refl _ _) _⟩
          rw [HF.out]
          first | rfl | simp_all [z5, in2]
      · rw [hq2] at HI2 HF
        clear hq2
        go_enter Try.func11, Try.ntmps11
        obtain ⟨c0, c1, c2, c3, c4, c5, c6, c7, c8, c9⟩ := cells10 ROW.out
        go_wp2_with (first
          | (go_at_call 79; (with_reducible refine (HI0.out _).mono ?_); rintro e wx ⟨rfl, rfl⟩)
          | (go_at_call 79; (with_reducible refine (HI1.out _).mono ?_); rintro e wx ⟨rfl, rfl⟩)
          | (go_at_call 79; (with_reducible refine (HI2.out _).mono ?_); rintro e wx ⟨rfl, rfl⟩)
          | (go_at_call 80; (with_reducible refine (HSZ.out _).mono ?_); rintro e wx ⟨rfl, rfl⟩))
        all_goals
          go_ret
          refine ⟨?_, bl_alloc (Below.refl _ _) _⟩
          rw [HF.out]
          first | rfl | simp_all [z5, in2]
end Go.Proofs.Ytjonkpdjhjobfaa
namespace Go.Proofs.Ytjonkpdjhjobfaa
open Go.RowKit

theorem rcheck_any (c : Cf) (w : World) : Calls Try.prog 11 #[.agg c.a] w fun e w' => e = .returned (.int .i64 (checkF c)) ∧ Below w.heap.size w w' := by
  obtain ⟨mode, bits, win, reo, prx, pro, ppd, pby, mrx, qb⟩ := c
  by_cases h0 : mode = 0
  · subst h0; exact rcheck0 bits win reo prx pro ppd pby mrx qb w
  · by_cases h1 : mode = 1
    · subst h1; exact rcheck1 bits win reo prx pro ppd pby mrx qb w
    · by_cases h2 : mode = 2
      · subst h2; exact rcheck2 bits win reo prx pro ppd pby mrx qb w
      · exact rcheck9 mode bits win reo prx pro ppd pby mrx qb w h0 h1 h2
end Go.Proofs.Ytjonkpdjhjobfaa
namespace Go.Proofs.Ytjonkpdjhjobfaa
open Go.ChangeShapes Go.WideShapes Go.ChangeAt Go.RowKit

theorem lawOwn : ownKnob Try.prog.godebug = none := by kernel_rfl
theorem lawLaid : laidOutB Try.prog = true := by kernel_rfl

section
variable {H : Type} {enc : TypeId × Value → H} {P : Program}
/-- what was read in the old world is read in the new one -/
theorem args_stay (hl : laidOutB P = true) {W W' : World} (hb : Below W.heap.size W W') : ∀ (ts : List TypeId) (vs : List Value) (ds : List (DataW H)) (ps : List MemPlace),
    (∀ t ∈ ts, P.readableRec t = true ∧ t < P.types.size) → DataW.TrodAll enc P W 0 (fun _ => true) true ts vs ds ps → (∀ x ∈ ps, x.block < W.heap.size) →
    DataW.TrodAll enc P W' 0 (fun b => decide (b < W.heap.size)) true ts vs ds ps := by
  intro ts
  induction ts with
  | nil =>
    intro vs ds ps _ h _
    obtain ⟨rfl, rfl, rfl⟩ := trodAll_nil h
    exact trodAll_mk0
  | cons t ts ih =>
    intro vs ds ps hr h hlt
    obtain ⟨v, vs', d, ds', p, q, rfl, rfl, rfl, h1, h2⟩ := trodAll_cons h
    have ht := hr t (List.mem_cons_self ..)
    exact trodAll_cons_mk (Below.trod hl ht.1 ht.2 h1 hb fun x hx => hlt x (List.mem_append_left _ hx))
      (ih vs' ds' q (fun u hu => hr u (List.mem_cons_of_mem _ hu)) h2 fun x hx => hlt x (List.mem_append_right _ hx))

theorem law_post {f : Func} {s : ChangeSpec} {W W' : World} {args : Array Value} {ds gs : List (DataW H)} {before : List MemPlace} {B : TypeId}
    (hl : laidOutB P = true) (hr : f.params.toList.all (fun t => P.readableRec t && decide (t < P.types.size)) = true) (hv : s.vars = [])
    (hW : DataW.Whole enc P f.params.toList s.vars false W args.toList ds gs before)
    (hs : s.fn H (ds ++ gs) = { results := [.lit (.bool true)], args := ds }) (ht : f.resultTypes = #[B]) (hB : P.underlying B = some .bool)
    (hb : Below W.heap.size W W') : s.post enc P f false true false false W args (.bool true) W' := by
  have hW' := hW
  obtain ⟨p, q, hA, hV, rfl, _, _⟩ := hW
  rw [hv] at hV
  obtain ⟨rfl, rfl⟩ := trodVars_none hV
  refine ⟨ds, [], p ++ [], [], p, [], hW', ?_, ?_, ?_, hb.frame _, fun h => by cases h⟩
  · rw [hs, ht]
    exact trodAll_mk1 (shut_bool hB true)
  · rw [hs]
    exact args_stay hl hb _ _ _ _ (fun t h => by have := List.all_eq_true.1 hr t h; simpa using this) hA fun x hx => hW'.lt x (List.mem_append_left _ hx)
  · rw [hs, hv]
    exact rfl
end
end Go.Proofs.Ytjonkpdjhjobfaa
namespace Go.Proofs.Ytjonkpdjhjobfaa
open Go.ChangeShapes Go.WideShapes Go.ChangeAt Go.RowKit Go.Deep


theorem Try.cells5 : Try.prog.cellsOf 5 = 1 := by kernel_rfl
theorem Try.cells38 : Try.prog.cellsOf 38 = 1 := by kernel_rfl
theorem nums_src {W : World} {a : Addr} {cap len : Nat} {zs : List Int} (hl : len ≤ cap) (hz : zs.length = cap) (hc : ∀ j, j < cap → W.cell? (a.add j) = some (.int .u8 (zs.getD j 0))) (hw : ∀ n ∈ zs, (Lit.int .u8 n).wf = true) :
    ((zs.take len).map Int.toNat).length = len ∧ Src W (some a) (bts ((zs.take len).map Int.toNat)) ∧ ∀ b ∈ (zs.take len).map Int.toNat, b < 256 := by
  have hlen : ((zs.take len).map Int.toNat).length = len := by rw [List.length_map, List.length_take]; omega
  refine ⟨hlen, fun h0 => ⟨a, rfl, fun j u hu => ?_⟩, fun b hb => ?_⟩
  · have hj : j < len := by
      have h1 := (List.getElem?_eq_some_iff.1 hu).1
      rw [length_bts, hlen] at h1
      exact h1
    have h2 := hc j (by omega)
    rw [h2]
    have hjz : j < zs.length := by omega
    have hww := bounds_u8 (hw zs[j] (List.getElem_mem hjz))
    have h3 : ((zs.take len).map Int.toNat)[j]? = some zs[j].toNat := by
      rw [List.getElem?_map, List.getElem?_take, if_pos hj, List.getElem?_eq_getElem hjz]
      rfl
    have h4 := bts_at h3
    rw [h4] at hu
    injection hu with hu
    rw [← hu, List.getD_eq_getElem?_getD, List.getElem?_eq_getElem hjz]
    simp only [Option.getD_some]
    rw [Int.toNat_of_nonneg hww.1]
  · rw [List.mem_map] at hb
    obtain ⟨z, hz2, rfl⟩ := hb
    have hww := bounds_u8 (hw z (List.mem_of_mem_take hz2))
    omega
end Go.Proofs.Ytjonkpdjhjobfaa
namespace Go.Proofs.Ytjonkpdjhjobfaa
open Go.ChangeShapes Go.WideShapes Go.ChangeAt Go.RowKit Go.Deep Go.Joins

theorem Try.cells56p : Try.prog.cellsOf 56 = 3 := by kernel_rfl
theorem Try.cells3p : Try.prog.cellsOf 3 = 1 := by kernel_rfl
/-- a call: what, a number, bytes -/
structure OpB where
  k : Int
  n : Int
  r : RowB
/-- where calls lie -/
def BSrc16 (w : World) (A : Option Addr) (l : List OpB) : Prop :=
  0 < l.length → ∃ b off, A = some ⟨b, off, none⟩ ∧ ∀ k o, l[k]? = some o → w.cell? ⟨b, off + k * 3, none⟩ = some (.int .i64 o.k) ∧ w.cell? ⟨b, off + k * 3 + 1, none⟩ = some (.int .i64 o.n) ∧ w.cell? ⟨b, off + k * 3 + 2, none⟩ = some o.r.v ∧ o.r.ok w
set_option maxRecDepth 100000 in
theorem bytes_cellp {H : Type} {enc : TypeId × Value → H} {W : World} {fuel : Nat} {cs : List Value} {y : DataW H × List MemPlace} (hf : DataW.trod enc Try.prog W 0 (fun _ => true) true fuel 38 cs = some y) :
    ∃ r : RowB, cs = [r.v] ∧ r.ok W := by
  rcases open_ints Try.underlying38 Try.underlying5 Try.cells5 hf with ⟨hcs, _⟩ | ⟨a, len', cap', zs, hcs, _, hl, hm, hz, _, hcell, hwz⟩
  · exact ⟨⟨none, 0, []⟩, hcs, fun h0 => absurd h0 (by simp [bts]), Nat.le_refl _, by show 0 ≤ 9223372036854775807; omega, fun b hb => by cases hb⟩
  · have hz : zs.length = cap' := by simpa using hz
    obtain ⟨h1, h2, h3⟩ := nums_src hl hz (fun j hj => hcell j (by omega)) hwz
    refine ⟨⟨some a, cap', (zs.take len').map Int.toNat⟩, by rw [hcs]; unfold RowB.v; rw [h1], h2, by show ((zs.take len').map Int.toNat).length ≤ cap'; omega, by show cap' ≤ 9223372036854775807; unfold maxLen at hm; exact hm, h3⟩
set_option maxRecDepth 100000 in
theorem opb_cells {H : Type} {enc : TypeId × Value → H} {W : World} {fuel : Nat} {cs : List Value} {x : DataW H × List MemPlace}
    (h : DataW.trod enc Try.prog W 0 (fun _ => true) true fuel 56 cs = some x) : ∃ (a b : Int) (r : RowB), cs = [.int .i64 a, .int .i64 b, r.v] ∧ r.ok W := by
  obtain ⟨xs, n, _, _, hl, hxs, hf⟩ := DataW.trod_struct Try.underlying56 h
  have h0 := hf 0 _ rfl
  have h1 := hf 1 _ rfl
  have h2 := hf 2 _ rfl
  rw [Try.cells56p] at hl
  match cs, hl with
  | [c0, c1, c2], _ =>
    have hxs' : xs.length = 3 := by simpa using hxs
    match xs, hxs' with
    | [y0, y1, y2], _ =>
      have h0' : DataW.trod enc Try.prog W 0 (fun _ => true) true n 3 (([c0, c1, c2].drop 0).take (Try.prog.cellsOf 3)) = some y0 := h0
      have h1' : DataW.trod enc Try.prog W 0 (fun _ => true) true n 3 (([c0, c1, c2].drop 1).take (Try.prog.cellsOf 3)) = some y1 := h1
      have h2' : DataW.trod enc Try.prog W 0 (fun _ => true) true n 38 (([c0, c1, c2].drop 2).take (Try.prog.cellsOf 38)) = some y2 := h2
      rw [Try.cells3p] at h0' h1'
      rw [Try.cells38] at h2'
      obtain ⟨a, ea, _, _⟩ := DataW.trod_int Try.underlying3 h0'
      obtain ⟨b, eb, _, _⟩ := DataW.trod_int Try.underlying3 h1'
      obtain ⟨r, er, hr⟩ := bytes_cellp h2'
      simp at ea eb er
      exact ⟨a, b, r, by rw [ea, eb, er], hr⟩
set_option maxRecDepth 100000 in
theorem opsb_arg {H : Type} {enc : TypeId × Value → H} {W : World} {base : Nat} {v : Value} {d : DataW H} {p : List MemPlace} (hok : Value.okWide Try.prog W .any base 24 v)
    (h : DataW.Trod enc Try.prog W 0 (fun _ => true) true 24 v d p) : ∃ (A : Option Addr) (cap : Nat) (l : List OpB), v = .slice A l.length cap ∧ l.length ≤ cap ∧ cap ≤ 9223372036854775807 ∧ BSrc16 W A l := by
  obtain ⟨a0, len, cap, rfl⟩ := okWide_slice Try.underlying24 hok
  obtain ⟨fuel, hf⟩ := h
  rcases open_slice Try.underlying24 hf with ⟨hcs, _⟩ | ⟨a, len', cap', m, n, D, Pl, hcs, _, hl, hm, hmm, _, hcell⟩
  · have e : Value.slice a0 len cap = .slice none 0 0 := by simpa [Value.cells] using hcs
    rw [e]
    exact ⟨none, 0, [], rfl, Nat.le_refl _, by omega, fun h0 => absurd h0 (by simp)⟩
  · have e : Value.slice a0 len cap = .slice (some a) len' cap' := by simpa [Value.cells] using hcs
    rw [e]
    have hm' : m = cap' := by simpa using hmm
    have each : ∀ i, i < len' → ∃ o : OpB, W.cell? (a.add (i * 3)) = some (.int .i64 o.k) ∧ W.cell? (a.add (i * 3 + 1)) = some (.int .i64 o.n) ∧ W.cell? (a.add (i * 3 + 2)) = some o.r.v ∧ o.r.ok W := by
      intro i hi
      obtain ⟨cs', hc, ht⟩ := hcell i (by omega)
      rw [Try.cells56p] at hc
      obtain ⟨t, u, r, rfl, hr⟩ := opb_cells ht
      obtain ⟨_, _, hat⟩ := World.cells?_some hc
      have h0 := hat 0 (by omega)
      have h1 := hat 1 (by omega)
      have h2 := hat 2 (by omega)
      rw [add_add] at h0 h1 h2
      exact ⟨⟨t, u, r⟩, h0, h1, h2, hr⟩
    have pick : ∃ f : Nat → OpB, ∀ i, i < len' → W.cell? (a.add (i * 3)) = some (.int .i64 (f i).k) ∧ W.cell? (a.add (i * 3 + 1)) = some (.int .i64 (f i).n) ∧ W.cell? (a.add (i * 3 + 2)) = some (f i).r.v ∧ (f i).r.ok W := by
      refine ⟨fun i => if hi : i < len' then (each i hi).choose else ⟨0, 0, ⟨none, 0, []⟩⟩, fun i hi => ?_⟩
      simp only [dif_pos hi]
      exact (each i hi).choose_spec
    obtain ⟨f, hf'⟩ := pick
    have hlen : ((List.range len').map f).length = len' := by simp
    refine ⟨some a, cap', (List.range len').map f, by rw [hlen], by omega, by unfold maxLen at hm; exact hm, fun h0 => ?_⟩
    rw [hlen] at h0
    obtain ⟨b, off, spot⟩ := a
    have hspot : spot = none := by
      have hc := (hf' 0 (by omega)).1
      simpa [Addr.add] using World.cell?_spot hc
    subst hspot
    refine ⟨b, off, rfl, fun k o ho => ?_⟩
    have hk : k < len' := by
      have h1 := (List.getElem?_eq_some_iff.1 ho).1
      rw [hlen] at h1
      exact h1
    have ho' : o = f k := by
      rw [List.getElem?_map, List.getElem?_range hk] at ho
      simp at ho
      exact ho.symm
    subst ho'
    have h3 := hf' k hk
    rw [add_plain, add_plain, add_plain] at h3
    simpa [Nat.add_assoc] using h3
end Go.Proofs.Ytjonkpdjhjobfaa
namespace Go.Proofs.Ytjonkpdjhjobfaa
open Go.RowKit Go.Maps

section
theorem zsrow (w : World) : Row (w.alloc (.cells #[.int .i64 0, .int .i64 0, .int .i64 0, .int .i64 0, .int .i64 0, .int .i64 0, .int .i64 0, .int .i64 0, .int .i64 0, .int .i64 0, .pointer none, .int .i64 0] 34)) w.heap.size 34 (SCells ⟨0, 0, 0, 0, 0, 0, 0, 0, 0, 0⟩ (.pointer none) 0) := Row.made w _ _
theorem op16_cells {w : World} {g : Nat} {kd nn : Int} {x : Value} (h : Row w g 56 #[.int .i64 kd, .int .i64 nn, x]) : w.cell? ⟨g, 0, none⟩ = some (.int .i64 kd) ∧ w.cell? ⟨g, 1, none⟩ = some (.int .i64 nn) ∧ w.cell? ⟨g, 2, none⟩ = some x := ⟨h.read rfl, h.read rfl, h.read rfl⟩
set_option maxRecDepth 100000 in
set_option maxHeartbeats 3200000 in
theorem ulives_bad {S : Value} (mode bits win reo prx pro ppd pby mrx qb : Int) (W : World) (hck : checkF ⟨mode, bits, win, reo, prx, pro, ppd, pby, mrx, qb⟩ ≠ 0) : Calls Try.prog 3 #[.agg (Cf.a ⟨mode, bits, win, reo, prx, pro, ppd, pby, mrx, qb⟩), S] W fun e w' => e = .returned (.bool true) ∧ Below W.heap.size W w' := by
  have HN := Lib.hid (fun V => unew_bad mode bits win reo prx pro ppd pby mrx qb V hck)
  have HC := Lib.hid (fun V => rcheck_any ⟨mode, bits, win, reo, prx, pro, ppd, pby, mrx, qb⟩ V)
  have HA := Lib.hid ualive_any
  generalize checkF ⟨mode, bits, win, reo, prx, pro, ppd, pby, mrx, qb⟩ = er at *
  have he1 : (er == 0) = false := by simpa using hck
  have he2 : (er != 0) = true := by simpa using hck
  clear hck
  unfold Cf.a at *
  have ROW := Lib.hid (Row.made W 23 #[.int .i64 mode, .int .i64 bits, .int .i64 win, .int .i64 reo, .int .i64 prx, .int .i64 pro, .int .i64 ppd, .int .i64 pby, .int .i64 mrx, .int .i64 qb])
  have HB0 := Lib.hid (bl_alloc (Below.refl W.heap.size W) (.cells #[.int .i64 mode, .int .i64 bits, .int .i64 win, .int .i64 reo, .int .i64 prx, .int .i64 pro, .int .i64 ppd, .int .i64 pby, .int .i64 mrx, .int .i64 qb] 23))
  obtain ⟨c0, c1, c2, c3, c4, c5, c6, c7, c8, c9⟩ := cells10 ROW.out
  go_enter Try.func3, Try.ntmps3
  go_wp2_with (first
    | (go_at_call 10; (with_reducible refine (HN.out _).mono ?_); rintro e w1 ⟨rfl, hb1⟩; (have HB1 := Lib.hid (bl_step HB0.out hb1); have ROW1 := Lib.hid (ROW.out.later hb1); clear hb1 c0 c1 c2 c3 c4 c5 c6 c7 c8 c9; obtain ⟨c0, c1, c2, c3, c4, c5, c6, c7, c8, c9⟩ := cells10 ROW1.out))
    | (go_at_call 11; (with_reducible refine (HC.out _).mono ?_); rintro e w2 ⟨rfl, hb2⟩; (
        have HB2 := Lib.hid (bl_step HB1.out hb2); have ROW2 := Lib.hid (ROW1.out.later hb2); clear hb2 c0 c1 c2 c3 c4 c5 c6 c7 c8 c9; obtain ⟨c0, c1, c2, c3, c4, c5, c6, c7, c8, c9⟩ := cells10 ROW2.out
        have HZ1 := Lib.hid (zsrow w2)))
    | (go_at_call 12; (with_reducible refine (upush_nil9 _ _).mono ?_); rintro e w3 ⟨rfl, hb⟩; (have HB3 := Lib.hid (bl_step (bl_alloc (bl_alloc (Below.refl w2.heap.size w2) (.cells #[.int .i64 0, .int .i64 0, .int .i64 0, .int .i64 0, .int .i64 0, .int .i64 0, .int .i64 0, .int .i64 0, .int .i64 0, .int .i64 0, .pointer none, .int .i64 0] 34)) (.cells #[.int .u8 1] 5)) hb); have HZ3 := Lib.hid ((HZ1.out.more (.cells #[.int .u8 1] 5)).later hb); clear hb))
    | (go_at_call 13; (with_reducible refine (ubuild_of_none 1 (usource_any HZ3.out)).mono ?_); rintro e w4 ⟨rfl, hb⟩; (have HB4 := Lib.hid (bl_step HB3.out hb); have HZ4 := Lib.hid (HZ3.out.later hb); clear hb))
    | (go_at_call 13; (with_reducible refine (ubuild_of_none 1 (usource_nil _)).mono ?_); rintro e w5 ⟨rfl, hb⟩; (have HB5 := Lib.hid (bl_step HB4.out hb); have HZ5 := Lib.hid (HZ4.out.later hb); clear hb))
    | (go_at_call 14; (with_reducible refine (udisc_zero9 HZ5.out).mono ?_); rintro e w6 ⟨rfl, hb⟩; (have HB6 := Lib.hid (bl_step HB5.out hb); have HZ6 := Lib.hid (HZ5.out.later hb); clear hb))
    | (go_at_call 15; (with_reducible refine (ubytes_nil9 _).mono ?_); rintro e w7 ⟨rfl, hb⟩; (have HB7 := Lib.hid (bl_step HB6.out hb); have HZ7 := Lib.hid (HZ6.out.later hb); clear hb))
    | (go_at_call 16; (with_reducible refine (unext_nil _).mono ?_); rintro e _ ⟨rfl, rfl⟩)
    | (go_at_call 17; (with_reducible refine (ureset_zero9 HZ7.out (Nat.le_refl _) HB7.out).mono ?_); rintro e w8 ⟨rfl, hb⟩; (have HB8 := Lib.hid hb; clear hb))
    | (go_at_call 17; (with_reducible refine (ureset_nil _).mono ?_); rintro e _ ⟨rfl, rfl⟩)
    | (go_at_call 18; (with_reducible refine (HA.out _).mono ?_); rintro e w9 ⟨rfl, hb⟩; (have HB9 := Lib.hid hb; clear hb)))
  go_ret
  exact ⟨rfl, bl_step (bl_step HB2.out HB8.out) HB9.out⟩
set_option maxRecDepth 100000 in
set_option maxHeartbeats 3200000 in
theorem ulives_kind {S : Value} (mode bits win reo prx pro ppd pby mrx qb : Int) (W : World) (hck : checkF ⟨mode, bits, win, reo, prx, pro, ppd, pby, mrx, qb⟩ = 0) (hm : mode ≠ 1) : Calls Try.prog 3 #[.agg (Cf.a ⟨mode, bits, win, reo, prx, pro, ppd, pby, mrx, qb⟩), S] W fun e w' => e = .returned (.bool true) ∧ Below W.heap.size W w' := by
  have HN := Lib.hid (fun V => unew_kind mode bits win reo prx pro ppd pby mrx qb V hck hm)
  have HC := Lib.hid (fun V => rcheck_any ⟨mode, bits, win, reo, prx, pro, ppd, pby, mrx, qb⟩ V)
  have HA := Lib.hid ualive_any
  rw [hck] at HC
  have hm2 : (mode != 1) = true := by simpa using hm
  clear hck hm
  unfold Cf.a at *
  have ROW := Lib.hid (Row.made W 23 #[.int .i64 mode, .int .i64 bits, .int .i64 win, .int .i64 reo, .int .i64 prx, .int .i64 pro, .int .i64 ppd, .int .i64 pby, .int .i64 mrx, .int .i64 qb])
  have HB0 := Lib.hid (bl_alloc (Below.refl W.heap.size W) (.cells #[.int .i64 mode, .int .i64 bits, .int .i64 win, .int .i64 reo, .int .i64 prx, .int .i64 pro, .int .i64 ppd, .int .i64 pby, .int .i64 mrx, .int .i64 qb] 23))
  obtain ⟨c0, c1, c2, c3, c4, c5, c6, c7, c8, c9⟩ := cells10 ROW.out
  go_enter Try.func3, Try.ntmps3
  go_wp2_with (first
    | (go_at_call 10; (with_reducible refine (HN.out _).mono ?_); rintro e w1 ⟨rfl, hb1⟩; (have HB1 := Lib.hid (bl_step HB0.out hb1); have ROW1 := Lib.hid (ROW.out.later hb1); clear hb1 c0 c1 c2 c3 c4 c5 c6 c7 c8 c9; obtain ⟨c0, c1, c2, c3, c4, c5, c6, c7, c8, c9⟩ := cells10 ROW1.out))
    | (go_at_call 11; (with_reducible refine (HC.out _).mono ?_); rintro e w2 ⟨rfl, hb2⟩; (
        have HB2 := Lib.hid (bl_step HB1.out hb2); have ROW2 := Lib.hid (ROW1.out.later hb2); clear hb2 c0 c1 c2 c3 c4 c5 c6 c7 c8 c9; obtain ⟨c0, c1, c2, c3, c4, c5, c6, c7, c8, c9⟩ := cells10 ROW2.out
        have HZ1 := Lib.hid (zsrow w2)))
    | (go_at_call 12; (with_reducible refine (upush_nil9 _ _).mono ?_); rintro e w3 ⟨rfl, hb⟩; (have HB3 := Lib.hid (bl_step (bl_alloc (bl_alloc (Below.refl w2.heap.size w2) (.cells #[.int .i64 0, .int .i64 0, .int .i64 0, .int .i64 0, .int .i64 0, .int .i64 0, .int .i64 0, .int .i64 0, .int .i64 0, .int .i64 0, .pointer none, .int .i64 0] 34)) (.cells #[.int .u8 1] 5)) hb); have HZ3 := Lib.hid ((HZ1.out.more (.cells #[.int .u8 1] 5)).later hb); clear hb))
    | (go_at_call 13; (with_reducible refine (ubuild_of_none 1 (usource_any HZ3.out)).mono ?_); rintro e w4 ⟨rfl, hb⟩; (have HB4 := Lib.hid (bl_step HB3.out hb); have HZ4 := Lib.hid (HZ3.out.later hb); clear hb))
    | (go_at_call 13; (with_reducible refine (ubuild_of_none 1 (usource_nil _)).mono ?_); rintro e w5 ⟨rfl, hb⟩; (have HB5 := Lib.hid (bl_step HB4.out hb); have HZ5 := Lib.hid (HZ4.out.later hb); clear hb))
    | (go_at_call 14; (with_reducible refine (udisc_zero9 HZ5.out).mono ?_); rintro e w6 ⟨rfl, hb⟩; (have HB6 := Lib.hid (bl_step HB5.out hb); have HZ6 := Lib.hid (HZ5.out.later hb); clear hb))
    | (go_at_call 15; (with_reducible refine (ubytes_nil9 _).mono ?_); rintro e w7 ⟨rfl, hb⟩; (have HB7 := Lib.hid (bl_step HB6.out hb); have HZ7 := Lib.hid (HZ6.out.later hb); clear hb))
    | (go_at_call 16; (with_reducible refine (unext_nil _).mono ?_); rintro e _ ⟨rfl, rfl⟩)
    | (go_at_call 17; (with_reducible refine (ureset_zero9 HZ7.out (Nat.le_refl _) HB7.out).mono ?_); rintro e w8 ⟨rfl, hb⟩; (have HB8 := Lib.hid hb; clear hb))
    | (go_at_call 17; (with_reducible refine (ureset_nil _).mono ?_); rintro e _ ⟨rfl, rfl⟩)
    | (go_at_call 18; (with_reducible refine (HA.out _).mono ?_); rintro e w9 ⟨rfl, hb⟩; (have HB9 := Lib.hid hb; clear hb)))
  go_ret
  exact ⟨rfl, bl_step (bl_step HB2.out HB8.out) HB9.out⟩
end
end Go.Proofs.Ytjonkpdjhjobfaa
