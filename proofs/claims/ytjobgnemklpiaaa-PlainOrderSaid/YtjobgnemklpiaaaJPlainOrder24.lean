/-
  pdu: the document's Check, of the mode that asks. pdu: Usual; what a config that may not be answers; what pdu answers to fixed calls. pdu: a text is copied. plain: an entity in memory; what its calls do. glue: what is held, what is lost, what is told: plain lists.
-/
import Derived.Test.YtjobgnemklpiaaaJPlainOrder23
import Derived.Test.YtjobgnemklpiaaaJPlainOrder17
import Derived.Test.YtjobgnemklpiaaaJPlainOrder15
import Derived.Test.YtjobgnemklpiaaaJPlainOrder16
import Derived.Test.YtjobgnemklpiaaaJPlainOrder09
import Derived.Test.YtjobgnemklpiaaaJPlainOrder01
namespace Go.Proofs.Ytjobgnemklpiaaa
open Go.RowKit

set_option maxRecDepth 100000 in
set_option maxHeartbeats 12800000 in
theorem rcheck2 (bits win reo prx pro ppd pby mrx qb : Int) (w : World) :
    Calls Try.prog 66 #[.agg #[.int .i64 2, .int .i64 bits, .int .i64 win, .int .i64 reo, .int .i64 prx, .int .i64 pro, .int .i64 ppd, .int .i64 pby, .int .i64 mrx, .int .i64 qb]] w fun e w' => e = .returned (.int .i64 (checkF ⟨2, bits, win, reo, prx, pro, ppd, pby, mrx, qb⟩)) ∧ Below w.heap.size w w' := by
  have ROW := Lib.hid (Row.made w 115 #[.int .i64 2, .int .i64 bits, .int .i64 win, .int .i64 reo, .int .i64 prx, .int .i64 pro, .int .i64 ppd, .int .i64 pby, .int .i64 mrx, .int .i64 qb])
  have HB0 := Lib.hid (bl_alloc (Below.refl w.heap.size w) (.cells #[.int .i64 2, .int .i64 bits, .int .i64 win, .int .i64 reo, .int .i64 prx, .int .i64 pro, .int .i64 ppd, .int .i64 pby, .int .i64 mrx, .int .i64 qb] 115))
  have HSZ := Lib.hid (fun W => rsize_any bits W)
  have hsz := sz_bd bits
  have HF := Lib.hid (show checkF ⟨2, bits, win, reo, prx, pro, ppd, pby, mrx, qb⟩ = if inB qb 1 20000 && (in2 bits 10 16 && (inB win 1 (sz bits / 2) && (inB reo 1 1000 && (inB prx 1 1000 && (inB pro 0 1000 && (inB ppd 1 1000 && (inB pby 1 20000 && inB mrx 1 32))))))) then 0 else 1 by unfold checkF qbB numB askB limB; simp [limB, Bool.and_assoc])
  have HI0 := Lib.hid (fun W => rpis_any qb 1 20000 W)
  have HI1 := Lib.hid (fun W => rpis_any win 1 (sz bits / 2) W)
  have HI2 := Lib.hid (fun W => rpis_any reo 1 1000 W)
  have HI3 := Lib.hid (fun W => rpis_any prx 1 1000 W)
  have HI4 := Lib.hid (fun W => rpis_any pro 0 1000 W)
  have HI5 := Lib.hid (fun W => rpis_any ppd 1 1000 W)
  have HI6 := Lib.hid (fun W => rpis_any pby 1 20000 W)
  have HI7 := Lib.hid (fun W => rpis_any mrx 1 32 W)
  generalize sz bits = sb at *
  cases hq0 : inB qb 1 20000
  · rw [hq0] at HI0 HF
    clear hq0
    go_enter Try.func66, Try.ntmps66
    obtain ⟨c0, c1, c2, c3, c4, c5, c6, c7, c8, c9⟩ := cells10 ROW.out
    go_wp2_with (first
      | (go_at_call 127; (with_reducible refine (HI0.out _).mono ?_); rintro e wx ⟨rfl, rfl⟩)
      | (go_at_call 127; (with_reducible refine (HI1.out _).mono ?_); rintro e wx ⟨rfl, rfl⟩)
      | (go_at_call 127; (with_reducible refine (HI2.out _).mono ?_); rintro e wx ⟨rfl, rfl⟩)
      | (go_at_call 127; (with_reducible refine (HI3.out _).mono ?_); rintro e wx ⟨rfl, rfl⟩)
      | (go_at_call 127; (with_reducible refine (HI4.out _).mono ?_); rintro e wx ⟨rfl, rfl⟩)
      | (go_at_call 127; (with_reducible refine (HI5.out _).mono ?_); rintro e wx ⟨rfl, rfl⟩)
      | (go_at_call 127; (with_reducible refine (HI6.out _).mono ?_); rintro e wx ⟨rfl, rfl⟩)
      | (go_at_call 127; (with_reducible refine (HI7.out _).mono ?_); rintro e wx ⟨rfl, rfl⟩)
      | (go_at_call 128; (with_reducible refine (HSZ.out _).mono ?_); rintro e wx ⟨rfl, rfl⟩))
    all_goals
      go_ret
      refine ⟨?_, bl_alloc (Below.refl _ _) _⟩
      rw [HF.out]
      first | rfl | simp_all [z8, z5, in2]
  · rw [hq0] at HI0 HF
    clear hq0
    cases hq1 : inB win 1 (sb / 2)
    · rw [hq1] at HI1 HF
      clear hq1
      go_enter Try.func66, Try.ntmps66
      obtain ⟨c0, c1, c2, c3, c4, c5, c6, c7, c8, c9⟩ := cells10 ROW.out
      go_wp2_with (first
        | (go_at_call 127; (with_reducible refine (HI0.out _).mono ?_); rintro e wx ⟨rfl, rfl⟩)
        | (go_at_call 127; (with_reducible refine (HI1.out _).mono ?_); rintro e wx ⟨rfl, rfl⟩)
        | (go_at_call 127; (with_reducible refine (HI2.out _).mono ?_); rintro e wx ⟨rfl, rfl⟩)
        | (go_at_call 127; (with_reducible refine (HI3.out _).mono ?_); rintro e wx ⟨rfl, rfl⟩)
        | (go_at_call 127; (with_reducible refine (HI4.out _).mono ?_); rintro e wx ⟨rfl, rfl⟩)
        | (go_at_call 127; (with_reducible refine (HI5.out _).mono ?_); rintro e wx ⟨rfl, rfl⟩)
        | (go_at_call 127; (with_reducible refine (HI6.out _).mono ?_); rintro e wx ⟨rfl, rfl⟩)
        | (go_at_call 127; (with_reducible refine (HI7.out _).mono ?_); rintro e wx ⟨rfl, rfl⟩)
        | (go_at_call 128; (with_reducible refine (HSZ.out _).mono ?_); rintro e wx ⟨rfl, rfl⟩))
      all_goals
        go_ret
        refine ⟨?_, bl_alloc (Below.refl _ _) _⟩
        rw [HF.out]
        first | rfl | simp_all [z8, z5, in2]
    · rw [hq1] at HI1 HF
      clear hq1
      cases hq2 : inB reo 1 1000
      · rw [hq2] at HI2 HF
        clear hq2
        go_enter Try.func66, Try.ntmps66
        obtain ⟨c0, c1, c2, c3, c4, c5, c6, c7, c8, c9⟩ := cells10 ROW.out
        go_wp2_with (first
          | (go_at_call 127; (with_reducible refine (HI0.out _).mono ?_); rintro e wx ⟨rfl, rfl⟩)
          | (go_at_call 127; (with_reducible refine (HI1.out _).mono ?_); rintro e wx ⟨rfl, rfl⟩)
          | (go_at_call 127; (with_reducible refine (HI2.out _).mono ?_); rintro e wx ⟨rfl, rfl⟩)
          | (go_at_call 127; (with_reducible refine (HI3.out _).mono ?_); rintro e wx ⟨rfl, rfl⟩)
          | (go_at_call 127; (with_reducible refine (HI4.out _).mono ?_); rintro e wx ⟨rfl, rfl⟩)
          | (go_at_call 127; (with_reducible refine (HI5.out _).mono ?_); rintro e wx ⟨rfl, rfl⟩)
          | (go_at_call 127; (with_reducible refine (HI6.out _).mono ?_); rintro e wx ⟨rfl, rfl⟩)
          | (go_at_call 127; (with_reducible refine (HI7.out _).mono ?_); rintro e wx ⟨rfl, rfl⟩)
          | (go_at_call 128; (with_reducible refine (HSZ.out _).mono ?_); rintro e wx ⟨rfl, rfl⟩))
        all_goals
          go_ret
          refine ⟨?_, bl_alloc (Below.refl _ _) _⟩
          rw [HF.out]
          first | rfl | simp_all [z8, z5, in2]
      · rw [hq2] at HI2 HF
        clear hq2
        cases hq3 : inB prx 1 1000
        · rw [hq3] at HI3 HF
          clear hq3
          go_enter Try.func66, Try.ntmps66
          obtain ⟨c0, c1, c2, c3, c4, c5, c6, c7, c8, c9⟩ := cells10 ROW.out
          go_wp2_with (first
            | (go_at_call 127; (with_reducible refine (HI0.out _).mono ?_); rintro e wx ⟨rfl, rfl⟩)
            | (go_at_call 127; (with_reducible refine (HI1.out _).mono ?_); rintro e wx ⟨rfl, rfl⟩)
            | (go_at_call 127; (with_reducible refine (HI2.out _).mono ?_); rintro e wx ⟨rfl, rfl⟩)
            | (go_at_call 127; (with_reducible refine (HI3.out _).mono ?_); rintro e wx ⟨rfl, rfl⟩)
            | (go_at_call 127; (with_reducible refine (HI4.out _).mono ?_); rintro e wx ⟨rfl, rfl⟩)
            | (go_at_call 127; (with_reducible refine (HI5.out _).mono ?_); rintro e wx ⟨rfl, rfl⟩)
            | (go_at_call 127; (with_reducible refine (HI6.out _).mono ?_); rintro e wx ⟨rfl, rfl⟩)
            | (go_at_call 127; (with_reducible refine (HI7.out _).mono ?_); rintro e wx ⟨rfl, rfl⟩)
            | (go_at_call 128; (with_reducible refine (HSZ.out _).mono ?_); rintro e wx ⟨rfl, rfl⟩))
          all_goals
            go_ret
            refine ⟨?_, bl_alloc (Below.refl _ _) _⟩
            rw [HF.out]
            first | rfl | simp_all [z8, z5, in2]
        · rw [hq3] at HI3 HF
          clear hq3
          cases hq4 : inB pro 0 1000
          · rw [hq4] at HI4 HF
            clear hq4
            go_enter Try.func66, Try.ntmps66
            obtain ⟨c0, c1, c2, c3, c4, c5, c6, c7, c8, c9⟩ := cells10 ROW.out
            go_wp2_with (first
              | (go_at_call 127; (with_reducible refine (HI0.out _).mono ?_); rintro e wx ⟨rfl, rfl⟩)
              | (go_at_call 127; (with_reducible refine (HI1.out _).mono ?_); rintro e wx ⟨rfl, rfl⟩)
              | (go_at_call 127; (with_reducible refine (HI2.out _).mono ?_); rintro e wx ⟨rfl, rfl⟩)
              | (go_at_call 127; (with_reducible refine (HI3.out _).mono ?_); rintro e wx ⟨rfl, rfl⟩)
              | (go_at_call 127; (with_reducible refine (HI4.out _).mono ?_); rintro e wx ⟨rfl, rfl⟩)
              | (go_at_call 127; (with_reducible refine (HI5.out _).mono ?_); rintro e wx ⟨rfl, rfl⟩)
              | (go_at_call 127; (with_reducible refine (HI6.out _).mono ?_); rintro e wx ⟨rfl, rfl⟩)
              | (go_at_call 127; (with_reducible refine (HI7.out _).mono ?_); rintro e wx ⟨rfl, rfl⟩)
              | (go_at_call 128; (with_reducible refine (HSZ.out _).mono ?_); rintro e wx ⟨rfl, rfl⟩))
            all_goals
              go_ret
              refine ⟨?_, bl_alloc (Below.refl _ _) _⟩
              rw [HF.out]
              first | rfl | simp_all [z8, z5, in2]
          · rw [hq4] at HI4 HF
            clear hq4
            cases hq5 : inB ppd 1 1000
            · rw [hq5] at HI5 HF
              clear hq5
              go_enter Try.func66, Try.ntmps66
              obtain ⟨c0, c1, c2, c3, c4, c5, c6, c7, c8, c9⟩ := cells10 ROW.out
              go_wp2_with (first
                | (go_at_call 127; (with_reducible refine (HI0.out _).mono ?_); rintro e wx ⟨rfl, rfl⟩)
                | (go_at_call 127; (with_reducible refine (HI1.out _).mono ?_); rintro e wx ⟨rfl, rfl⟩)
                | (go_at_call 127; (with_reducible refine (HI2.out _).mono ?_); rintro e wx ⟨rfl, rfl⟩)
                | (go_at_call 127; (with_reducible refine (HI3.out _).mono ?_); rintro e wx ⟨rfl, rfl⟩)
                | (go_at_call 127; (with_reducible refine (HI4.out _).mono ?_); rintro e wx ⟨rfl, rfl⟩)
                | (go_at_call 127; (with_reducible refine (HI5.out _).mono ?_); rintro e wx ⟨rfl, rfl⟩)
                | (go_at_call 127; (with_reducible refine (HI6.out _).mono ?_); rintro e wx ⟨rfl, rfl⟩)
                | (go_at_call 127; (with_reducible refine (HI7.out _).mono ?_); rintro e wx ⟨rfl, rfl⟩)
                | (go_at_call 128; (with_reducible refine (HSZ.out _).mono ?_); rintro e wx ⟨rfl, rfl⟩))
              all_goals
                go_ret
                refine ⟨?_, bl_alloc (Below.refl _ _) _⟩
                rw [HF.out]
                first | rfl | simp_all [z8, z5, in2]
            · rw [hq5] at HI5 HF
              clear hq5
              cases hq6 : inB pby 1 20000
              · rw [hq6] at HI6 HF
                clear hq6
                go_enter Try.func66, Try.ntmps66
                obtain ⟨c0, c1, c2, c3, c4, c5, c6, c7, c8, c9⟩ := cells10 ROW.out
                go_wp2_with (first
                  | (go_at_call 127; (with_reducible refine (HI0.out _).mono ?_); rintro e wx ⟨rfl, rfl⟩)
                  | (go_at_call 127; (with_reducible refine (HI1.out _).mono ?_); rintro e wx ⟨rfl, rfl⟩)
                  | (go_at_call 127; (with_reducible refine (HI2.out _).mono ?_); rintro e wx ⟨rfl, rfl⟩)
                  | (go_at_call 127; (with_reducible refine (HI3.out _).mono ?_); rintro e wx ⟨rfl, rfl⟩)
                  | (go_at_call 127; (with_reducible refine (HI4.out _).mono ?_); rintro e wx ⟨rfl, rfl⟩)
                  | (go_at_call 127; (with_reducible refine (HI5.out _).mono ?_); rintro e wx ⟨rfl, rfl⟩)
                  | (go_at_call 127; (with_reducible refine (HI6.out _).mono ?_); rintro e wx ⟨rfl, rfl⟩)
                  | (go_at_call 127; (with_reducible refine (HI7.out _).mono ?_); rintro e wx ⟨rfl, rfl⟩)
                  | (go_at_call 128; (with_reducible refine (HSZ.out _).mono ?_); rintro e wx ⟨rfl, rfl⟩))
                all_goals
                  go_ret
                  refine ⟨?_, bl_alloc (Below.refl _ _) _⟩
                  rw [HF.out]
                  first | rfl | simp_all [z8, z5, in2]
              · rw [hq6] at HI6 HF
                clear hq6
                cases hq7 : inB mrx 1 32
                · rw [hq7] at HI7 HF
                  clear hq7
                  go_enter Try.func66, Try.ntmps66
                  obtain ⟨c0, c1, c2, c3, c4, c5, c6, c7, c8, c9⟩ := cells10 ROW.out
                  go_wp2_with (first
                    | (go_at_call 127; (with_reducible refine (HI0.out _).mono ?_); rintro e wx ⟨rfl, rfl⟩)
                    | (go_at_call 127; (with_reducible refine (HI1.out _).mono ?_); rintro e wx ⟨rfl, rfl⟩)
                    | (go_at_call 127; (with_reducible refine (HI2.out _).mono ?_); rintro e wx ⟨rfl, rfl⟩)
                    | (go_at_call 127; (with_reducible refine (HI3.out _).mono ?_); rintro e wx ⟨rfl, rfl⟩)
                    | (go_at_call 127; (with_reducible refine (HI4.out _).mono ?_); rintro e wx ⟨rfl, rfl⟩)
                    | (go_at_call 127; (with_reducible refine (HI5.out _).mono ?_); rintro e wx ⟨rfl, rfl⟩)
                    | (go_at_call 127; (with_reducible refine (HI6.out _).mono ?_); rintro e wx ⟨rfl, rfl⟩)
                    | (go_at_call 127; (with_reducible refine (HI7.out _).mono ?_); rintro e wx ⟨rfl, rfl⟩)
                    | (go_at_call 128; (with_reducible refine (HSZ.out _).mono ?_); rintro e wx ⟨rfl, rfl⟩))
                  all_goals
                    go_ret
                    refine ⟨?_, bl_alloc (Below.refl _ _) _⟩
                    rw [HF.out]
                    first | rfl | simp_all [z8, z5, in2]
                · rw [hq7] at HI7 HF
                  clear hq7
                  go_enter Try.func66, Try.ntmps66
                  obtain ⟨c0, c1, c2, c3, c4, c5, c6, c7, c8, c9⟩ := cells10 ROW.out
                  go_wp2_with (first
                    | (go_at_call 127; (with_reducible refine (HI0.out _).mono ?_); rintro e wx ⟨rfl, rfl⟩)
                    | (go_at_call 127; (with_reducible refine (HI1.out _).mono ?_); rintro e wx ⟨rfl, rfl⟩)
                    | (go_at_call 127; (with_reducible refine (HI2.out _).mono ?_); rintro e wx ⟨rfl, rfl⟩)
                    | (go_at_call 127; (with_reducible refine (HI3.out _).mono ?_); rintro e wx ⟨rfl, rfl⟩)
                    | (go_at_call 127; (with_reducible refine (HI4.out _).mono ?_); rintro e wx ⟨rfl, rfl⟩)
                    | (go_at_call 127; (with_reducible refine (HI5.out _).mono ?_); rintro e wx ⟨rfl, rfl⟩)
                    | (go_at_call 127; (with_reducible refine (HI6.out _).mono ?_); rintro e wx ⟨rfl, rfl⟩)
                    | (go_at_call 127; (with_reducible refine (HI7.out _).mono ?_); rintro e wx ⟨rfl, rfl⟩)
                    | (go_at_call 128; (with_reducible refine (HSZ.out _).mono ?_); rintro e wx ⟨rfl, rfl⟩))
                  all_goals
                    go_ret
                    refine ⟨?_, bl_alloc (Below.refl _ _) _⟩
                    rw [HF.out]
                    first | rfl | simp_all [z8, z5, in2]
end Go.Proofs.Ytjobgnemklpiaaa
namespace Go.Proofs.Ytjobgnemklpiaaa
open Go.RowKit

def usF (mode : Int) : Cf := if mode = 0 then ⟨0, 0, 0, 0, 0, 0, 0, 0, 0, 5000⟩ else if mode = 1 then ⟨1, 5, 16, 4, 0, 0, 0, 0, 0, 5000⟩ else if mode = 2 then ⟨2, 10, 512, 4, 8, 3, 4, 500, 4, 5000⟩ else ⟨0, 0, 0, 0, 0, 0, 0, 0, 0, 0⟩
set_option maxRecDepth 100000 in
set_option maxHeartbeats 1600000 in
theorem pusual_any (mode : Int) (w : World) : Calls Try.prog 76 #[.int .i64 mode] w fun e w' => e = .returned (.agg (usF mode).a) ∧ Below w.heap.size w w' := by
  obtain ⟨dd, hdd⟩ := undercf_parts
  by_cases h0 : mode = 0
  · have g0 : (mode == 0) = true := by simpa using h0
    have HU := Lib.hid (show (usF mode).a = #[.int .i64 0, .int .i64 0, .int .i64 0, .int .i64 0, .int .i64 0, .int .i64 0, .int .i64 0, .int .i64 0, .int .i64 0, .int .i64 5000] by unfold usF; rw [if_pos h0]; rfl)
    rw [HU.out]
    clear h0
    go_enter Try.func76, Try.ntmps76
    go_wp2
    refine bodyPost_ret (results_cell_row rfl _ _ w.heap.size 115 #[.int .i64 0, .int .i64 0, .int .i64 0, .int .i64 0, .int .i64 0, .int .i64 0, .int .i64 0, .int .i64 0, .int .i64 0, .int .i64 5000] (0, 0) (.struct dd) rfl (Row.made _ _ _) hdd rfl Try.infocf) rfl ?_
    exact ⟨rfl, bl_alloc (Below.refl _ _) _⟩
  · have g0 : (mode == 0) = false := by simpa using h0
    by_cases h1 : mode = 1
    · have g1 : (mode == 1) = true := by simpa using h1
      have HU := Lib.hid (show (usF mode).a = #[.int .i64 1, .int .i64 5, .int .i64 16, .int .i64 4, .int .i64 0, .int .i64 0, .int .i64 0, .int .i64 0, .int .i64 0, .int .i64 5000] by unfold usF; rw [if_neg h0, if_pos h1]; rfl)
      rw [HU.out]
      clear h0 h1
      go_enter Try.func76, Try.ntmps76
      go_wp2
      refine bodyPost_ret (results_cell_row rfl _ _ w.heap.size 115 #[.int .i64 1, .int .i64 5, .int .i64 16, .int .i64 4, .int .i64 0, .int .i64 0, .int .i64 0, .int .i64 0, .int .i64 0, .int .i64 5000] (0, 0) (.struct dd) rfl (Row.made _ _ _) hdd rfl Try.infocf) rfl ?_
      exact ⟨rfl, bl_alloc (Below.refl _ _) _⟩
    · have g1 : (mode == 1) = false := by simpa using h1
      by_cases h2 : mode = 2
      · have g2 : (mode == 2) = true := by simpa using h2
        have HU := Lib.hid (show (usF mode).a = #[.int .i64 2, .int .i64 10, .int .i64 512, .int .i64 4, .int .i64 8, .int .i64 3, .int .i64 4, .int .i64 500, .int .i64 4, .int .i64 5000] by unfold usF; rw [if_neg h0, if_neg h1, if_pos h2]; rfl)
        rw [HU.out]
        clear h0 h1 h2
        go_enter Try.func76, Try.ntmps76
        go_wp2
        refine bodyPost_ret (results_cell_row rfl _ _ w.heap.size 115 #[.int .i64 2, .int .i64 10, .int .i64 512, .int .i64 4, .int .i64 8, .int .i64 3, .int .i64 4, .int .i64 500, .int .i64 4, .int .i64 5000] (0, 0) (.struct dd) rfl (Row.made _ _ _) hdd rfl Try.infocf) rfl ?_
        exact ⟨rfl, bl_alloc (Below.refl _ _) _⟩
      · have g2 : (mode == 2) = false := by simpa using h2
        have HU := Lib.hid (show (usF mode).a = #[.int .i64 0, .int .i64 0, .int .i64 0, .int .i64 0, .int .i64 0, .int .i64 0, .int .i64 0, .int .i64 0, .int .i64 0, .int .i64 0] by unfold usF; rw [if_neg h0, if_neg h1, if_neg h2]; rfl)
        rw [HU.out]
        clear h0 h1 h2
        go_enter Try.func76, Try.ntmps76
        go_wp2
        refine bodyPost_ret (results_cell_row rfl _ _ w.heap.size 115 #[.int .i64 0, .int .i64 0, .int .i64 0, .int .i64 0, .int .i64 0, .int .i64 0, .int .i64 0, .int .i64 0, .int .i64 0, .int .i64 0] (0, 0) (.struct dd) rfl (Row.made _ _ _) hdd rfl Try.infocf) rfl ?_
        exact ⟨rfl, bl_alloc (Below.refl _ _) _⟩
set_option maxRecDepth 100000 in
set_option maxHeartbeats 3200000 in
theorem pread_chk {A : Option Addr} (c : Cf) (n cap : Nat) (w : World) (h : checkF c ≠ 0) :
    Calls Try.prog 130 #[.agg c.a, .slice A n cap] w fun e w' => e = .returned (.tuple #[.agg #[.int .i64 0, .slice none 0 0, .int .i64 0, .int .i64 0, .slice none 0 0, .bool false, .int .i64 0, .int .i64 0, .bool false, .bool false, .int .i64 0, .slice none 0 0, .int .i64 0, .slice none 0 0], .int .i64 (checkF c)]) ∧ Below w.heap.size w w' := by
  have hne : (checkF c != 0) = true := by simpa using h
  have HCK := Lib.hid (fun W => pcheck_any c W)
  generalize checkF c = er at *
  clear h
  obtain ⟨mode, bits, win, reo, prx, pro, ppd, pby, mrx, qb⟩ := c
  unfold Cf.a at *
  have ROW := Lib.hid (Row.made w 115 #[.int .i64 mode, .int .i64 bits, .int .i64 win, .int .i64 reo, .int .i64 prx, .int .i64 pro, .int .i64 ppd, .int .i64 pby, .int .i64 mrx, .int .i64 qb])
  have ROWZ := Lib.hid (row_at2 (w.alloc (.cells #[.int .i64 mode, .int .i64 bits, .int .i64 win, .int .i64 reo, .int .i64 prx, .int .i64 pro, .int .i64 ppd, .int .i64 pby, .int .i64 mrx, .int .i64 qb] 115)) (w.heap.size + 1) 194 #[.int .i64 0, .slice none 0 0, .int .i64 0, .int .i64 0, .slice none 0 0, .bool false, .int .i64 0, .int .i64 0, .bool false, .bool false, .int .i64 0, .slice none 0 0, .int .i64 0, .slice none 0 0] (size_1 _ _))
  have HB0 := Lib.hid (bl_alloc (bl_alloc (Below.refl w.heap.size w) (.cells #[.int .i64 mode, .int .i64 bits, .int .i64 win, .int .i64 reo, .int .i64 prx, .int .i64 pro, .int .i64 ppd, .int .i64 pby, .int .i64 mrx, .int .i64 qb] 115)) (.cells #[.int .i64 0, .slice none 0 0, .int .i64 0, .int .i64 0, .slice none 0 0, .bool false, .int .i64 0, .int .i64 0, .bool false, .bool false, .int .i64 0, .slice none 0 0, .int .i64 0, .slice none 0 0] 194))
  go_enter Try.func130, Try.ntmps130
  go_wp2_with (go_at_call 126; (with_reducible refine (HCK.out _).mono ?_); rintro e w1 ⟨rfl, hb1⟩; (have HB1 := Lib.hid (bl_step HB0.out hb1); have ROWZ1 := Lib.hid (ROWZ.out.later hb1); clear hb1; obtain ⟨z0, z1, z2, z3, z4, z5, z6, z7, z8, z9, z10, z11, z12, z13⟩ := cells14 ROWZ1.out; obtain ⟨y0, y1, y2, y3, y4, y5, y6, y7, y8, y9, y10, y11, y12, y13⟩ := free14 ROWZ1.out))
  obtain ⟨dd, hdd⟩ := underun_parts
  refine bodyPost_ret (st_results_two rfl _ _ (w.heap.size + 1) 194 #[.int .i64 0, .slice none 0 0, .int .i64 0, .int .i64 0, .slice none 0 0, .bool false, .int .i64 0, .int .i64 0, .bool false, .bool false, .int .i64 0, .slice none 0 0, .int .i64 0, .slice none 0 0] dd rfl (row_set14 ROWZ1.out) hdd Try.infoun) rfl ?_
  exact ⟨rfl, below_set14 HB1.out (Nat.le_succ _) _ _ _ _ _ _ _ _ _ _ _ _ _ _⟩
theorem chk2 : checkF ⟨2, 10, 512, 4, 8, 3, 4, 500, 4, 5000⟩ = 0 := by decide +kernel
theorem prd1 {W : World} {g : Nat} (h : Row W g 5 #[.int .u8 0, .int .u8 20]) :
    Calls Try.prog 130 #[.agg #[.int .i64 2, .int .i64 10, .int .i64 512, .int .i64 4, .int .i64 8, .int .i64 3, .int .i64 4, .int .i64 500, .int .i64 4, .int .i64 5000], .slice (some ⟨g, 0, none⟩) 2 2] W fun e w' => ∃ (A' : Option Addr) (n' c' : Nat), e = .returned (.tuple #[.agg #[.int .i64 3, .slice none 0 0, .int .i64 0, .int .i64 0, .slice none 0 0, .bool false, .int .i64 0, .int .i64 0, .bool false, .bool false, .int .i64 0, .slice none 0 0, .int .i64 5, .slice A' n' c'], .int .i64 0]) ∧ Below W.heap.size W w' := by
  have hs : ∀ V, Below W.heap.size W V → Src V (some ⟨g, 0, none⟩) (bts [0, 20]) := fun V hb => row_src (xs := bts [0, 20]) (h.later hb)
  refine pread_st_ok 10 512 4 8 3 4 500 4 5000 5 2 2 W chk2 (fun V hb => ?_) (fun V hb => ?_)
  · have h1 := pkind_any (bs := [0, 20]) 2 2 2 V rfl (hs V hb) (by decide)
    rw [show kindF 2 [0, 20] = 3 from by decide +kernel] at h1
    exact h1
  · refine (sread_yes (bs := [0, 20]) (M := []) (a := 5) 10 2 2 V rfl (by omega) (by omega) (hs V hb) (by decide) (by kernel_rfl)).mono ?_
    rintro e w' ⟨A', c, rfl, _, _, _, hbb⟩
    exact ⟨A', _, c, rfl, hbb⟩
theorem prd2 {W : World} {g : Nat} (h : Row W g 5 #[.int .u8 128, .int .u8 5, .int .u8 65]) :
    Calls Try.prog 130 #[.agg #[.int .i64 2, .int .i64 10, .int .i64 512, .int .i64 4, .int .i64 8, .int .i64 3, .int .i64 4, .int .i64 500, .int .i64 4, .int .i64 5000], .slice (some ⟨g, 0, none⟩) 3 3] W fun e w' => ∃ (p' pt' ls' : Bool) (fi' of' : Int) (A' : Option Addr) (n' c' : Nat), e = .returned (.tuple #[.agg #[.int .i64 2, .slice none 0 0, .int .i64 0, .int .i64 0, .slice none 0 0, .bool p', .int .i64 fi', .int .i64 5, .bool pt', .bool ls', .int .i64 of', .slice A' n' c', .int .i64 0, .slice none 0 0], .int .i64 0]) ∧ Below W.heap.size W w' := by
  have hs : ∀ V, Below W.heap.size W V → Src V (some ⟨g, 0, none⟩) (bts [128, 5, 65]) := fun V hb => row_src (xs := bts [128, 5, 65]) (h.later hb)
  refine pread_am_ok 10 512 4 8 3 4 500 4 5000 5 3 3 W chk2 (fun V hb => ?_) (fun V hb => ?_)
  · have h1 := pkind_any (bs := [128, 5, 65]) 2 3 3 V rfl (hs V hb) (by decide)
    rw [show kindF 2 [128, 5, 65] = 2 from by decide +kernel] at h1
    exact h1
  · have hx : amdRd [128, 5, 65] 10 = (0, ⟨false, false, false, 0, 5, 0⟩, [[65]]) := by kernel_rfl
    refine (aread_yes (bs := [128, 5, 65]) 10 3 3 V (.inl rfl) rfl (by omega) (by omega) (by omega) (hs V hb) (by decide)).mono ?_
    rintro e w' ⟨h3 | h3, h4⟩
    · rw [hx] at h3
      obtain ⟨_, v, L, h5, rfl, ho⟩ := h3
      obtain ⟨Av, cv, rfl, _⟩ := ho.form
      exact ⟨_, _, _, _, _, Av, _, cv, rfl, h4⟩
    · rw [hx] at h3
      exact absurd rfl h3.1
end Go.Proofs.Ytjobgnemklpiaaa
namespace Go.Proofs.Ytjobgnemklpiaaa
open Go.RowKit

set_option maxRecDepth 100000 in
theorem ne_nil (ad : Addr) (n cap : Nat) (w : World) : Sem.run Try.prog (binOp BinOp.eql 61 (Value.slice (some ad) n cap) (Value.slice none 0 0)) w = Result.ok (Value.bool false) w := by
  rfl
theorem clone_e0 {B : Nat} {V : World} {e : Nat} (hB : B ≤ e) (h : Row V e 5 #[]) : OwnY B V (.slice (some ⟨e, 0, none⟩) 0 0) [] :=
  ⟨by simp [bts], .inr ⟨e, 0, #[], rfl, hB, h, Nat.le_refl _, by simp [maxLen], rfl, by simp [bts]⟩⟩
set_option maxRecDepth 100000 in
set_option maxHeartbeats 800000 in
theorem pclone_any {A : Option Addr} {bs : List Nat} (n cap : Nat) (w : World) (hn : bs.length = n) (h0 : 0 < n) (hm : n ≤ 5000) (hs : Src w A (bts bs)) :
    Calls Try.prog 208 #[.slice A n cap] w fun e w' => ∃ g c cs, e = .returned (.slice (some ⟨g, 0, none⟩) n c) ∧ n ≤ c ∧ c ≤ maxLen ∧ Row w' g 5 cs ∧ Pre bs cs ∧ Below w.heap.size w w' := by
  obtain ⟨ad, rfl, _⟩ := hs (by rw [length_bts]; omega)
  have hal := bl_alloc (Below.refl w.heap.size w) (.cells #[] 5)
  obtain ⟨A1, c1, w1, h1, h2, h3, h4, h5⟩ := app_bytes (l := []) (A := some ad) n cap (clone_e0 (Nat.le_refl _) (Row.made w 5 #[])) hal.size (st_src_later hs hal) hn (by simp; omega)
  simp only [List.length_nil, Nat.zero_add, List.nil_append] at h1 h2 h5
  rcases h2.2 with ⟨e1, e2⟩ | ⟨g, cp, cur, e1, hBg, hh, hnc, hcm, hsz, htk⟩
  · omega
  · injection e1 with e1 e2 e3
    subst e1 e3
    have HR := Lib.hid (show Row w1 g 5 cur from hh)
    have HP := Lib.hid (show Pre bs cur from fun j b hj => by
      have h9 := bts_at hj
      rw [← htk, List.getElem?_take] at h9
      split at h9
      · simpa using h9
      · cases h9)
    have HB := Lib.hid (hal.trans h3)
    rw [hn] at hnc
    clear hs h2 hh htk hsz h3 h4 h5 hn hal e2
    go_enter Try.func208, Try.ntmps208
    go_wp2_with (first | (simp only [ne_nil, Result.andThen_ok]) | (at_builtin; refine wpList_run rfl (.tmp 5) (.tmp 6) 61 rfl (.slice (some ⟨w.heap.size, 0, none⟩) 0 0) (.slice (some ad) n cap) (by rfl) (by rfl) h1 ?_))
    go_ret
    exact ⟨g, c1, cur, rfl, hnc, hcm, HR.out, HP.out, HB.out⟩
theorem pclipb (g n c : Nat) (w : World) (h1 : n ≤ c) :
    Calls Try.prog 125 #[.slice (some ⟨g, 0, none⟩) n c] w fun e w' => e = .returned (.slice (some ⟨g, 0, none⟩) n n) ∧ w = w' := by
  go_enter Try.func125, Try.ntmps125
  go_wp2
  go_ret
  exact ⟨rfl, rfl⟩
theorem pcopied_any {A : Option Addr} {bs : List Nat} (n cap : Nat) (w : World) (hn : bs.length = n) (h0 : 0 < n) (hm : n ≤ 5000) (hs : Src w A (bts bs)) :
    Calls Try.prog 193 #[.slice A n cap] w fun e w' => ∃ g cs, e = .returned (.slice (some ⟨g, 0, none⟩) n n) ∧ Row w' g 5 cs ∧ Pre bs cs ∧ Below w.heap.size w w' := by
  have HC := Lib.hid (pclone_any n cap w hn h0 hm hs)
  clear hs hn
  go_enter Try.func193, Try.ntmps193
  go_wp2_with (first
    | (go_at_call 208; (with_reducible refine HC.out.mono ?_); rintro e w1 ⟨g, c, cs, rfl, h1, h2, hr, hp, hb⟩; (have HR := Lib.hid hr; have HP := Lib.hid hp; have HB := Lib.hid hb; clear hr hp hb))
    | (go_at_call 125; (with_reducible refine (pclipb _ _ _ _ h1).mono ?_); rintro e wx ⟨rfl, rfl⟩))
  go_ret
  exact ⟨g, cs, rfl, HR.out, HP.out, HB.out⟩
theorem ptext_ok {A : Option Addr} {bs : List Nat} (n cap : Nat) (w : World) (hn : bs.length = n) (h0 : 0 < n) (hm : n ≤ 1000) (hs : Src w A (bts bs)) :
    Calls Try.prog 168 #[.slice A n cap] w fun e w' => ∃ (g : Nat) (cs : Array Value), e = .returned (.tuple #[.slice (some ⟨g, 0, none⟩) n n, .int .i64 0]) ∧ Row w' g 5 cs ∧ Pre bs cs ∧ Below w.heap.size w w' := by
  have HC := Lib.hid (pcopied_any n cap w hn h0 (by omega) hs)
  have g1 : (n == 0) = false := by simp; omega
  have g2 : decide ((1000 : Int) < n) = false := decide_eq_false (by omega)
  have g2' : decide (1000 < n) = false := decide_eq_false (by omega)
  clear hs hn
  go_enter Try.func168, Try.ntmps168
  go_wp2_with (go_at_call 193; (with_reducible refine HC.out.mono ?_); rintro e w1 ⟨g, cs, rfl, hr, hp, hb⟩)
  go_ret2
  exact ⟨g, cs, rfl, hr, hp, hb⟩
theorem ptext_no {A : Option Addr} (n cap : Nat) (w : World) (hn : n = 0 ∨ 1000 < n) :
    Calls Try.prog 168 #[.slice A n cap] w fun e w' => e = .returned (.tuple #[.slice none 0 0, .int .i64 (if n = 0 then 8 else 2)]) ∧ Below w.heap.size w w' := by
  by_cases h : n = 0
  · subst h
    go_enter Try.func168, Try.ntmps168
    go_wp2
    go_ret2
    exact ⟨rfl, Below.refl _ _⟩
  · have g1 : (n == 0) = false := by simpa using h
    have g2 : decide ((1000 : Int) < n) = true := decide_eq_true (by omega)
    have g2' : decide (1000 < n) = true := decide_eq_true (by omega)
    rw [if_neg h]
    clear hn h
    go_enter Try.func168, Try.ntmps168
    go_wp2
    go_ret2
    exact ⟨rfl, Below.refl _ _⟩
end Go.Proofs.Ytjobgnemklpiaaa
namespace Go.Proofs.Ytjobgnemklpiaaa
open Go.RowKit

def ECells (c : Cf) (q : Value) : Array Value := #[.int .i64 c.mode, .int .i64 c.bits, .int .i64 c.win, .int .i64 c.reo, .int .i64 c.prx, .int .i64 c.pro, .int .i64 c.ppd, .int .i64 c.pby, .int .i64 c.mrx, .int .i64 c.qb, q]
theorem equeue_any {x : Nat} {c : Cf} {v : Option Addr} {w : World} (h : Row w x 122 (ECells c (.pointer v))) : Calls Try.prog 129 #[.pointer (some ⟨x, 0, none⟩)] w fun e w' => e = .returned (.pointer v) ∧ w = w' := by
  have c1 := h.read (i := 10) (x := .pointer v) rfl
  clear h
  go_enter Try.func129, Try.ntmps129
  go_wp2
  go_ret
  exact ⟨rfl, rfl⟩
theorem equeue_nil (w : World) : Calls Try.prog 129 #[.pointer none] w fun e w' => e = .returned (.pointer none) ∧ w = w' := by
  go_enter Try.func129, Try.ntmps129
  go_wp2
  go_ret
  exact ⟨rfl, rfl⟩
section
variable {B x q last : Nat} {c : Cf} {room : Int} {ts : List Txt} {w : World}
set_option maxHeartbeats 800000 in
theorem epush_all (A : Option Addr) (l : List Nat) (n k : Nat) (hn : l.length = n) (hE : Row w x 122 (ECells c (.pointer (some ⟨q, 0, none⟩)))) (h : QRep B w q room last ts) (hr : 0 < room) (hr2 : room ≤ 20000) (hb : (bytesF ts : Int) ≤ room) (hts : ts.length ≤ 64) (hll : n ≤ 9223372036854775807) (hlast : last ≤ 1000000000)
    (hsrc : ∀ W, QOnly B w W → Src W A (bts l)) :
    Calls Try.prog 67 #[.pointer (some ⟨x, 0, none⟩), .slice A n k] w (PushAny B q last room ts l w) := by
  have HQ := Lib.hid (equeue_any hE)
  have HP := Lib.hid (push_all A l k h hr hr2 hb hts (by rw [hn]; exact hll) hlast (fun W hW => src_qsrc (hsrc W hW)))
  rw [hn] at HP
  clear hE h hsrc hn
  go_enter Try.func67, Try.ntmps67
  go_wp2_with (first
    | (go_at_call 129; (with_reducible refine HQ.out.mono ?_); rintro e w1 ⟨rfl, rfl⟩)
    | (go_at_call 36; (with_reducible refine HP.out.mono ?_); rintro e w1 ⟨nid, er, rfl, hq, hz9⟩; have H : Hid (PushAny B q last room ts l w (.returned (.tuple #[.int .u64 nid, .int .i64 er])) w1) := Lib.hid ⟨nid, er, rfl, hq, hz9⟩; clear hq hz9))
  go_ret2
  exact H.out
set_option maxHeartbeats 800000 in
theorem edisc_any (nid : Nat) (hE : Row w x 122 (ECells c (.pointer (some ⟨q, 0, none⟩)))) (h : QRep B w q room last ts) (hr : 0 < room) (hn : ts.length ≤ 900) :
    Calls Try.prog 70 #[.pointer (some ⟨x, 0, none⟩), .int .u64 nid] w fun e w' => e = .returned (.int .i64 (discE nid ts)) ∧ QRep B w' q room last (discF nid ts) ∧ QOnly B w w' := by
  have HQ := Lib.hid (equeue_any hE)
  have HP := Lib.hid (discard_any nid h hr hn)
  clear hE h
  go_enter Try.func70, Try.ntmps70
  go_wp2_with (first
    | (go_at_call 129; (with_reducible refine HQ.out.mono ?_); rintro e w1 ⟨rfl, rfl⟩)
    | (go_at_call 40; (with_reducible refine HP.out.mono ?_); rintro e w1 ⟨rfl, hq, ho⟩; (have H1 := Lib.hid hq; have H2 := Lib.hid ho; clear hq ho)))
  go_ret
  exact ⟨rfl, H1.out, H2.out⟩
set_option maxHeartbeats 800000 in
theorem ebytes_any (hE : Row w x 122 (ECells c (.pointer (some ⟨q, 0, none⟩)))) (h : QRep B w q room last ts) (hr : 0 < room) (hb : bytesF ts ≤ 1000000000) :
    Calls Try.prog 71 #[.pointer (some ⟨x, 0, none⟩)] w fun e w' => e = .returned (.int .i64 (bytesF ts : Nat)) ∧ Below w.heap.size w w' := by
  have HQ := Lib.hid (equeue_any hE)
  have HP := Lib.hid (qbytes_any h hr hb)
  clear hE h
  go_enter Try.func71, Try.ntmps71
  go_wp2_with (first
    | (go_at_call 129; (with_reducible refine HQ.out.mono ?_); rintro e w1 ⟨rfl, rfl⟩)
    | (go_at_call 47; (with_reducible refine HP.out.mono ?_); rintro e w1 ⟨rfl, hbl⟩; (have H1 := Lib.hid hbl; clear hbl)))
  go_ret
  exact ⟨rfl, H1.out⟩
set_option maxRecDepth 100000 in
set_option maxHeartbeats 1600000 in
theorem ebuild_none (g : Int) (hE : Row w x 122 (ECells c (.pointer (some ⟨q, 0, none⟩)))) (h : QRep B w q room last []) (hr : 0 < room) (hg0 : 0 ≤ g) (hg1 : g ≤ 4096) :
    Calls Try.prog 68 #[.pointer (some ⟨x, 0, none⟩), .int .i64 g] w fun e w' => e = .returned (.tuple #[.slice none 0 0, .int .u64 0, .int .i64 4]) ∧ w = w' := by
  have HQ := Lib.hid (equeue_any hE)
  have HP := Lib.hid (front_none h hr)
  clear hE h
  go_enter Try.func68, Try.ntmps68
  go_wp2
  refine st_scope_through 0 (fun _ _ => False) (fun _ _ => 0) rfl (fun _ => ?_) (fun _ _ h => h.elim)
  go_wp2_with (first
    | (go_at_call 129; (with_reducible refine HQ.out.mono ?_); rintro e w1 ⟨rfl, rfl⟩)
    | (go_at_call 45; (with_reducible refine HP.out.mono ?_); rintro e w1 ⟨rfl, rfl⟩))
  try simp only [Exit.jump]
  go_ret3
  exact ⟨rfl, rfl⟩
set_option maxRecDepth 100000 in
set_option maxHeartbeats 1600000 in
theorem ebuild_grant {t : Txt} {r : List Txt} (g : Int) (hE : Row w x 122 (ECells c (.pointer (some ⟨q, 0, none⟩)))) (h : QRep B w q room last (t :: r)) (hr : 0 < room) (hg0 : 0 ≤ g) (hg1 : g ≤ 4096) (h0 : 0 < t.bs.length) (hl : t.bs.length ≤ 100000) (hg : g < (t.bs.length : Int)) :
    Calls Try.prog 68 #[.pointer (some ⟨x, 0, none⟩), .int .i64 g] w fun e w' => e = .returned (.tuple #[.slice none 0 0, .int .u64 0, .int .i64 16]) ∧ Below w.heap.size w w' := by
  have HQ := Lib.hid (equeue_any hE)
  have HP := Lib.hid (front_ok h hr h0 hl)
  have hne : ((t.bs.length : Int) == 0) = false := by rw [beq_eq_false_iff_ne]; omega
  clear hE h
  go_enter Try.func68, Try.ntmps68
  go_wp2
  refine st_scope_through 0 (fun _ _ => False) (fun _ _ => 0) rfl (fun _ => ?_) (fun _ _ h => h.elim)
  go_wp2_with (first
    | (go_at_call 129; (with_reducible refine HQ.out.mono ?_); rintro e w1 ⟨rfl, rfl⟩)
    | (go_at_call 45; (with_reducible refine HP.out.mono ?_); rintro e w1 ⟨g1, rfl, hg1, hby, hbl⟩; (have HB := Lib.hid hbl; clear hbl hby hg1)))
  try simp only [Exit.jump]
  go_ret3
  exact ⟨rfl, HB.out⟩
/-- a text is built -/
def EBuilt (B q last : Nat) (room : Int) (t : Txt) (r : List Txt) (w : World) (e : Ending) (w' : World) : Prop :=
  ∃ g, e = .returned (.tuple #[.slice (some ⟨g, 0, none⟩) t.bs.length t.bs.length, .int .u64 t.id, .int .i64 0]) ∧ w.heap.size ≤ g ∧ QBytes w' g t.bs ∧ QOnly B w w' ∧ QRep B w' q room last r
set_option maxRecDepth 100000 in
set_option maxHeartbeats 1600000 in
theorem ebuild_ok {t : Txt} {r : List Txt} (g : Int) (hE : Row w x 122 (ECells c (.pointer (some ⟨q, 0, none⟩)))) (h : QRep B w q room last (t :: r)) (hr : 0 < room) (hg1 : g ≤ 4096) (h0 : 0 < t.bs.length) (hl : t.bs.length ≤ 100000) (hg : (t.bs.length : Int) ≤ g) (hrl : r.length ≤ 900) :
    Calls Try.prog 68 #[.pointer (some ⟨x, 0, none⟩), .int .i64 g] w (EBuilt B q last room t r w) := by
  have HQ := Lib.hid (equeue_any hE)
  have HP := Lib.hid (front_ok h hr h0 hl)
  have HT := Lib.hid (fun W (hb : Below w.heap.size w W) => take_ok t.bs.length (h.later hb) hr (by omega) (Nat.le_refl _) hl hrl)
  have hne : ((t.bs.length : Int) == 0) = false := by rw [beq_eq_false_iff_ne]; omega
  have hg0 : 0 ≤ g := by omega
  have HW : Hid (∀ W (hb : Below w.heap.size w W) (e : Ending) (w' : World), TakeDone B q last room t r t.bs.length W e w' → ∃ g', e = .returned (.tuple #[.slice (some ⟨g', 0, none⟩) t.bs.length t.bs.length, .bool true, .int .i64 0]) ∧ w.heap.size ≤ g' ∧ QBytes w' g' t.bs ∧ QOnly B w w' ∧ QRep B w' q room last r) := Lib.hid (fun W hb e w' hd => by
    obtain ⟨g', rfl, h1, h2, h3, t', _, _, _, h4⟩ := hd
    rw [if_pos rfl] at h4
    rw [List.take_length] at h2
    exact ⟨g', by simp, Nat.le_trans hb.size h1, h2, (QOnly.of_below hb).trans h3, h4⟩)
  clear hE h
  go_enter Try.func68, Try.ntmps68
  go_wp2
  refine st_scope_through 0 (fun a' w' => ∃ g1 : Nat, Fr [none, none, none, none, none, none, none, some (.pointer (some ⟨q, 0, none⟩)), some (.int .u64 t.id), some (.slice (some ⟨g1, 0, none⟩) t.bs.length t.bs.length), none, none, none, none, none, none, none, none, none, none, none, none, none, none, none, none, none, none, none, none, none, none, none, none, none, none, none, none, none, none, none, none, none, none, none, none, none, none, none, none, none, none, none] a' ∧ Below w.heap.size w w') (fun _ _ => 0) rfl (fun _ => ?_) ?_
  · go_wp2_with (first
      | (go_at_call 129; (with_reducible refine HQ.out.mono ?_); rintro e w1 ⟨rfl, rfl⟩)
      | (go_at_call 45; (with_reducible refine HP.out.mono ?_); rintro e w1 ⟨g1, rfl, hg1, hby, hbl⟩; (have HB := Lib.hid hbl; clear hbl hby hg1)))
    go_step3
    refine ⟨rfl, g1, ?_, HB.out⟩
    simp only [Fr, Holes]
    repeat apply Exists.intro
    rfl
  · rintro a' w' ⟨g1, hfr, hbl⟩
    have HB := Lib.hid hbl
    clear hbl
    simp only [Fr, Holes] at hfr
    repeat (obtain ⟨_, hfr⟩ := hfr)
    go_wp2_with (go_at_call 38; (with_reducible refine (HT.out _ HB.out).mono ?_); intro e w2 hd; obtain ⟨g2, rfl, k1, k2, k3, k4⟩ := HW.out _ HB.out e w2 hd; (have K : Hid (EBuilt B q last room t r w (.returned (.tuple #[.slice (some ⟨g2, 0, none⟩) t.bs.length t.bs.length, .int .u64 t.id, .int .i64 0])) w2) := Lib.hid ⟨g2, rfl, k1, k2, k3, k4⟩; clear hd k1 k2 k3 k4))
    try simp only [Exit.jump]
    go_ret3
    exact K.out
end
end Go.Proofs.Ytjobgnemklpiaaa
namespace Go.Proofs.Ytjobgnemklpiaaa
open Go.RowKit

/-- what a glue holds, and how many it lost -/
structure GS where
  held : List Nat
  lost : Nat
def GS.lose (s : GS) : GS := if s.held = [] then s else ⟨[], s.lost + 1⟩
def GS.come (s : GS) (f : List Nat) (b e : Bool) : GS :=
  if b then (if f.length ≤ 1000 then ⟨f, s.lose.lost⟩ else ⟨[], s.lose.lost + 1⟩)
  else if s.held = [] then (if e then ⟨[], s.lost + 1⟩ else s)
  else if s.held.length + f.length ≤ 1000 then ⟨s.held ++ f, s.lost⟩ else ⟨[], s.lost + 1⟩
def GS.told (s : GS) (e : Bool) : GS × List (List Nat) := if e then (if s.held = [] then (s, []) else (⟨[], s.lost⟩, [s.held])) else (s, [])
def beg (fi : Nat) (k : Nat) : Bool := decide (0 < k) || (fi / 2 % 2 == 0)
def fin (fi : Nat) (n k : Nat) : Bool := decide (k + 1 < n) || (fi % 2 == 0)
/-- fields come, from field k of n on -/
def goG (fi n : Nat) : Nat → List (List Nat) → GS → GS × List (List Nat)
  | _, [], s => (s, [])
  | k, f :: r, s =>
    let y := (s.come f (beg fi k) (fin fi n k)).told (fin fi n k)
    let z := goG fi n (k + 1) r y.1
    (z.1, y.2 ++ z.2)
def putG (fi : Nat) (fs : List (List Nat)) (gap : Bool) (s : GS) : GS × List (List Nat) := goG fi fs.length 0 fs (if gap then s.lose else s)
theorem GS.come_short (s : GS) (f : List Nat) (b e : Bool) (h : s.held.length ≤ 1000) : (s.come f b e).held.length ≤ 1000 := by
  unfold GS.come
  repeat' split
  all_goals simp_all
theorem GS.lose_short (s : GS) (h : s.held.length ≤ 1000) : s.lose.held.length ≤ 1000 := by
  unfold GS.lose
  split <;> simp_all
theorem GS.lose_lost (s : GS) : s.lost ≤ s.lose.lost ∧ s.lose.lost ≤ s.lost + 1 := by
  unfold GS.lose
  split <;> simp
theorem GS.come_lost (s : GS) (f : List Nat) (b e : Bool) : s.lost ≤ (s.come f b e).lost ∧ (s.come f b e).lost ≤ s.lost + 2 := by
  have := s.lose_lost
  unfold GS.come
  repeat' split
  all_goals simp_all
  all_goals omega
end Go.Proofs.Ytjobgnemklpiaaa
