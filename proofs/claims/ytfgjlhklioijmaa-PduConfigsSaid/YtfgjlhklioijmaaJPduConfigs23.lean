/-
  pdu: the document's Check, of the mode that asks. pdu: Usual; what a config that may not be answers; what pdu answers to fixed calls. What pdu answers to fixed calls.
-/
import Derived.Test.YtfgjlhklioijmaaJPduConfigs22
import Derived.Test.YtfgjlhklioijmaaJPduConfigs13
import Derived.Test.YtfgjlhklioijmaaJPduConfigs14
namespace Go.Proofs.Ytfgjlhklioijmaa
open Go.RowKit

set_option maxRecDepth 100000 in
set_option maxHeartbeats 12800000 in
theorem rcheck2 (bits win reo prx pro ppd pby mrx qb : Int) (w : World) :
    Calls Try.prog 40 #[.agg #[.int .i64 2, .int .i64 bits, .int .i64 win, .int .i64 reo, .int .i64 prx, .int .i64 pro, .int .i64 ppd, .int .i64 pby, .int .i64 mrx, .int .i64 qb]] w fun e w' => e = .returned (.int .i64 (checkF ⟨2, bits, win, reo, prx, pro, ppd, pby, mrx, qb⟩)) ∧ Below w.heap.size w w' := by
  have ROW := Lib.hid (Row.made w 49 #[.int .i64 2, .int .i64 bits, .int .i64 win, .int .i64 reo, .int .i64 prx, .int .i64 pro, .int .i64 ppd, .int .i64 pby, .int .i64 mrx, .int .i64 qb])
  have HB0 := Lib.hid (bl_alloc (Below.refl w.heap.size w) (.cells #[.int .i64 2, .int .i64 bits, .int .i64 win, .int .i64 reo, .int .i64 prx, .int .i64 pro, .int .i64 ppd, .int .i64 pby, .int .i64 mrx, .int .i64 qb] 49))
  have HSZ := Lib.hid (fun W => rsize_any bits W)
  have hsz := sz_bd bits
  have HF := Lib.hid (show checkF ⟨2, bits, win, reo, prx, pro, ppd, pby, mrx, qb⟩ = if inB qb 1 20000 && (in2 bits 10 16 && (inB win 1 (sz bits / 2) && (inB reo 1 1000 && (inB prx 1 1000 && (inB pro 0 1000 && (inB ppd 1 1000 && (inB pby 1 20000 && inB mrx 1 32))))))) then 0 else 1 by unfold checkF qbB numB askB limB; simp [limB, Bool.and_assoc])
  have HI0 := Lib.hid (fun W => rpis_any qb 1 20000 W)
  have HI1 := Lib.hid (fun W => rpis_any win 1 (sz bits / 2) W)
  have HI2 := Lib.hid (fun W => rpis_any reo 1 1000 W)
  have HI3 := Lib.hid (fun W => rpis_any prx 1 1000 W)
  have HI4 := Lib.hid (fun W => rpis_any pro 0 1000 W)
  have HI5 := Lib.hid (fun W => rpis_any ppd 1 1000 W)
  have HI6 := Lib.hid (fun W => rpis_any pby 1 20000 W)
  have HI7 := Lib.hid (fun W => rpis_any mrx 1 32 W)
  generalize sz bits = sb at *
  cases hq0 : inB qb 1 20000
  · rw [hq0] at HI0 HF
    clear hq0
    go_enter Try.func40, Try.ntmps40
    obtain ⟨c0, c1, c2, c3, c4, c5, c6, c7, c8, c9⟩ := cells10 ROW.out
    go_wp2_with (first
      | (go_at_call 161; (with_reducible refine (HI0.out _).mono ?_); rintro e wx ⟨rfl, rfl⟩)
      | (go_at_call 161; (with_reducible refine (HI1.out _).mono ?_); rintro e wx ⟨rfl, rfl⟩)
      | (go_at_call 161; (with_reducible refine (HI2.out _).mono ?_); rintro e wx ⟨rfl, rfl⟩)
      | (go_at_call 161; (with_reducible refine (HI3.out _).mono ?_); rintro e wx ⟨rfl, rfl⟩)
      | (go_at_call 161; (with_reducible refine (HI4.out _).mono ?_); rintro e wx ⟨rfl, rfl⟩)
      | (go_at_call 161; (with_reducible refine (HI5.out _).mono ?_); rintro e wx ⟨rfl, rfl⟩)
      | (go_at_call 161; (with_reducible refine (HI6.out _).mono ?_); rintro e wx ⟨rfl, rfl⟩)
      | (go_at_call 161; (with_reducible refine (HI7.out _).mono ?_); rintro e wx ⟨rfl, rfl⟩)
      | (go_at_call 132; (with_reducible refine (HSZ.out _).mono ?_); rintro e wx ⟨rfl, rfl⟩))
    all_goals
      go_ret
      refine ⟨?_, bl_alloc (Below.refl _ _) _⟩
      rw [HF.out]
      first | rfl | simp_all [z8, z5, in2]
  · rw [hq0] at HI0 HF
    clear hq0
    cases hq1 : inB win 1 (sb / 2)
    · rw [hq1] at HI1 HF
      clear hq1
      go_enter Try.func40, Try.ntmps40
      obtain ⟨c0, c1, c2, c3, c4, c5, c6, c7, c8, c9⟩ := cells10 ROW.out
      go_wp2_with (first
        | (go_at_call 161; (with_reducible refine (HI0.out _).mono ?_); rintro e wx ⟨rfl, rfl⟩)
        | (go_at_call 161; (with_reducible refine (HI1.out _).mono ?_); rintro e wx ⟨rfl, rfl⟩)
        | (go_at_call 161; (with_reducible refine (HI2.out _).mono ?_); rintro e wx ⟨rfl, rfl⟩)
        | (go_at_call 161; (with_reducible refine (HI3.out _).mono ?_); rintro e wx ⟨rfl, rfl⟩)
        | (go_at_call 161; (with_reducible refine (HI4.out _).mono ?_); rintro e wx ⟨rfl, rfl⟩)
        | (go_at_call 161; (with_reducible refine (HI5.out _).mono ?_); rintro e wx ⟨rfl, rfl⟩)
        | (go_at_call 161; (with_reducible refine (HI6.out _).mono ?_); rintro e wx ⟨rfl, rfl⟩)
        | (go_at_call 161; (with_reducible refine (HI7.out _).mono ?_); rintro e wx ⟨rfl, rfl⟩)
        | (go_at_call 132; (with_reducible refine (HSZ.out _).mono ?_); rintro e wx ⟨rfl, rfl⟩))
      all_goals
        go_ret
        refine ⟨?_, bl_alloc (Below.refl _ _) _⟩
        rw [HF.out]
        first | rfl | simp_all [z8, z5, in2]
    · rw [hq1] at HI1 HF
      clear hq1
      cases hq2 : inB reo 1 1000
      · rw [hq2] at HI2 HF
        clear hq2
        go_enter Try.func40, Try.ntmps40
        obtain ⟨c0, c1, c2, c3, c4, c5, c6, c7, c8, c9⟩ := cells10 ROW.out
        go_wp2_with (first
          | (go_at_call 161; (with_reducible refine (HI0.out _).mono ?_); rintro e wx ⟨rfl, rfl⟩)
          | (go_at_call 161; (with_reducible refine (HI1.out _).mono ?_); rintro e wx ⟨rfl, rfl⟩)
          | (go_at_call 161; (with_reducible refine (HI2.out _).mono ?_); rintro e wx ⟨rfl, rfl⟩)
          | (go_at_call 161; (with_reducible refine (HI3.out _).mono ?_); rintro e wx ⟨rfl, rfl⟩)
          | (go_at_call 161; (with_reducible refine (HI4.out _).mono ?_); rintro e wx ⟨rfl, rfl⟩)
          | (go_at_call 161; (with_reducible refine (HI5.out _).mono ?_); rintro e wx ⟨rfl, rfl⟩)
          | (go_at_call 161; (with_reducible refine (HI6.out _).mono ?_); rintro e wx ⟨rfl, rfl⟩)
          | (go_at_call 161; (with_reducible refine (HI7.out _).mono ?_); rintro e wx ⟨rfl, rfl⟩)
          | (go_at_call 132; (with_reducible refine (HSZ.out _).mono ?_); rintro e wx ⟨rfl, rfl⟩))
        all_goals
          go_ret
          refine ⟨?_, bl_alloc (Below.refl _ _) _⟩
          rw [HF.out]
          first | rfl | simp_all [z8, z5, in2]
      · rw [hq2] at HI2 HF
        clear hq2
        cases hq3 : inB prx 1 1000
        · rw [hq3] at HI3 HF
          clear hq3
          go_enter Try.func40, Try.ntmps40
          obtain ⟨c0, c1, c2, c3, c4, c5, c6, c7, c8, c9⟩ := cells10 ROW.out
          go_wp2_with (first
            | (go_at_call 161; (with_reducible refine (HI0.out _).mono ?_); rintro e wx ⟨rfl, rfl⟩)
            | (go_at_call 161; (with_reducible refine (HI1.out _).mono ?_); rintro e wx ⟨rfl, rfl⟩)
            | (go_at_call 161; (with_reducible refine (HI2.out _).mono ?_); rintro e wx ⟨rfl, rfl⟩)
            | (go_at_call 161; (with_reducible refine (HI3.out _).mono ?_); rintro e wx ⟨rfl, rfl⟩)
            | (go_at_call 161; (with_reducible refine (HI4.out _).mono ?_); rintro e wx ⟨rfl, rfl⟩)
            | (go_at_call 161; (with_reducible refine (HI5.out _).mono ?_); rintro e wx ⟨rfl, rfl⟩)
            | (go_at_call 161; (with_reducible refine (HI6.out _).mono ?_); rintro e wx ⟨rfl, rfl⟩)
            | (go_at_call 161; (with_reducible refine (HI7.out _).mono ?_); rintro e wx ⟨rfl, rfl⟩)
            | (go_at_call 132; (with_reducible refine (HSZ.out _).mono ?_); rintro e wx ⟨rfl, rfl⟩))
          all_goals
            go_ret
            refine ⟨?_, bl_alloc (Below.refl _ _) _⟩
            rw [HF.out]
            first | rfl | simp_all [z8, z5, in2]
        · rw [hq3] at HI3 HF
          clear hq3
          cases hq4 : inB pro 0 1000
          · rw [hq4] at HI4 HF
            clear hq4
            go_enter Try.func40, Try.ntmps40
            obtain ⟨c0, c1, c2, c3, c4, c5, c6, c7, c8, c9⟩ := cells10 ROW.out
            go_wp2_with (first
              | (go_at_call 161; (with_reducible refine (HI0.out _).mono ?_); rintro e wx ⟨rfl, rfl⟩)
              | (go_at_call 161; (with_reducible refine (HI1.out _).mono ?_); rintro e wx ⟨rfl, rfl⟩)
              | (go_at_call 161; (with_reducible refine (HI2.out _).mono ?_); rintro e wx ⟨rfl, rfl⟩)
              | (go_at_call 161; (with_reducible refine (HI3.out _).mono ?_); rintro e wx ⟨rfl, rfl⟩)
              | (go_at_call 161; (with_reducible refine (HI4.out _).mono ?_); rintro e wx ⟨rfl, rfl⟩)
              | (go_at_call 161; (with_reducible refine (HI5.out _).mono ?_); rintro e wx ⟨rfl, rfl⟩)
              | (go_at_call 161; (with_reducible refine (HI6.out _).mono ?_); rintro e wx ⟨rfl, rfl⟩)
              | (go_at_call 161; (with_reducible refine (HI7.out _).mono ?_); rintro e wx ⟨rfl, rfl⟩)
              | (go_at_call 132; (with_reducible refine (HSZ.out _).mono ?_); rintro e wx ⟨rfl, rfl⟩))
            all_goals
              go_ret
              refine ⟨?_, bl_alloc (Below.refl _ _) _⟩
              rw [HF.out]
              first | rfl | simp_all [z8, z5, in2]
          · rw [hq4] at HI4 HF
            clear hq4
            cases hq5 : inB ppd 1 1000
            · rw [hq5] at HI5 HF
              clear hq5
              go_enter Try.func40, Try.ntmps40
              obtain ⟨c0, c1, c2, c3, c4, c5, c6, c7, c8, c9⟩ := cells10 ROW.out
              go_wp2_with (first
                | (go_at_call 161; (with_reducible refine (HI0.out _).mono ?_); rintro e wx ⟨rfl, rfl⟩)
                | (go_at_call 161; (with_reducible refine (HI1.out _).mono ?_); rintro e wx ⟨rfl, rfl⟩)
                | (go_at_call 161; (with_reducible refine (HI2.out _).mono ?_); rintro e wx ⟨rfl, rfl⟩)
                | (go_at_call 161; (with_reducible refine (HI3.out _).mono ?_); rintro e wx ⟨rfl, rfl⟩)
                | (go_at_call 161; (with_reducible refine (HI4.out _).mono ?_); rintro e wx ⟨rfl, rfl⟩)
                | (go_at_call 161; (with_reducible refine (HI5.out _).mono ?_); rintro e wx ⟨rfl, rfl⟩)
                | (go_at_call 161; (with_reducible refine (HI6.out _).mono ?_); rintro e wx ⟨rfl, rfl⟩)
                | (go_at_call 161; (with_reducible refine (HI7.out _).mono ?_); rintro e wx ⟨rfl, rfl⟩)
                | (go_at_call 132; (with_reducible refine (HSZ.out _).mono ?_); rintro e wx ⟨rfl, rfl⟩))
              all_goals
                go_ret
                refine ⟨?_, bl_alloc (Below.refl _ _) _⟩
                rw [HF.out]
                first | rfl | simp_all [z8, z5, in2]
            · rw [hq5] at HI5 HF
              clear hq5
              cases hq6 : inB pby 1 20000
              · rw [hq6] at HI6 HF
                clear hq6
                go_enter Try.func40, Try.ntmps40
                obtain ⟨c0, c1, c2, c3, c4, c5, c6, c7, c8, c9⟩ := cells10 ROW.out
                go_wp2_with (first
                  | (go_at_call 161; (with_reducible refine (HI0.out _).mono ?_); rintro e wx ⟨rfl, rfl⟩)
                  | (go_at_call 161; (with_reducible refine (HI1.out _).mono ?_); rintro e wx ⟨rfl, rfl⟩)
                  | (go_at_call 161; (with_reducible refine (HI2.out _).mono ?_); rintro e wx ⟨rfl, rfl⟩)
                  | (go_at_call 161; (with_reducible refine (HI3.out _).mono ?_); rintro e wx ⟨rfl, rfl⟩)
                  | (go_at_call 161; (with_reducible refine (HI4.out _).mono ?_); rintro e wx ⟨rfl, rfl⟩)
                  | (go_at_call 161; (with_reducible refine (HI5.out _).mono ?_); rintro e wx ⟨rfl, rfl⟩)
                  | (go_at_call 161; (with_reducible refine (HI6.out _).mono ?_); rintro e wx ⟨rfl, rfl⟩)
                  | (go_at_call 161; (with_reducible refine (HI7.out _).mono ?_); rintro e wx ⟨rfl, rfl⟩)
                  | (go_at_call 132; (with_reducible refine (HSZ.out _).mono ?_); rintro e wx ⟨rfl, rfl⟩))
                all_goals
                  go_ret
                  refine ⟨?_, bl_alloc (Below.refl _ _) _⟩
                  rw [HF.out]
                  first | rfl | simp_all [z8, z5, in2]
              · rw [hq6] at HI6 HF
                clear hq6
                cases hq7 : inB mrx 1 32
                · rw [hq7] at HI7 HF
                  clear hq7
                  go_enter Try.func40, Try.ntmps40
                  obtain ⟨c0, c1, c2, c3, c4, c5, c6, c7, c8, c9⟩ := cells10 ROW.out
                  go_wp2_with (first
                    | (go_at_call 161; (with_reducible refine (HI0.out _).mono ?_); rintro e wx ⟨rfl, rfl⟩)
                    | (go_at_call 161; (with_reducible refine (HI1.out _).mono ?_); rintro e wx ⟨rfl, rfl⟩)
                    | (go_at_call 161; (with_reducible refine (HI2.out _).mono ?_); rintro e wx ⟨rfl, rfl⟩)
                    | (go_at_call 161; (with_reducible refine (HI3.out _).mono ?_); rintro e wx ⟨rfl, rfl⟩)
                    | (go_at_call 161; (with_reducible refine (HI4.out _).mono ?_); rintro e wx ⟨rfl, rfl⟩)
                    | (go_at_call 161; (with_reducible refine (HI5.out _).mono ?_); rintro e wx ⟨rfl, rfl⟩)
                    | (go_at_call 161; (with_reducible refine (HI6.out _).mono ?_); rintro e wx ⟨rfl, rfl⟩)
                    | (go_at_call 161; (with_reducible refine (HI7.out _).mono ?_); rintro e wx ⟨rfl, rfl⟩)
                    | (go_at_call 132; (with_reducible refine (HSZ.out _).mono ?_); rintro e wx ⟨rfl, rfl⟩))
                  all_goals
                    go_ret
                    refine ⟨?_, bl_alloc (Below.refl _ _) _⟩
                    rw [HF.out]
                    first | rfl | simp_all [z8, z5, in2]
                · rw [hq7] at HI7 HF
                  clear hq7
                  go_enter Try.func40, Try.ntmps40
                  obtain ⟨c0, c1, c2, c3, c4, c5, c6, c7, c8, c9⟩ := cells10 ROW.out
                  go_wp2_with (first
                    | (go_at_call 161; (with_reducible refine (HI0.out _).mono ?_); rintro e wx ⟨rfl, rfl⟩)
                    | (go_at_call 161; (with_reducible refine (HI1.out _).mono ?_); rintro e wx ⟨rfl, rfl⟩)
                    | (go_at_call 161; (with_reducible refine (HI2.out _).mono ?_); rintro e wx ⟨rfl, rfl⟩)
                    | (go_at_call 161; (with_reducible refine (HI3.out _).mono ?_); rintro e wx ⟨rfl, rfl⟩)
                    | (go_at_call 161; (with_reducible refine (HI4.out _).mono ?_); rintro e wx ⟨rfl, rfl⟩)
                    | (go_at_call 161; (with_reducible refine (HI5.out _).mono ?_); rintro e wx ⟨rfl, rfl⟩)
                    | (go_at_call 161; (with_reducible refine (HI6.out _).mono ?_); rintro e wx ⟨rfl, rfl⟩)
                    | (go_at_call 161; (with_reducible refine (HI7.out _).mono ?_); rintro e wx ⟨rfl, rfl⟩)
                    | (go_at_call 132; (with_reducible refine (HSZ.out _).mono ?_); rintro e wx ⟨rfl, rfl⟩))
                  all_goals
                    go_ret
                    refine ⟨?_, bl_alloc (Below.refl _ _) _⟩
                    rw [HF.out]
                    first | rfl | simp_all [z8, z5, in2]
end Go.Proofs.Ytfgjlhklioijmaa
namespace Go.Proofs.Ytfgjlhklioijmaa
open Go.RowKit

def usF (mode : Int) : Cf := if mode = 0 then ⟨0, 0, 0, 0, 0, 0, 0, 0, 0, 5000⟩ else if mode = 1 then ⟨1, 5, 16, 4, 0, 0, 0, 0, 0, 5000⟩ else if mode = 2 then ⟨2, 10, 512, 4, 8, 3, 4, 500, 4, 5000⟩ else ⟨0, 0, 0, 0, 0, 0, 0, 0, 0, 0⟩
set_option maxRecDepth 100000 in
set_option maxHeartbeats 1600000 in
theorem pusual_any (mode : Int) (w : World) : Calls Try.prog 39 #[.int .i64 mode] w fun e w' => e = .returned (.agg (usF mode).a) ∧ Below w.heap.size w w' := by
  obtain ⟨dd, hdd⟩ := undercf_parts
  by_cases h0 : mode = 0
  · have g0 : (mode == 0) = true := by simpa using h0
    have HU := Lib.hid (show (usF mode).a = #[.int .i64 0, .int .i64 0, .int .i64 0, .int .i64 0, .int .i64 0, .int .i64 0, .int .i64 0, .int .i64 0, .int .i64 0, .int .i64 5000] by unfold usF; rw [if_pos h0]; rfl)
    rw [HU.out]
    clear h0
    go_enter Try.func39, Try.ntmps39
    go_wp2
    refine bodyPost_ret (results_cell_row rfl _ _ w.heap.size 49 #[.int .i64 0, .int .i64 0, .int .i64 0, .int .i64 0, .int .i64 0, .int .i64 0, .int .i64 0, .int .i64 0, .int .i64 0, .int .i64 5000] (0, 0) (.struct dd) rfl (Row.made _ _ _) hdd rfl Try.infocf) rfl ?_
    exact ⟨rfl, bl_alloc (Below.refl _ _) _⟩
  · have g0 : (mode == 0) = false := by simpa using h0
    by_cases h1 : mode = 1
    · have g1 : (mode == 1) = true := by simpa using h1
      have HU := Lib.hid (show (usF mode).a = #[.int .i64 1, .int .i64 5, .int .i64 16, .int .i64 4, .int .i64 0, .int .i64 0, .int .i64 0, .int .i64 0, .int .i64 0, .int .i64 5000] by unfold usF; rw [if_neg h0, if_pos h1]; rfl)
      rw [HU.out]
      clear h0 h1
      go_enter Try.func39, Try.ntmps39
      go_wp2
      refine bodyPost_ret (results_cell_row rfl _ _ w.heap.size 49 #[.int .i64 1, .int .i64 5, .int .i64 16, .int .i64 4, .int .i64 0, .int .i64 0, .int .i64 0, .int .i64 0, .int .i64 0, .int .i64 5000] (0, 0) (.struct dd) rfl (Row.made _ _ _) hdd rfl Try.infocf) rfl ?_
      exact ⟨rfl, bl_alloc (Below.refl _ _) _⟩
    · have g1 : (mode == 1) = false := by simpa using h1
      by_cases h2 : mode = 2
      · have g2 : (mode == 2) = true := by simpa using h2
        have HU := Lib.hid (show (usF mode).a = #[.int .i64 2, .int .i64 10, .int .i64 512, .int .i64 4, .int .i64 8, .int .i64 3, .int .i64 4, .int .i64 500, .int .i64 4, .int .i64 5000] by unfold usF; rw [if_neg h0, if_neg h1, if_pos h2]; rfl)
        rw [HU.out]
        clear h0 h1 h2
        go_enter Try.func39, Try.ntmps39
        go_wp2
        refine bodyPost_ret (results_cell_row rfl _ _ w.heap.size 49 #[.int .i64 2, .int .i64 10, .int .i64 512, .int .i64 4, .int .i64 8, .int .i64 3, .int .i64 4, .int .i64 500, .int .i64 4, .int .i64 5000] (0, 0) (.struct dd) rfl (Row.made _ _ _) hdd rfl Try.infocf) rfl ?_
        exact ⟨rfl, bl_alloc (Below.refl _ _) _⟩
      · have g2 : (mode == 2) = false := by simpa using h2
        have HU := Lib.hid (show (usF mode).a = #[.int .i64 0, .int .i64 0, .int .i64 0, .int .i64 0, .int .i64 0, .int .i64 0, .int .i64 0, .int .i64 0, .int .i64 0, .int .i64 0] by unfold usF; rw [if_neg h0, if_neg h1, if_neg h2]; rfl)
        rw [HU.out]
        clear h0 h1 h2
        go_enter Try.func39, Try.ntmps39
        go_wp2
        refine bodyPost_ret (results_cell_row rfl _ _ w.heap.size 49 #[.int .i64 0, .int .i64 0, .int .i64 0, .int .i64 0, .int .i64 0, .int .i64 0, .int .i64 0, .int .i64 0, .int .i64 0, .int .i64 0] (0, 0) (.struct dd) rfl (Row.made _ _ _) hdd rfl Try.infocf) rfl ?_
        exact ⟨rfl, bl_alloc (Below.refl _ _) _⟩
set_option maxRecDepth 100000 in
set_option maxHeartbeats 3200000 in
theorem pread_chk {A : Option Addr} (c : Cf) (n cap : Nat) (w : World) (h : checkF c ≠ 0) :
    Calls Try.prog 37 #[.agg c.a, .slice A n cap] w fun e w' => e = .returned (.tuple #[.agg #[.int .i64 0, .slice none 0 0, .int .i64 0, .int .i64 0, .slice none 0 0, .bool false, .int .i64 0, .int .i64 0, .bool false, .bool false, .int .i64 0, .slice none 0 0, .int .i64 0, .slice none 0 0], .int .i64 (checkF c)]) ∧ Below w.heap.size w w' := by
  have hne : (checkF c != 0) = true := by simpa using h
  have HCK := Lib.hid (fun W => pcheck_any c W)
  generalize checkF c = er at *
  clear h
  obtain ⟨mode, bits, win, reo, prx, pro, ppd, pby, mrx, qb⟩ := c
  unfold Cf.a at *
  have ROW := Lib.hid (Row.made w 49 #[.int .i64 mode, .int .i64 bits, .int .i64 win, .int .i64 reo, .int .i64 prx, .int .i64 pro, .int .i64 ppd, .int .i64 pby, .int .i64 mrx, .int .i64 qb])
  have ROWZ := Lib.hid (row_at2 (w.alloc (.cells #[.int .i64 mode, .int .i64 bits, .int .i64 win, .int .i64 reo, .int .i64 prx, .int .i64 pro, .int .i64 ppd, .int .i64 pby, .int .i64 mrx, .int .i64 qb] 49)) (w.heap.size + 1) 56 #[.int .i64 0, .slice none 0 0, .int .i64 0, .int .i64 0, .slice none 0 0, .bool false, .int .i64 0, .int .i64 0, .bool false, .bool false, .int .i64 0, .slice none 0 0, .int .i64 0, .slice none 0 0] (size_1 _ _))
  have HB0 := Lib.hid (bl_alloc (bl_alloc (Below.refl w.heap.size w) (.cells #[.int .i64 mode, .int .i64 bits, .int .i64 win, .int .i64 reo, .int .i64 prx, .int .i64 pro, .int .i64 ppd, .int .i64 pby, .int .i64 mrx, .int .i64 qb] 49)) (.cells #[.int .i64 0, .slice none 0 0, .int .i64 0, .int .i64 0, .slice none 0 0, .bool false, .int .i64 0, .int .i64 0, .bool false, .bool false, .int .i64 0, .slice none 0 0, .int .i64 0, .slice none 0 0] 56))
  go_enter Try.func37, Try.ntmps37
  go_wp2_with (go_at_call 38; (with_reducible refine (HCK.out _).mono ?_); rintro e w1 ⟨rfl, hb1⟩; (have HB1 := Lib.hid (bl_step HB0.out hb1); have ROWZ1 := Lib.hid (ROWZ.out.later hb1); clear hb1; obtain ⟨z0, z1, z2, z3, z4, z5, z6, z7, z8, z9, z10, z11, z12, z13⟩ := cells14 ROWZ1.out; obtain ⟨y0, y1, y2, y3, y4, y5, y6, y7, y8, y9, y10, y11, y12, y13⟩ := free14 ROWZ1.out))
  obtain ⟨dd, hdd⟩ := underun_parts
  refine bodyPost_ret (st_results_two rfl _ _ (w.heap.size + 1) 56 #[.int .i64 0, .slice none 0 0, .int .i64 0, .int .i64 0, .slice none 0 0, .bool false, .int .i64 0, .int .i64 0, .bool false, .bool false, .int .i64 0, .slice none 0 0, .int .i64 0, .slice none 0 0] dd rfl (row_set14 ROWZ1.out) hdd Try.infoun) rfl ?_
  exact ⟨rfl, below_set14 HB1.out (Nat.le_succ _) _ _ _ _ _ _ _ _ _ _ _ _ _ _⟩
set_option maxRecDepth 100000 in
set_option maxHeartbeats 1600000 in
theorem pwrite_no (w : World) : Calls Try.prog 153 #[.agg #[.int .i64 2, .int .i64 10, .int .i64 512, .int .i64 4, .int .i64 8, .int .i64 3, .int .i64 4, .int .i64 500, .int .i64 4, .int .i64 5000], .agg #[.int .i64 1, .slice none 0 0, .int .i64 0, .int .i64 0, .slice none 0 0, .bool false, .int .i64 0, .int .i64 0, .bool false, .bool false, .int .i64 0, .slice none 0 0, .int .i64 0, .slice none 0 0]] w fun e w' => e = .returned (.tuple #[.slice none 0 0, .int .i64 7]) ∧ Below w.heap.size w w' := by
  have HCK := Lib.hid (fun W => pcheck2 10 512 4 8 3 4 500 4 5000 W)
  rw [show checkF ⟨2, 10, 512, 4, 8, 3, 4, 500, 4, 5000⟩ = 0 from by decide +kernel] at HCK
  have HCA : ∀ W, Calls Try.prog 242 #[.int .i64 2, .int .i64 1] W fun e w' => e = .returned (.bool false) ∧ W = w' := by
    intro W
    go_enter Try.func242, Try.ntmps242
    go_wp2
    go_ret
    exact ⟨rfl, rfl⟩
  have HCAH := Lib.hid HCA
  clear HCA
  have ROW := Lib.hid ((Row.made w 49 #[.int .i64 2, .int .i64 10, .int .i64 512, .int .i64 4, .int .i64 8, .int .i64 3, .int .i64 4, .int .i64 500, .int .i64 4, .int .i64 5000]).more (.cells #[.int .i64 1, .slice none 0 0, .int .i64 0, .int .i64 0, .slice none 0 0, .bool false, .int .i64 0, .int .i64 0, .bool false, .bool false, .int .i64 0, .slice none 0 0, .int .i64 0, .slice none 0 0] 56))
  have ROWU := Lib.hid (row_at2 (w.alloc (.cells #[.int .i64 2, .int .i64 10, .int .i64 512, .int .i64 4, .int .i64 8, .int .i64 3, .int .i64 4, .int .i64 500, .int .i64 4, .int .i64 5000] 49)) (w.heap.size + 1) 56 #[.int .i64 1, .slice none 0 0, .int .i64 0, .int .i64 0, .slice none 0 0, .bool false, .int .i64 0, .int .i64 0, .bool false, .bool false, .int .i64 0, .slice none 0 0, .int .i64 0, .slice none 0 0] (size_1 _ _))
  have HB0 := Lib.hid (bl_alloc (bl_alloc (Below.refl w.heap.size w) (.cells #[.int .i64 2, .int .i64 10, .int .i64 512, .int .i64 4, .int .i64 8, .int .i64 3, .int .i64 4, .int .i64 500, .int .i64 4, .int .i64 5000] 49)) (.cells #[.int .i64 1, .slice none 0 0, .int .i64 0, .int .i64 0, .slice none 0 0, .bool false, .int .i64 0, .int .i64 0, .bool false, .bool false, .int .i64 0, .slice none 0 0, .int .i64 0, .slice none 0 0] 56))
  go_enter Try.func153, Try.ntmps153
  go_wp2_with (first
    | (go_at_call 38; (with_reducible refine (HCK.out _).mono ?_); rintro e w1 ⟨rfl, hb1⟩; (have HB1 := Lib.hid (bl_step HB0.out hb1); obtain ⟨c0, c1, -⟩ := cells10 (ROW.out.later hb1); obtain ⟨u0, u1, -⟩ := cells14 (ROWU.out.later hb1); clear hb1))
    | (go_at_call 242; (with_reducible refine (HCAH.out _).mono ?_); rintro e wx ⟨rfl, rfl⟩))
  go_ret2
  exact ⟨rfl, HB1.out⟩
theorem chk2 : checkF ⟨2, 10, 512, 4, 8, 3, 4, 500, 4, 5000⟩ = 0 := by decide +kernel
theorem prd1 {W : World} {g : Nat} (h : Row W g 5 #[.int .u8 0, .int .u8 20]) :
    Calls Try.prog 37 #[.agg #[.int .i64 2, .int .i64 10, .int .i64 512, .int .i64 4, .int .i64 8, .int .i64 3, .int .i64 4, .int .i64 500, .int .i64 4, .int .i64 5000], .slice (some ⟨g, 0, none⟩) 2 2] W fun e w' => ∃ (A' : Option Addr) (n' c' : Nat), e = .returned (.tuple #[.agg #[.int .i64 3, .slice none 0 0, .int .i64 0, .int .i64 0, .slice none 0 0, .bool false, .int .i64 0, .int .i64 0, .bool false, .bool false, .int .i64 0, .slice none 0 0, .int .i64 5, .slice A' n' c'], .int .i64 0]) ∧ Below W.heap.size W w' := by
  have hs : ∀ V, Below W.heap.size W V → Src V (some ⟨g, 0, none⟩) (bts [0, 20]) := fun V hb => row_src (xs := bts [0, 20]) (h.later hb)
  refine pread_st_ok 10 512 4 8 3 4 500 4 5000 5 2 2 W chk2 (fun V hb => ?_) (fun V hb => ?_)
  · have h1 := pkind_any (bs := [0, 20]) 2 2 2 V rfl (hs V hb) (by decide)
    rw [show kindF 2 [0, 20] = 3 from by decide +kernel] at h1
    exact h1
  · refine (sread_yes (bs := [0, 20]) (M := []) (a := 5) 10 2 2 V rfl (by omega) (by omega) (hs V hb) (by decide) (by kernel_rfl)).mono ?_
    rintro e w' ⟨A', c, rfl, _, _, _, hbb⟩
    exact ⟨A', _, c, rfl, hbb⟩
theorem prd2 {W : World} {g : Nat} (h : Row W g 5 #[.int .u8 128, .int .u8 5, .int .u8 65]) :
    Calls Try.prog 37 #[.agg #[.int .i64 2, .int .i64 10, .int .i64 512, .int .i64 4, .int .i64 8, .int .i64 3, .int .i64 4, .int .i64 500, .int .i64 4, .int .i64 5000], .slice (some ⟨g, 0, none⟩) 3 3] W fun e w' => ∃ (p' pt' ls' : Bool) (fi' of' : Int) (A' : Option Addr) (n' c' : Nat), e = .returned (.tuple #[.agg #[.int .i64 2, .slice none 0 0, .int .i64 0, .int .i64 0, .slice none 0 0, .bool p', .int .i64 fi', .int .i64 5, .bool pt', .bool ls', .int .i64 of', .slice A' n' c', .int .i64 0, .slice none 0 0], .int .i64 0]) ∧ Below W.heap.size W w' := by
  have hs : ∀ V, Below W.heap.size W V → Src V (some ⟨g, 0, none⟩) (bts [128, 5, 65]) := fun V hb => row_src (xs := bts [128, 5, 65]) (h.later hb)
  refine pread_am_ok 10 512 4 8 3 4 500 4 5000 5 3 3 W chk2 (fun V hb => ?_) (fun V hb => ?_)
  · have h1 := pkind_any (bs := [128, 5, 65]) 2 3 3 V rfl (hs V hb) (by decide)
    rw [show kindF 2 [128, 5, 65] = 2 from by decide +kernel] at h1
    exact h1
  · have hx : amdRd [128, 5, 65] 10 = (0, ⟨false, false, false, 0, 5, 0⟩, [[65]]) := by kernel_rfl
    refine (aread_yes (bs := [128, 5, 65]) 10 3 3 V (.inl rfl) rfl (by omega) (by omega) (by omega) (hs V hb) (by decide)).mono ?_
    rintro e w' ⟨h3 | h3, h4⟩
    · rw [hx] at h3
      obtain ⟨_, v, L, h5, rfl, ho⟩ := h3
      obtain ⟨Av, cv, rfl, _⟩ := ho.form
      exact ⟨_, _, _, _, _, Av, _, cv, rfl, h4⟩
    · rw [hx] at h3
      exact absurd rfl h3.1
end Go.Proofs.Ytfgjlhklioijmaa
namespace Go.Proofs.Ytfgjlhklioijmaa
open Go.RowKit

theorem us2 (w : World) : Calls Try.prog 39 #[.int .i64 2] w fun e w' => e = .returned (.agg #[.int .i64 2, .int .i64 10, .int .i64 512, .int .i64 4, .int .i64 8, .int .i64 3, .int .i64 4, .int .i64 500, .int .i64 4, .int .i64 5000]) ∧ Below w.heap.size w w' := pusual_any 2 w
theorem ck0 (w : World) : Calls Try.prog 38 #[.agg #[.int .i64 0, .int .i64 0, .int .i64 0, .int .i64 0, .int .i64 0, .int .i64 0, .int .i64 0, .int .i64 0, .int .i64 0, .int .i64 0]] w fun e w' => e = .returned (.int .i64 1) ∧ Below w.heap.size w w' := by
  have h := pcheck_any ⟨0, 0, 0, 0, 0, 0, 0, 0, 0, 0⟩ w
  rw [show checkF ⟨0, 0, 0, 0, 0, 0, 0, 0, 0, 0⟩ = 1 from by decide +kernel] at h
  exact h
theorem ck3 (w : World) : Calls Try.prog 38 #[.agg #[.int .i64 3, .int .i64 0, .int .i64 0, .int .i64 0, .int .i64 0, .int .i64 0, .int .i64 0, .int .i64 0, .int .i64 0, .int .i64 0]] w fun e w' => e = .returned (.int .i64 9) ∧ Below w.heap.size w w' := by
  have h := pcheck_any ⟨3, 0, 0, 0, 0, 0, 0, 0, 0, 0⟩ w
  rw [show checkF ⟨3, 0, 0, 0, 0, 0, 0, 0, 0, 0⟩ = 9 from by decide +kernel] at h
  exact h
set_option maxRecDepth 100000 in
set_option maxHeartbeats 6400000 in
theorem palive_any (w : World) : Calls Try.prog 36 #[] w fun e w' => e = .returned (.bool true) ∧ Below w.heap.size w w' := by
  go_enter Try.func36, Try.ntmps36
  go_wp2_with (first
    | (go_at_call 39; (with_reducible refine (us2 _).mono ?_); rintro e w1 ⟨rfl, hb1⟩; (have B1 := Lib.hid (bl_alloc hb1 (.cells #[.int .i64 2, .int .i64 10, .int .i64 512, .int .i64 4, .int .i64 8, .int .i64 3, .int .i64 4, .int .i64 500, .int .i64 4, .int .i64 5000] 49)); have RC1 := Lib.hid (Row.made w1 49 #[.int .i64 2, .int .i64 10, .int .i64 512, .int .i64 4, .int .i64 8, .int .i64 3, .int .i64 4, .int .i64 500, .int .i64 4, .int .i64 5000]); have RB1 := Lib.hid (row_at2 (w1.alloc (.cells #[.int .i64 2, .int .i64 10, .int .i64 512, .int .i64 4, .int .i64 8, .int .i64 3, .int .i64 4, .int .i64 500, .int .i64 4, .int .i64 5000] 49)) (w1.heap.size + 1) 5 #[.int .u8 0, .int .u8 20] (size_1 _ _)); clear hb1; obtain ⟨c0, c1, c2, c3, c4, c5, c6, c7, c8, c9⟩ := cells10 RC1.out))
    | (go_at_call 37; (with_reducible refine (prd1 RB1.out).mono ?_); rintro e w2 ⟨A1, n1, k1, rfl, hb2⟩; (have B2 := Lib.hid (bl_alloc (bl_step (bl_alloc B1.out _) hb2) (.cells #[.int .i64 3, .slice none 0 0, .int .i64 0, .int .i64 0, .slice none 0 0, .bool false, .int .i64 0, .int .i64 0, .bool false, .bool false, .int .i64 0, .slice none 0 0, .int .i64 5, .slice A1 n1 k1] 56)); have RC2 := Lib.hid (((RC1.out.more _).later hb2).more (.cells #[.int .i64 3, .slice none 0 0, .int .i64 0, .int .i64 0, .slice none 0 0, .bool false, .int .i64 0, .int .i64 0, .bool false, .bool false, .int .i64 0, .slice none 0 0, .int .i64 5, .slice A1 n1 k1] 56)); have RU2 := Lib.hid (Row.made w2 56 #[.int .i64 3, .slice none 0 0, .int .i64 0, .int .i64 0, .slice none 0 0, .bool false, .int .i64 0, .int .i64 0, .bool false, .bool false, .int .i64 0, .slice none 0 0, .int .i64 5, .slice A1 n1 k1]); have RB2 := Lib.hid (row_at2 (w2.alloc (.cells #[.int .i64 3, .slice none 0 0, .int .i64 0, .int .i64 0, .slice none 0 0, .bool false, .int .i64 0, .int .i64 0, .bool false, .bool false, .int .i64 0, .slice none 0 0, .int .i64 5, .slice A1 n1 k1] 56)) (w2.heap.size + 1) 5 #[.int .u8 128, .int .u8 5, .int .u8 65] (size_1 _ _)); clear hb2 c0 c1 c2 c3 c4 c5 c6 c7 c8 c9; obtain ⟨c0, c1, c2, c3, c4, c5, c6, c7, c8, c9⟩ := cells10 RC2.out))
    | (go_at_call 37; (with_reducible refine (prd2 RB2.out).mono ?_); rintro e w3 ⟨p2, pt2, ls2, fi2, of2, A2, n2, k2, rfl, hb3⟩; (have B3 := Lib.hid (bl_alloc (bl_step (bl_alloc B2.out _) hb3) (.cells #[.int .i64 2, .slice none 0 0, .int .i64 0, .int .i64 0, .slice none 0 0, .bool p2, .int .i64 fi2, .int .i64 5, .bool pt2, .bool ls2, .int .i64 of2, .slice A2 n2 k2, .int .i64 0, .slice none 0 0] 56)); have RC3 := Lib.hid (((RC2.out.more _).later hb3).more (.cells #[.int .i64 2, .slice none 0 0, .int .i64 0, .int .i64 0, .slice none 0 0, .bool p2, .int .i64 fi2, .int .i64 5, .bool pt2, .bool ls2, .int .i64 of2, .slice A2 n2 k2, .int .i64 0, .slice none 0 0] 56)); have RU3 := Lib.hid (((RU2.out.more _).later hb3).more (.cells #[.int .i64 2, .slice none 0 0, .int .i64 0, .int .i64 0, .slice none 0 0, .bool p2, .int .i64 fi2, .int .i64 5, .bool pt2, .bool ls2, .int .i64 of2, .slice A2 n2 k2, .int .i64 0, .slice none 0 0] 56)); have RV3 := Lib.hid (Row.made w3 56 #[.int .i64 2, .slice none 0 0, .int .i64 0, .int .i64 0, .slice none 0 0, .bool p2, .int .i64 fi2, .int .i64 5, .bool pt2, .bool ls2, .int .i64 of2, .slice A2 n2 k2, .int .i64 0, .slice none 0 0]); clear hb3 c0 c1 c2 c3 c4 c5 c6 c7 c8 c9; obtain ⟨c0, c1, c2, c3, c4, c5, c6, c7, c8, c9⟩ := cells10 RC3.out))
    | (go_at_call 153; (with_reducible refine (pwrite_no _).mono ?_); rintro e w4 ⟨rfl, hb4⟩; (have B4 := Lib.hid (bl_step B3.out hb4); have RU4 := Lib.hid (RU3.out.later hb4); have RV4 := Lib.hid (RV3.out.later hb4); clear hb4 c0 c1 c2 c3 c4 c5 c6 c7 c8 c9; have u0 := RU4.out.read (i := 0) (x := .int .i64 3) rfl; have u12 := RU4.out.read (i := 12) (x := .int .i64 5) rfl; have v0 := RV4.out.read (i := 0) (x := .int .i64 2) rfl; have v7 := RV4.out.read (i := 7) (x := .int .i64 5) rfl))
    | (go_at_call 38; (with_reducible refine (ck0 _).mono ?_); rintro e w5 ⟨rfl, hb5⟩; (have B5 := Lib.hid (bl_step B4.out hb5); clear hb5))
    | (go_at_call 38; (with_reducible refine (ck3 _).mono ?_); rintro e w6 ⟨rfl, hb6⟩; (have B6 := Lib.hid (bl_step B5.out hb6); clear hb6)))
  go_ret
  exact ⟨rfl, B6.out⟩
end Go.Proofs.Ytfgjlhklioijmaa
