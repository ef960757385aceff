/-
  pdu: the document's Check, of the mode that asks. pdu: Usual; what a config that may not be answers; what pdu answers to fixed calls. cut: which widths may be, how many bytes fields have, how many bytes the next field has.
-/
import Derived.Test.YtfgjlhklioijmaaJUmtxNumbers22
import Derived.Test.YtfgjlhklioijmaaJUmtxNumbers13
import Derived.Test.YtfgjlhklioijmaaJUmtxNumbers14
import Derived.Test.YtfgjlhklioijmaaJUmtxNumbers02
namespace Go.Proofs.Ytfgjlhklioijmaa
open Go.RowKit

set_option maxRecDepth 100000 in
set_option maxHeartbeats 12800000 in
theorem rcheck2 (bits win reo prx pro ppd pby mrx qb : Int) (w : World) :
    Calls Try.prog 40 #[.agg #[.int .i64 2, .int .i64 bits, .int .i64 win, .int .i64 reo, .int .i64 prx, .int .i64 pro, .int .i64 ppd, .int .i64 pby, .int .i64 mrx, .int .i64 qb]] w fun e w' => e = .returned (.int .i64 (checkF ⟨2, bits, win, reo, prx, pro, ppd, pby, mrx, qb⟩)) ∧ Below w.heap.size w w' := by
  have ROW := Lib.hid (Row.made w 49 #[.int .i64 2, .int .i64 bits, .int .i64 win, .int .i64 reo, .int .i64 prx, .int .i64 pro, .int .i64 ppd, .int .i64 pby, .int .i64 mrx, .int .i64 qb])
  have HB0 := Lib.hid (bl_alloc (Below.refl w.heap.size w) (.cells #[.int .i64 2, .int .i64 bits, .int .i64 win, .int .i64 reo, .int .i64 prx, .int .i64 pro, .int .i64 ppd, .int .i64 pby, .int .i64 mrx, .int .i64 qb] 49))
  have HSZ := Lib.hid (fun W => rsize_any bits W)
  have hsz := sz_bd bits
  have HF := Lib.hid (show checkF ⟨2, bits, win, reo, prx, pro, ppd, pby, mrx, qb⟩ = if inB qb 1 20000 && (in2 bits 10 16 && (inB win 1 (sz bits / 2) && (inB reo 1 1000 && (inB prx 1 1000 && (inB pro 0 1000 && (inB ppd 1 1000 && (inB pby 1 20000 && inB mrx 1 32))))))) then 0 else 1 by unfold checkF qbB numB askB limB; simp [limB, Bool.and_assoc])
  have HI0 := Lib.hid (fun W => rpis_any qb 1 20000 W)
  have HI1 := Lib.hid (fun W => rpis_any win 1 (sz bits / 2) W)
  have HI2 := Lib.hid (fun W => rpis_any reo 1 1000 W)
  have HI3 := Lib.hid (fun W => rpis_any prx 1 1000 W)
  have HI4 := Lib.hid (fun W => rpis_any pro 0 1000 W)
  have HI5 := Lib.hid (fun W => rpis_any ppd 1 1000 W)
  have HI6 := Lib.hid (fun W => rpis_any pby 1 20000 W)
  have HI7 := Lib.hid (fun W => rpis_any mrx 1 32 W)
  generalize sz bits = sb at *
  cases hq0 : inB qb 1 20000
  · rw [hq0] at HI0 HF
    clear hq0
    go_enter Try.func40, Try.ntmps40
    obtain ⟨c0, c1, c2, c3, c4, c5, c6, c7, c8, c9⟩ := cells10 ROW.out
    go_wp2_with (first
      | (go_at_call 161; (with_reducible refine (HI0.out _).mono ?_); rintro e wx ⟨rfl, rfl⟩)
      | (go_at_call 161; (with_reducible refine (HI1.out _).mono ?_); rintro e wx ⟨rfl, rfl⟩)
      | (go_at_call 161; (with_reducible refine (HI2.out _).mono ?_); rintro e wx ⟨rfl, rfl⟩)
      | (go_at_call 161; (with_reducible refine (HI3.out _).mono ?_); rintro e wx ⟨rfl, rfl⟩)
      | (go_at_call 161; (with_reducible refine (HI4.out _).mono ?_); rintro e wx ⟨rfl, rfl⟩)
      | (go_at_call 161; (with_reducible refine (HI5.out _).mono ?_); rintro e wx ⟨rfl, rfl⟩)
      | (go_at_call 161; (with_reducible refine (HI6.out _).mono ?_); rintro e wx ⟨rfl, rfl⟩)
      | (go_at_call 161; (with_reducible refine (HI7.out _).mono ?_); rintro e wx ⟨rfl, rfl⟩)
      | (go_at_call 132; (with_reducible refine (HSZ.out _).mono ?_); rintro e wx ⟨rfl, rfl⟩))
    all_goals
      go_ret
      refine ⟨?_, bl_alloc (Below.refl _ _) _⟩
      rw [HF.out]
      first | rfl | simp_all [z8, z5, in2]
  · rw [hq0] at HI0 HF
    clear hq0
    cases hq1 : inB win 1 (sb / 2)
    · rw [hq1] at HI1 HF
      clear hq1
      go_enter Try.func40, Try.ntmps40
      obtain ⟨c0, c1, c2, c3, c4, c5, c6, c7, c8, c9⟩ := cells10 ROW.out
      go_wp2_with (first
        | (go_at_call 161; (with_reducible refine (HI0.out _).mono ?_); rintro e wx ⟨rfl, rfl⟩)
        | (go_at_call 161; (with_reducible refine (HI1.out _).mono ?_); rintro e wx ⟨rfl, rfl⟩)
        | (go_at_call 161; (with_reducible refine (HI2.out _).mono ?_); rintro e wx ⟨rfl, rfl⟩)
        | (go_at_call 161; (with_reducible refine (HI3.out _).mono ?_); rintro e wx ⟨rfl, rfl⟩)
        | (go_at_call 161; (with_reducible refine (HI4.out _).mono ?_); rintro e wx ⟨rfl, rfl⟩)
        | (go_at_call 161; (with_reducible refine (HI5.out _).mono ?_); rintro e wx ⟨rfl, rfl⟩)
        | (go_at_call 161; (with_reducible refine (HI6.out _).mono ?_); rintro e wx ⟨rfl, rfl⟩)
        | (go_at_call 161; (with_reducible refine (HI7.out _).mono ?_); rintro e wx ⟨rfl, rfl⟩)
        | (go_at_call 132; (with_reducible refine (HSZ.out _).mono ?_); rintro e wx ⟨rfl, rfl⟩))
      all_goals
        go_ret
        refine ⟨?_, bl_alloc (Below.refl _ _) _⟩
        rw [HF.out]
        first | rfl | simp_all [z8, z5, in2]
    · rw [hq1] at HI1 HF
      clear hq1
      cases hq2 : inB reo 1 1000
      · rw [hq2] at HI2 HF
        clear hq2
        go_enter Try.func40, Try.ntmps40
        obtain ⟨c0, c1, c2, c3, c4, c5, c6, c7, c8, c9⟩ := cells10 ROW.out
        go_wp2_with (first
          | (go_at_call 161; (with_reducible refine (HI0.out _).mono ?_); rintro e wx ⟨rfl, rfl⟩)
          | (go_at_call 161; (with_reducible refine (HI1.out _).mono ?_); rintro e wx ⟨rfl, rfl⟩)
          | (go_at_call 161; (with_reducible refine (HI2.out _).mono ?_); rintro e wx ⟨rfl, rfl⟩)
          | (go_at_call 161; (with_reducible refine (HI3.out _).mono ?_); rintro e wx ⟨rfl, rfl⟩)
          | (go_at_call 161; (with_reducible refine (HI4.out _).mono ?_); rintro e wx ⟨rfl, rfl⟩)
          | (go_at_call 161; (with_reducible refine (HI5.out _).mono ?_); rintro e wx ⟨rfl, rfl⟩)
          | (go_at_call 161; (with_reducible refine (HI6.out _).mono ?_); rintro e wx ⟨rfl, rfl⟩)
          | (go_at_call 161; (with_reducible refine (HI7.out _).mono ?_); rintro e wx ⟨rfl, rfl⟩)
          | (go_at_call 132; (with_reducible refine (HSZ.out _).mono ?_); rintro e wx ⟨rfl, rfl⟩))
        all_goals
          go_ret
          refine ⟨?_, bl_alloc (Below.refl _ _) _⟩
          rw [HF.out]
          first | rfl | simp_all [z8, z5, in2]
      · rw [hq2] at HI2 HF
        clear hq2
        cases hq3 : inB prx 1 1000
        · rw [hq3] at HI3 HF
          clear hq3
          go_enter Try.func40, Try.ntmps40
          obtain ⟨c0, c1, c2, c3, c4, c5, c6, c7, c8, c9⟩ := cells10 ROW.out
          go_wp2_with (first
            | (go_at_call 161; (with_reducible refine (HI0.out _).mono ?_); rintro e wx ⟨rfl, rfl⟩)
            | (go_at_call 161; (with_reducible refine (HI1.out _).mono ?_); rintro e wx ⟨rfl, rfl⟩)
            | (go_at_call 161; (with_reducible refine (HI2.out _).mono ?_); rintro e wx ⟨rfl, rfl⟩)
            | (go_at_call 161; (with_reducible refine (HI3.out _).mono ?_); rintro e wx ⟨rfl, rfl⟩)
            | (go_at_call 161; (with_reducible refine (HI4.out _).mono ?_); rintro e wx ⟨rfl, rfl⟩)
            | (go_at_call 161; (with_reducible refine (HI5.out _).mono ?_); rintro e wx ⟨rfl, rfl⟩)
            | (go_at_call 161; (with_reducible refine (HI6.out _).mono ?_); rintro e wx ⟨rfl, rfl⟩)
            | (go_at_call 161; (with_reducible refine (HI7.out _).mono ?_); rintro e wx ⟨rfl, rfl⟩)
            | (go_at_call 132; (with_reducible refine (HSZ.out _).mono ?_); rintro e wx ⟨rfl, rfl⟩))
          all_goals
            go_ret
            refine ⟨?_, bl_alloc (Below.refl _ _) _⟩
            rw [HF.out]
            first | rfl | simp_all [z8, z5, in2]
        · rw [hq3] at HI3 HF
          clear hq3
          cases hq4 : inB pro 0 1000
          · rw [hq4] at HI4 HF
            clear hq4
            go_enter Try.func40, Try.ntmps40
            obtain ⟨c0, c1, c2, c3, c4, c5, c6, c7, c8, c9⟩ := cells10 ROW.out
            go_wp2_with (first
              | (go_at_call 161; (with_reducible refine (HI0.out _).mono ?_); rintro e wx ⟨rfl, rfl⟩)
              | (go_at_call 161; (with_reducible refine (HI1.out _).mono ?_); rintro e wx ⟨rfl, rfl⟩)
              | (go_at_call 161; (with_reducible refine (HI2.out _).mono ?_); rintro e wx ⟨rfl, rfl⟩)
              | (go_at_call 161; (with_reducible refine (HI3.out _).mono ?_); rintro e wx ⟨rfl, rfl⟩)
              | (go_at_call 161; (with_reducible refine (HI4.out _).mono ?_); rintro e wx ⟨rfl, rfl⟩)
              | (go_at_call 161; (with_reducible refine (HI5.out _).mono ?_); rintro e wx ⟨rfl, rfl⟩)
              | (go_at_call 161; (with_reducible refine (HI6.out _).mono ?_); rintro e wx ⟨rfl, rfl⟩)
              | (go_at_call 161; (with_reducible refine (HI7.out _).mono ?_); rintro e wx ⟨rfl, rfl⟩)
              | (go_at_call 132; (with_reducible refine (HSZ.out _).mono ?_); rintro e wx ⟨rfl, rfl⟩))
            all_goals
              go_ret
              refine ⟨?_, bl_alloc (Below.refl _ _) _⟩
              rw [HF.out]
              first | rfl | simp_all [z8, z5, in2]
          · rw [hq4] at HI4 HF
            clear hq4
            cases hq5 : inB ppd 1 1000
            · rw [hq5] at HI5 HF
              clear hq5
              go_enter Try.func40, Try.ntmps40
              obtain ⟨c0, c1, c2, c3, c4, c5, c6, c7, c8, c9⟩ := cells10 ROW.out
              go_wp2_with (first
                | (go_at_call 161; (with_reducible refine (HI0.out _).mono ?_); rintro e wx ⟨rfl, rfl⟩)
                | (go_at_call 161; (with_reducible refine (HI1.out _).mono ?_); rintro e wx ⟨rfl, rfl⟩)
                | (go_at_call 161; (with_reducible refine (HI2.out _).mono ?_); rintro e wx ⟨rfl, rfl⟩)
                | (go_at_call 161; (with_reducible refine (HI3.out _).mono ?_); rintro e wx ⟨rfl, rfl⟩)
                | (go_at_call 161; (with_reducible refine (HI4.out _).mono ?_); rintro e wx ⟨rfl, rfl⟩)
                | (go_at_call 161; (with_reducible refine (HI5.out _).mono ?_); rintro e wx ⟨rfl, rfl⟩)
                | (go_at_call 161; (with_reducible refine (HI6.out _).mono ?_); rintro e wx ⟨rfl, rfl⟩)
                | (go_at_call 161; (with_reducible refine (HI7.out _).mono ?_); rintro e wx ⟨rfl, rfl⟩)
                | (go_at_call 132; (with_reducible refine (HSZ.out _).mono ?_); rintro e wx ⟨rfl, rfl⟩))
              all_goals
                go_ret
                refine ⟨?_, bl_alloc (Below.refl _ _) _⟩
                rw [HF.out]
                first | rfl | simp_all [z8, z5, in2]
            · rw [hq5] at HI5 HF
              clear hq5
              cases hq6 : inB pby 1 20000
              · rw [hq6] at HI6 HF
                clear hq6
                go_enter Try.func40, Try.ntmps40
                obtain ⟨c0, c1, c2, c3, c4, c5, c6, c7, c8, c9⟩ := cells10 ROW.out
                go_wp2_with (first
                  | (go_at_call 161; (with_reducible refine (HI0.out _).mono ?_); rintro e wx ⟨rfl, rfl⟩)
                  | (go_at_call 161; (with_reducible refine (HI1.out _).mono ?_); rintro e wx ⟨rfl, rfl⟩)
                  | (go_at_call 161; (with_reducible refine (HI2.out _).mono ?_); rintro e wx ⟨rfl, rfl⟩)
                  | (go_at_call 161; (with_reducible refine (HI3.out _).mono ?_); rintro e wx ⟨rfl, rfl⟩)
                  | (go_at_call 161; (with_reducible refine (HI4.out _).mono ?_); rintro e wx ⟨rfl, rfl⟩)
                  | (go_at_call 161; (with_reducible refine (HI5.out _).mono ?_); rintro e wx ⟨rfl, rfl⟩)
                  | (go_at_call 161; (with_reducible refine (HI6.out _).mono ?_); rintro e wx ⟨rfl, rfl⟩)
                  | (go_at_call 161; (with_reducible refine (HI7.out _).mono ?_); rintro e wx ⟨rfl, rfl⟩)
                  | (go_at_call 132; (with_reducible refine (HSZ.out _).mono ?_); rintro e wx ⟨rfl, rfl⟩))
                all_goals
                  go_ret
                  refine ⟨?_, bl_alloc (Below.refl _ _) _⟩
                  rw [HF.out]
                  first | rfl | simp_all [z8, z5, in2]
              · rw [hq6] at HI6 HF
                clear hq6
                cases hq7 : inB mrx 1 32
                · rw [hq7] at HI7 HF
                  clear hq7
                  go_enter Try.func40, Try.ntmps40
                  obtain ⟨c0, c1, c2, c3, c4, c5, c6, c7, c8, c9⟩ := cells10 ROW.out
                  go_wp2_with (first
                    | (go_at_call 161; (with_reducible refine (HI0.out _).mono ?_); rintro e wx ⟨rfl, rfl⟩)
                    | (go_at_call 161; (with_reducible refine (HI1.out _).mono ?_); rintro e wx ⟨rfl, rfl⟩)
                    | (go_at_call 161; (with_reducible refine (HI2.out _).mono ?_); rintro e wx ⟨rfl, rfl⟩)
                    | (go_at_call 161; (with_reducible refine (HI3.out _).mono ?_); rintro e wx ⟨rfl, rfl⟩)
                    | (go_at_call 161; (with_reducible refine (HI4.out _).mono ?_); rintro e wx ⟨rfl, rfl⟩)
                    | (go_at_call 161; (with_reducible refine (HI5.out _).mono ?_); rintro e wx ⟨rfl, rfl⟩)
                    | (go_at_call 161; (with_reducible refine (HI6.out _).mono ?_); rintro e wx ⟨rfl, rfl⟩)
                    | (go_at_call 161; (with_reducible refine (HI7.out _).mono ?_); rintro e wx ⟨rfl, rfl⟩)
                    | (go_at_call 132; (with_reducible refine (HSZ.out _).mono ?_); rintro e wx ⟨rfl, rfl⟩))
                  all_goals
                    go_ret
                    refine ⟨?_, bl_alloc (Below.refl _ _) _⟩
                    rw [HF.out]
                    first | rfl | simp_all [z8, z5, in2]
                · rw [hq7] at HI7 HF
                  clear hq7
                  go_enter Try.func40, Try.ntmps40
                  obtain ⟨c0, c1, c2, c3, c4, c5, c6, c7, c8, c9⟩ := cells10 ROW.out
                  go_wp2_with (first
                    | (go_at_call 161; (with_reducible refine (HI0.out _).mono ?_); rintro e wx ⟨rfl, rfl⟩)
                    | (go_at_call 161; (with_reducible refine (HI1.out _).mono ?_); rintro e wx ⟨rfl, rfl⟩)
                    | (go_at_call 161; (with_reducible refine (HI2.out _).mono ?_); rintro e wx ⟨rfl, rfl⟩)
                    | (go_at_call 161; (with_reducible refine (HI3.out _).mono ?_); rintro e wx ⟨rfl, rfl⟩)
                    | (go_at_call 161; (with_reducible refine (HI4.out _).mono ?_); rintro e wx ⟨rfl, rfl⟩)
                    | (go_at_call 161; (with_reducible refine (HI5.out _).mono ?_); rintro e wx ⟨rfl, rfl⟩)
                    | (go_at_call 161; (with_reducible refine (HI6.out _).mono ?_); rintro e wx ⟨rfl, rfl⟩)
                    | (go_at_call 161; (with_reducible refine (HI7.out _).mono ?_); rintro e wx ⟨rfl, rfl⟩)
                    | (go_at_call 132; (with_reducible refine (HSZ.out _).mono ?_); rintro e wx ⟨rfl, rfl⟩))
                  all_goals
                    go_ret
                    refine ⟨?_, bl_alloc (Below.refl _ _) _⟩
                    rw [HF.out]
                    first | rfl | simp_all [z8, z5, in2]
end Go.Proofs.Ytfgjlhklioijmaa
namespace Go.Proofs.Ytfgjlhklioijmaa
open Go.RowKit

def usF (mode : Int) : Cf := if mode = 0 then ⟨0, 0, 0, 0, 0, 0, 0, 0, 0, 5000⟩ else if mode = 1 then ⟨1, 5, 16, 4, 0, 0, 0, 0, 0, 5000⟩ else if mode = 2 then ⟨2, 10, 512, 4, 8, 3, 4, 500, 4, 5000⟩ else ⟨0, 0, 0, 0, 0, 0, 0, 0, 0, 0⟩
set_option maxRecDepth 100000 in
set_option maxHeartbeats 1600000 in
theorem pusual_any (mode : Int) (w : World) : Calls Try.prog 39 #[.int .i64 mode] w fun e w' => e = .returned (.agg (usF mode).a) ∧ Below w.heap.size w w' := by
  obtain ⟨dd, hdd⟩ := undercf_parts
  by_cases h0 : mode = 0
  · have g0 : (mode == 0) = true := by simpa using h0
    have HU := Lib.hid (show (usF mode).a = #[.int .i64 0, .int .i64 0, .int .i64 0, .int .i64 0, .int .i64 0, .int .i64 0, .int .i64 0, .int .i64 0, .int .i64 0, .int .i64 5000] by unfold usF; rw [if_pos h0]; rfl)
    rw [HU.out]
    clear h0
    go_enter Try.func39, Try.ntmps39
    go_wp2
    refine bodyPost_ret (results_cell_row rfl _ _ w.heap.size 49 #[.int .i64 0, .int .i64 0, .int .i64 0, .int .i64 0, .int .i64 0, .int .i64 0, .int .i64 0, .int .i64 0, .int .i64 0, .int .i64 5000] (0, 0) (.struct dd) rfl (Row.made _ _ _) hdd rfl Try.infocf) rfl ?_
    exact ⟨rfl, bl_alloc (Below.refl _ _) _⟩
  · have g0 : (mode == 0) = false := by simpa using h0
    by_cases h1 : mode = 1
    · have g1 : (mode == 1) = true := by simpa using h1
      have HU := Lib.hid (show (usF mode).a = #[.int .i64 1, .int .i64 5, .int .i64 16, .int .i64 4, .int .i64 0, .int .i64 0, .int .i64 0, .int .i64 0, .int .i64 0, .int .i64 5000] by unfold usF; rw [if_neg h0, if_pos h1]; rfl)
      rw [HU.out]
      clear h0 h1
      go_enter Try.func39, Try.ntmps39
      go_wp2
      refine bodyPost_ret (results_cell_row rfl _ _ w.heap.size 49 #[.int .i64 1, .int .i64 5, .int .i64 16, .int .i64 4, .int .i64 0, .int .i64 0, .int .i64 0, .int .i64 0, .int .i64 0, .int .i64 5000] (0, 0) (.struct dd) rfl (Row.made _ _ _) hdd rfl Try.infocf) rfl ?_
      exact ⟨rfl, bl_alloc (Below.refl _ _) _⟩
    · have g1 : (mode == 1) = false := by simpa using h1
      by_cases h2 : mode = 2
      · have g2 : (mode == 2) = true := by simpa using h2
        have HU := Lib.hid (show (usF mode).a = #[.int .i64 2, .int .i64 10, .int .i64 512, .int .i64 4, .int .i64 8, .int .i64 3, .int .i64 4, .int .i64 500, .int .i64 4, .int .i64 5000] by unfold usF; rw [if_neg h0, if_neg h1, if_pos h2]; rfl)
        rw [HU.out]
        clear h0 h1 h2
        go_enter Try.func39, Try.ntmps39
        go_wp2
        refine bodyPost_ret (results_cell_row rfl _ _ w.heap.size 49 #[.int .i64 2, .int .i64 10, .int .i64 512, .int .i64 4, .int .i64 8, .int .i64 3, .int .i64 4, .int .i64 500, .int .i64 4, .int .i64 5000] (0, 0) (.struct dd) rfl (Row.made _ _ _) hdd rfl Try.infocf) rfl ?_
        exact ⟨rfl, bl_alloc (Below.refl _ _) _⟩
      · have g2 : (mode == 2) = false := by simpa using h2
        have HU := Lib.hid (show (usF mode).a = #[.int .i64 0, .int .i64 0, .int .i64 0, .int .i64 0, .int .i64 0, .int .i64 0, .int .i64 0, .int .i64 0, .int .i64 0, .int .i64 0] by unfold usF; rw [if_neg h0, if_neg h1, if_neg h2]; rfl)
        rw [HU.out]
        clear h0 h1 h2
        go_enter Try.func39, Try.ntmps39
        go_wp2
        refine bodyPost_ret (results_cell_row rfl _ _ w.heap.size 49 #[.int .i64 0, .int .i64 0, .int .i64 0, .int .i64 0, .int .i64 0, .int .i64 0, .int .i64 0, .int .i64 0, .int .i64 0, .int .i64 0] (0, 0) (.struct dd) rfl (Row.made _ _ _) hdd rfl Try.infocf) rfl ?_
        exact ⟨rfl, bl_alloc (Below.refl _ _) _⟩
set_option maxRecDepth 100000 in
set_option maxHeartbeats 3200000 in
theorem pread_chk {A : Option Addr} (c : Cf) (n cap : Nat) (w : World) (h : checkF c ≠ 0) :
    Calls Try.prog 37 #[.agg c.a, .slice A n cap] w fun e w' => e = .returned (.tuple #[.agg #[.int .i64 0, .slice none 0 0, .int .i64 0, .int .i64 0, .slice none 0 0, .bool false, .int .i64 0, .int .i64 0, .bool false, .bool false, .int .i64 0, .slice none 0 0, .int .i64 0, .slice none 0 0], .int .i64 (checkF c)]) ∧ Below w.heap.size w w' := by
  have hne : (checkF c != 0) = true := by simpa using h
  have HCK := Lib.hid (fun W => pcheck_any c W)
  generalize checkF c = er at *
  clear h
  obtain ⟨mode, bits, win, reo, prx, pro, ppd, pby, mrx, qb⟩ := c
  unfold Cf.a at *
  have ROW := Lib.hid (Row.made w 49 #[.int .i64 mode, .int .i64 bits, .int .i64 win, .int .i64 reo, .int .i64 prx, .int .i64 pro, .int .i64 ppd, .int .i64 pby, .int .i64 mrx, .int .i64 qb])
  have ROWZ := Lib.hid (row_at2 (w.alloc (.cells #[.int .i64 mode, .int .i64 bits, .int .i64 win, .int .i64 reo, .int .i64 prx, .int .i64 pro, .int .i64 ppd, .int .i64 pby, .int .i64 mrx, .int .i64 qb] 49)) (w.heap.size + 1) 56 #[.int .i64 0, .slice none 0 0, .int .i64 0, .int .i64 0, .slice none 0 0, .bool false, .int .i64 0, .int .i64 0, .bool false, .bool false, .int .i64 0, .slice none 0 0, .int .i64 0, .slice none 0 0] (size_1 _ _))
  have HB0 := Lib.hid (bl_alloc (bl_alloc (Below.refl w.heap.size w) (.cells #[.int .i64 mode, .int .i64 bits, .int .i64 win, .int .i64 reo, .int .i64 prx, .int .i64 pro, .int .i64 ppd, .int .i64 pby, .int .i64 mrx, .int .i64 qb] 49)) (.cells #[.int .i64 0, .slice none 0 0, .int .i64 0, .int .i64 0, .slice none 0 0, .bool false, .int .i64 0, .int .i64 0, .bool false, .bool false, .int .i64 0, .slice none 0 0, .int .i64 0, .slice none 0 0] 56))
  go_enter Try.func37, Try.ntmps37
  go_wp2_with (go_at_call 38; (with_reducible refine (HCK.out _).mono ?_); rintro e w1 ⟨rfl, hb1⟩; (have HB1 := Lib.hid (bl_step HB0.out hb1); have ROWZ1 := Lib.hid (ROWZ.out.later hb1); clear hb1; obtain ⟨z0, z1, z2, z3, z4, z5, z6, z7, z8, z9, z10, z11, z12, z13⟩ := cells14 ROWZ1.out; obtain ⟨y0, y1, y2, y3, y4, y5, y6, y7, y8, y9, y10, y11, y12, y13⟩ := free14 ROWZ1.out))
  obtain ⟨dd, hdd⟩ := underun_parts
  refine bodyPost_ret (st_results_two rfl _ _ (w.heap.size + 1) 56 #[.int .i64 0, .slice none 0 0, .int .i64 0, .int .i64 0, .slice none 0 0, .bool false, .int .i64 0, .int .i64 0, .bool false, .bool false, .int .i64 0, .slice none 0 0, .int .i64 0, .slice none 0 0] dd rfl (row_set14 ROWZ1.out) hdd Try.infoun) rfl ?_
  exact ⟨rfl, below_set14 HB1.out (Nat.le_succ _) _ _ _ _ _ _ _ _ _ _ _ _ _ _⟩
set_option maxRecDepth 100000 in
set_option maxHeartbeats 1600000 in
theorem pwrite_no (w : World) : Calls Try.prog 153 #[.agg #[.int .i64 2, .int .i64 10, .int .i64 512, .int .i64 4, .int .i64 8, .int .i64 3, .int .i64 4, .int .i64 500, .int .i64 4, .int .i64 5000], .agg #[.int .i64 1, .slice none 0 0, .int .i64 0, .int .i64 0, .slice none 0 0, .bool false, .int .i64 0, .int .i64 0, .bool false, .bool false, .int .i64 0, .slice none 0 0, .int .i64 0, .slice none 0 0]] w fun e w' => e = .returned (.tuple #[.slice none 0 0, .int .i64 7]) ∧ Below w.heap.size w w' := by
  have HCK := Lib.hid (fun W => pcheck2 10 512 4 8 3 4 500 4 5000 W)
  rw [show checkF ⟨2, 10, 512, 4, 8, 3, 4, 500, 4, 5000⟩ = 0 from by decide +kernel] at HCK
  have HCA : ∀ W, Calls Try.prog 242 #[.int .i64 2, .int .i64 1] W fun e w' => e = .returned (.bool false) ∧ W = w' := by
    intro W
    go_enter Try.func242, Try.ntmps242
    go_wp2
    go_ret
    exact ⟨rfl, rfl⟩
  have HCAH := Lib.hid HCA
  clear HCA
  have ROW := Lib.hid ((Row.made w 49 #[.int .i64 2, .int .i64 10, .int .i64 512, .int .i64 4, .int .i64 8, .int .i64 3, .int .i64 4, .int .i64 500, .int .i64 4, .int .i64 5000]).more (.cells #[.int .i64 1, .slice none 0 0, .int .i64 0, .int .i64 0, .slice none 0 0, .bool false, .int .i64 0, .int .i64 0, .bool false, .bool false, .int .i64 0, .slice none 0 0, .int .i64 0, .slice none 0 0] 56))
  have ROWU := Lib.hid (row_at2 (w.alloc (.cells #[.int .i64 2, .int .i64 10, .int .i64 512, .int .i64 4, .int .i64 8, .int .i64 3, .int .i64 4, .int .i64 500, .int .i64 4, .int .i64 5000] 49)) (w.heap.size + 1) 56 #[.int .i64 1, .slice none 0 0, .int .i64 0, .int .i64 0, .slice none 0 0, .bool false, .int .i64 0, .int .i64 0, .bool false, .bool false, .int .i64 0, .slice none 0 0, .int .i64 0, .slice none 0 0] (size_1 _ _))
  have HB0 := Lib.hid (bl_alloc (bl_alloc (Below.refl w.heap.size w) (.cells #[.int .i64 2, .int .i64 10, .int .i64 512, .int .i64 4, .int .i64 8, .int .i64 3, .int .i64 4, .int .i64 500, .int .i64 4, .int .i64 5000] 49)) (.cells #[.int .i64 1, .slice none 0 0, .int .i64 0, .int .i64 0, .slice none 0 0, .bool false, .int .i64 0, .int .i64 0, .bool false, .bool false, .int .i64 0, .slice none 0 0, .int .i64 0, .slice none 0 0] 56))
  go_enter Try.func153, Try.ntmps153
  go_wp2_with (first
    | (go_at_call 38; (with_reducible refine (HCK.out _).mono ?_); rintro e w1 ⟨rfl, hb1⟩; (have HB1 := Lib.hid (bl_step HB0.out hb1); obtain ⟨c0, c1, -⟩ := cells10 (ROW.out.later hb1); obtain ⟨u0, u1, -⟩ := cells14 (ROWU.out.later hb1); clear hb1))
    | (go_at_call 242; (with_reducible refine (HCAH.out _).mono ?_); rintro e wx ⟨rfl, rfl⟩))
  go_ret2
  exact ⟨rfl, HB1.out⟩
theorem chk2 : checkF ⟨2, 10, 512, 4, 8, 3, 4, 500, 4, 5000⟩ = 0 := by decide +kernel
theorem prd1 {W : World} {g : Nat} (h : Row W g 5 #[.int .u8 0, .int .u8 20]) :
    Calls Try.prog 37 #[.agg #[.int .i64 2, .int .i64 10, .int .i64 512, .int .i64 4, .int .i64 8, .int .i64 3, .int .i64 4, .int .i64 500, .int .i64 4, .int .i64 5000], .slice (some ⟨g, 0, none⟩) 2 2] W fun e w' => ∃ (A' : Option Addr) (n' c' : Nat), e = .returned (.tuple #[.agg #[.int .i64 3, .slice none 0 0, .int .i64 0, .int .i64 0, .slice none 0 0, .bool false, .int .i64 0, .int .i64 0, .bool false, .bool false, .int .i64 0, .slice none 0 0, .int .i64 5, .slice A' n' c'], .int .i64 0]) ∧ Below W.heap.size W w' := by
  have hs : ∀ V, Below W.heap.size W V → Src V (some ⟨g, 0, none⟩) (bts [0, 20]) := fun V hb => row_src (xs := bts [0, 20]) (h.later hb)
  refine pread_st_ok 10 512 4 8 3 4 500 4 5000 5 2 2 W chk2 (fun V hb => ?_) (fun V hb => ?_)
  · have h1 := pkind_any (bs := [0, 20]) 2 2 2 V rfl (hs V hb) (by decide)
    rw [show kindF 2 [0, 20] = 3 from by decide +kernel] at h1
    exact h1
  · refine (sread_yes (bs := [0, 20]) (M := []) (a := 5) 10 2 2 V rfl (by omega) (by omega) (hs V hb) (by decide) (by kernel_rfl)).mono ?_
    rintro e w' ⟨A', c, rfl, _, _, _, hbb⟩
    exact ⟨A', _, c, rfl, hbb⟩
theorem prd2 {W : World} {g : Nat} (h : Row W g 5 #[.int .u8 128, .int .u8 5, .int .u8 65]) :
    Calls Try.prog 37 #[.agg #[.int .i64 2, .int .i64 10, .int .i64 512, .int .i64 4, .int .i64 8, .int .i64 3, .int .i64 4, .int .i64 500, .int .i64 4, .int .i64 5000], .slice (some ⟨g, 0, none⟩) 3 3] W fun e w' => ∃ (p' pt' ls' : Bool) (fi' of' : Int) (A' : Option Addr) (n' c' : Nat), e = .returned (.tuple #[.agg #[.int .i64 2, .slice none 0 0, .int .i64 0, .int .i64 0, .slice none 0 0, .bool p', .int .i64 fi', .int .i64 5, .bool pt', .bool ls', .int .i64 of', .slice A' n' c', .int .i64 0, .slice none 0 0], .int .i64 0]) ∧ Below W.heap.size W w' := by
  have hs : ∀ V, Below W.heap.size W V → Src V (some ⟨g, 0, none⟩) (bts [128, 5, 65]) := fun V hb => row_src (xs := bts [128, 5, 65]) (h.later hb)
  refine pread_am_ok 10 512 4 8 3 4 500 4 5000 5 3 3 W chk2 (fun V hb => ?_) (fun V hb => ?_)
  · have h1 := pkind_any (bs := [128, 5, 65]) 2 3 3 V rfl (hs V hb) (by decide)
    rw [show kindF 2 [128, 5, 65] = 2 from by decide +kernel] at h1
    exact h1
  · have hx : amdRd [128, 5, 65] 10 = (0, ⟨false, false, false, 0, 5, 0⟩, [[65]]) := by kernel_rfl
    refine (aread_yes (bs := [128, 5, 65]) 10 3 3 V (.inl rfl) rfl (by omega) (by omega) (by omega) (hs V hb) (by decide)).mono ?_
    rintro e w' ⟨h3 | h3, h4⟩
    · rw [hx] at h3
      obtain ⟨_, v, L, h5, rfl, ho⟩ := h3
      obtain ⟨Av, cv, rfl, _⟩ := ho.form
      exact ⟨_, _, _, _, _, Av, _, cv, rfl, h4⟩
    · rw [hx] at h3
      exact absurd rfl h3.1
end Go.Proofs.Ytfgjlhklioijmaa
namespace Go.Proofs.Ytfgjlhklioijmaa
open Go.RowKit

theorem cutmay_any (x : Int) (w : World) : Calls Try.prog 185 #[.int .i64 x] w fun e w' => e = .returned (.bool (decide (0 < sizeF 1 x))) ∧ w = w' := by
  have HZ := Lib.hid (fun W => size_any 1 x W)
  go_enter Try.func185, Try.ntmps185
  go_wp2_with (go_at_call 187; (with_reducible refine (HZ.out _).mono ?_); rintro e w1 ⟨rfl, rfl⟩)
  go_ret
  exact ⟨rfl, rfl⟩
theorem lens_take_succ {L : List RowB} {k : Nat} {r : RowB} (h : L[k]? = some r) : (lens (L.take (k + 1))).sum = (lens (L.take k)).sum + r.bs.length := by
  obtain ⟨h1, h2⟩ := List.getElem?_eq_some_iff.1 h
  rw [List.take_add_one, h]
  simp [lens]
theorem lens_take_le (L : List RowB) (k : Nat) : (lens (L.take k)).sum ≤ (lens L).sum := by
  have h := List.take_append_drop k L
  have e : (lens L).sum = (lens (L.take k)).sum + (lens (L.drop k)).sum := by
    rw [← List.sum_append]
    unfold lens
    rw [← List.map_append, h]
  omega
set_option maxRecDepth 100000 in
set_option maxHeartbeats 1600000 in
theorem cutsum_any {A : Option Addr} {L : List RowB} (n cap : Nat) (w : World) (hL : L.length = n) (hn : n ≤ 1000) (hs : RSrc w A L) (hsum : (lens L).sum ≤ 1000000) :
    Calls Try.prog 186 #[.slice A n cap] w fun e w' => e = .returned (.int .i64 ((lens L).sum : Nat)) ∧ w = w' := by
  have HS := Lib.hid hs
  have HL := Lib.hid hL
  have HM := Lib.hid (fun k => Nat.le_trans (lens_take_le L k) hsum)
  have HT := Lib.hid (fun (k : Nat) (r : RowB) (h : L[k]? = some r) => lens_take_succ h)
  have HA := Lib.hid (show (lens (L.take n)).sum = (lens L).sum by rw [← hL, List.take_length])
  clear hs hL hsum
  go_enter Try.func186, Try.ntmps186
  go_wp2
  go_loopw [3, 8] (fun s i wr => ∃ k : Nat, k ≤ n ∧ s = .int .i64 ((lens (L.take k)).sum : Nat) ∧ i = .int .i64 k ∧ w = wr) (fun _ i _ => n - (intOf i).toNat)
  case atStart => exact ⟨0, by omega, by simp [lens], rfl, rfl⟩
  case round =>
    obtain ⟨k, hk, rfl, rfl, rfl⟩ := hrel
    by_cases hlt : k < n
    · obtain ⟨ad, rfl, hc⟩ := HS.out (by rw [HL.out]; omega)
      obtain ⟨r, hr⟩ : ∃ r, L[k]? = some r := ⟨_, List.getElem?_eq_getElem (by rw [HL.out]; exact hlt)⟩
      have f0 := (hc k r hr).1
      have HT1 := Lib.hid (HT.out k r hr)
      have b1 := HM.out (k + 1)
      have b0 := HM.out k
      rw [HT1.out] at b1
      have hkI : (k : Int) < (n : Int) := by omega
      unfold RowB.v at f0
      generalize (lens (L.take k)).sum = s at *
      generalize hbl : r.bs.length = bl at *
      clear hc hr
      go_wp2
      go_roundw
      case rel => exact ⟨k + 1, by omega, by rw [HT1.out]; go_num, by go_num, by first | rfl | trivial⟩
      case measure => simp [intOf]; omega
    · have hkn : k = n := by omega
      subst hkn
      have b0 := HM.out k
      rw [HA.out] at *
      go_wp2
      go_ret
      exact ⟨rfl, rfl⟩
/-- how many bytes of what waits the field behind others has -/
def nextF (wl : Nat) (ls : List Nat) (room x : Int) : Int := if 24 ≤ ls.length then 0 else min (wl : Int) (room - (ls.sum : Int) - sizeF ls.length x)
set_option maxRecDepth 100000 in
set_option maxHeartbeats 1600000 in
theorem cutnext_any {A W : Option Addr} {L : List RowB} (wl wc n cap : Nat) (room x : Int) (w : World) (hL : L.length = n) (hn : n ≤ 1000) (hr0 : 0 ≤ room) (hr1 : room ≤ 4000) (hs : RSrc w A L) (hsum : (lens L).sum ≤ 1000000) :
    Calls Try.prog 181 #[.slice W wl wc, .slice A n cap, .int .i64 room, .int .i64 x] w fun e w' => e = .returned (.int .i64 (nextF wl (lens L) room x)) ∧ w = w' := by
  have HSU := Lib.hid (cutsum_any n cap w hL hn hs hsum)
  have HSZ := Lib.hid (fun W => size_any n x W)
  have hz : 0 ≤ sizeF n x ∧ sizeF n x ≤ 46 := sizeF_nonneg n x
  have HLL := Lib.hid (show (lens L).length = n by rw [length_lens, hL])
  by_cases h24 : 24 ≤ n
  · have HF := Lib.hid (show nextF wl (lens L) room x = 0 by unfold nextF; rw [if_pos (by rw [HLL.out]; exact h24)])
    clear hs hsum hL
    go_enter Try.func181, Try.ntmps181
    go_wp2
    go_ret
    exact ⟨by rw [HF.out]; rfl, rfl⟩
  · have HF := Lib.hid (show nextF wl (lens L) room x = min (wl : Int) (room - ((lens L).sum : Int) - sizeF n x) by unfold nextF; rw [if_neg (by rw [HLL.out]; exact h24), HLL.out])
    generalize sizeF n x = z at *
    generalize (lens L).sum = sm at *
    clear hs hL
    go_enter Try.func181, Try.ntmps181
    go_wp2_with (first
      | (go_at_call 186; (with_reducible refine HSU.out.mono ?_); rintro e w1 ⟨rfl, rfl⟩)
      | (go_at_call 187; (with_reducible refine (HSZ.out _).mono ?_); rintro e w1 ⟨rfl, rfl⟩))
    go_ret
    exact ⟨by rw [HF.out]; rfl, rfl⟩
end Go.Proofs.Ytfgjlhklioijmaa
