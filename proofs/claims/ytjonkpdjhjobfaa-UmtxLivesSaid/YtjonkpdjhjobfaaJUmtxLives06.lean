/-
  pdu: which configs may be: the rest. pdu: Check. pdu: Check of the other modes. pdu: Check of the mode that asks. pdu: bytes are read: what they are. An append whose run is known, at a drawn region. What a mode of Usual is. How many bytes fields have; whether two are equal.
-/
import Derived.Test.YtjonkpdjhjobfaaJUmtxLives05
import Derived.Laws.ResultCell
import Derived.Test.YtjonkpdjhjobfaaJUmtxLives01
import Derived.Deep.RegionLaw
import Derived.Laws.Strings
namespace Go.Proofs.Ytjonkpdjhjobfaa
open Go.RowKit

def askB (c : Cf) : Bool := [(c.prx, 1, 1000), (c.pro, 0, 1000), (c.ppd, 1, 1000), (c.pby, 1, 20000), (c.mrx, 1, 32)].all limB
set_option maxRecDepth 100000 in
set_option maxHeartbeats 1600000 in
theorem pasking_any (c : Cf) (w : World) : Calls Try.prog 145 #[.agg c.a] w fun e w' => e = .returned (.bool (askB c)) ∧ Below w.heap.size w w' := by
  obtain ⟨mode, bits, win, reo, prx, pro, ppd, pby, mrx, qb⟩ := c
  unfold Cf.a
  have ROW := Lib.hid (Row.made w 23 #[.int .i64 mode, .int .i64 bits, .int .i64 win, .int .i64 reo, .int .i64 prx, .int .i64 pro, .int .i64 ppd, .int .i64 pby, .int .i64 mrx, .int .i64 qb])
  have HB0 := Lib.hid (bl_alloc (Below.refl w.heap.size w) (.cells #[.int .i64 mode, .int .i64 bits, .int .i64 win, .int .i64 reo, .int .i64 prx, .int .i64 pro, .int .i64 ppd, .int .i64 pby, .int .i64 mrx, .int .i64 qb] 23))
  have HW := Lib.hid (fun W g' (h : Row W g' 208 #[.int .i64 prx, .int .i64 1, .int .i64 1000, .int .i64 pro, .int .i64 0, .int .i64 1000, .int .i64 ppd, .int .i64 1, .int .i64 1000, .int .i64 pby, .int .i64 1, .int .i64 20000, .int .i64 mrx, .int .i64 1, .int .i64 32]) => pwithin_any (l := [(prx, 1, 1000), (pro, 0, 1000), (ppd, 1, 1000), (pby, 1, 20000), (mrx, 1, 32)]) 5 5 W rfl (by omega) h rfl)
  go_enter Try.func145, Try.ntmps145
  obtain ⟨c0, c1, c2, c3, c4, c5, c6, c7, c8, c9⟩ := cells10 ROW.out
  go_wp2_with (go_at_call 143; (with_reducible refine (HW.out _ _ (row_at2 _ _ _ _ (size_1 _ _))).mono ?_); rintro e w2 ⟨rfl, hb2⟩)
  go_ret
  exact ⟨ret_bool (by simp [askB]), bl_step (bl_alloc HB0.out _) hb2⟩
theorem Try.infocf : (Try.prog.info? 23).map (·.size) = some 10 := by kernel_rfl
theorem Try.undercf : (Try.prog.underlying 23).map (fun d => match d with | .struct _ => true | _ => false) = some true := by kernel_rfl
theorem undercf_parts : ∃ fs, Try.prog.underlying 23 = some (.struct fs) := by
  obtain ⟨d, hd, h⟩ := Option.map_eq_some_iff.1 Try.undercf
  cases d with
  | struct fs => exact ⟨fs, hd⟩
  | _ => simp at h
set_option maxRecDepth 100000 in
set_option maxHeartbeats 3200000 in
theorem punused0 (bits win reo prx pro ppd pby mrx qb : Int) (w : World) : Calls Try.prog 146 #[.agg #[.int .i64 0, .int .i64 bits, .int .i64 win, .int .i64 reo, .int .i64 prx, .int .i64 pro, .int .i64 ppd, .int .i64 pby, .int .i64 mrx, .int .i64 qb]] w fun e w' => e = .returned (.agg #[.int .i64 0, .int .i64 bits, .int .i64 win, .int .i64 reo, .int .i64 prx, .int .i64 pro, .int .i64 ppd, .int .i64 pby, .int .i64 mrx, .int .i64 0]) ∧ Below w.heap.size w w' := by
  obtain ⟨dd, hdd⟩ := undercf_parts
  go_enter Try.func146, Try.ntmps146
  go_wp2
  refine bodyPost_ret (results_cell_row rfl _ _ (w.heap.size + 1) 23 #[.int .i64 0, .int .i64 bits, .int .i64 win, .int .i64 reo, .int .i64 prx, .int .i64 pro, .int .i64 ppd, .int .i64 pby, .int .i64 mrx, .int .i64 0] (0, 0) (.struct dd) rfl (row_at2 _ _ _ _ (size_1 _ _)) hdd rfl Try.infocf) rfl ?_
  exact ⟨rfl, bl_alloc (bl_alloc (Below.refl _ _) _) _⟩
set_option maxRecDepth 100000 in
set_option maxHeartbeats 3200000 in
theorem punused1 (bits win reo prx pro ppd pby mrx qb : Int) (w : World) : Calls Try.prog 146 #[.agg #[.int .i64 1, .int .i64 bits, .int .i64 win, .int .i64 reo, .int .i64 prx, .int .i64 pro, .int .i64 ppd, .int .i64 pby, .int .i64 mrx, .int .i64 qb]] w fun e w' => e = .returned (.agg #[.int .i64 0, .int .i64 0, .int .i64 0, .int .i64 0, .int .i64 prx, .int .i64 pro, .int .i64 ppd, .int .i64 pby, .int .i64 mrx, .int .i64 0]) ∧ Below w.heap.size w w' := by
  obtain ⟨dd, hdd⟩ := undercf_parts
  go_enter Try.func146, Try.ntmps146
  go_wp2
  refine bodyPost_ret (results_cell_row rfl _ _ (w.heap.size + 1) 23 #[.int .i64 0, .int .i64 0, .int .i64 0, .int .i64 0, .int .i64 prx, .int .i64 pro, .int .i64 ppd, .int .i64 pby, .int .i64 mrx, .int .i64 0] (0, 0) (.struct dd) rfl (row_at2 _ _ _ _ (size_1 _ _)) hdd rfl Try.infocf) rfl ?_
  exact ⟨rfl, bl_alloc (bl_alloc (Below.refl _ _) _) _⟩
set_option maxRecDepth 100000 in
set_option maxHeartbeats 3200000 in
theorem punused2 (bits win reo prx pro ppd pby mrx qb : Int) (w : World) : Calls Try.prog 146 #[.agg #[.int .i64 2, .int .i64 bits, .int .i64 win, .int .i64 reo, .int .i64 prx, .int .i64 pro, .int .i64 ppd, .int .i64 pby, .int .i64 mrx, .int .i64 qb]] w fun e w' => e = .returned (.agg #[.int .i64 0, .int .i64 0, .int .i64 0, .int .i64 0, .int .i64 0, .int .i64 0, .int .i64 0, .int .i64 0, .int .i64 0, .int .i64 0]) ∧ Below w.heap.size w w' := by
  obtain ⟨dd, hdd⟩ := undercf_parts
  go_enter Try.func146, Try.ntmps146
  go_wp2
  refine bodyPost_ret (results_cell_row rfl _ _ (w.heap.size + 1) 23 #[.int .i64 0, .int .i64 0, .int .i64 0, .int .i64 0, .int .i64 0, .int .i64 0, .int .i64 0, .int .i64 0, .int .i64 0, .int .i64 0] (0, 0) (.struct dd) rfl (row_at2 _ _ _ _ (size_1 _ _)) hdd rfl Try.infocf) rfl ?_
  exact ⟨rfl, bl_alloc (bl_alloc (Below.refl _ _) _) _⟩
end Go.Proofs.Ytjonkpdjhjobfaa
namespace Go.Proofs.Ytjonkpdjhjobfaa
open Go.RowKit

def z5 (c : Cf) : Bool := (c.prx == 0) && ((c.pro == 0) && ((c.ppd == 0) && ((c.pby == 0) && (c.mrx == 0))))
def z8 (c : Cf) : Bool := (c.bits == 0) && ((c.win == 0) && ((c.reo == 0) && z5 c))
def qbB (c : Cf) : Bool := limB (c.qb, 1, 20000)
def checkF (c : Cf) : Int :=
  if c.mode = 0 then (if qbB c && z8 c then 0 else 1)
  else if c.mode = 1 then (if qbB c && (numB c 5 10 && z5 c) then 0 else 1)
  else if c.mode = 2 then (if qbB c && (numB c 10 16 && askB c) then 0 else 1)
  else 9
set_option maxRecDepth 100000 in
set_option maxHeartbeats 6400000 in
theorem pcheck0 (bits win reo prx pro ppd pby mrx qb : Int) (w : World) :
    Calls Try.prog 77 #[.agg #[.int .i64 0, .int .i64 bits, .int .i64 win, .int .i64 reo, .int .i64 prx, .int .i64 pro, .int .i64 ppd, .int .i64 pby, .int .i64 mrx, .int .i64 qb]] w fun e w' => e = .returned (.int .i64 (checkF ⟨0, bits, win, reo, prx, pro, ppd, pby, mrx, qb⟩)) ∧ Below w.heap.size w w' := by
  have ROW := Lib.hid (Row.made w 23 #[.int .i64 0, .int .i64 bits, .int .i64 win, .int .i64 reo, .int .i64 prx, .int .i64 pro, .int .i64 ppd, .int .i64 pby, .int .i64 mrx, .int .i64 qb])
  have HB0 := Lib.hid (bl_alloc (Below.refl w.heap.size w) (.cells #[.int .i64 0, .int .i64 bits, .int .i64 win, .int .i64 reo, .int .i64 prx, .int .i64 pro, .int .i64 ppd, .int .i64 pby, .int .i64 mrx, .int .i64 qb] 23))
  have HW := Lib.hid (fun W g' (h : Row W g' 208 #[.int .i64 qb, .int .i64 1, .int .i64 20000]) => pwithin_any (l := [(qb, 1, 20000)]) 1 1 W rfl (by omega) h rfl)
  rw [show [(qb, (1 : Int), (20000 : Int))].all limB = limB (qb, 1, 20000) from by simp] at HW
  have HU := Lib.hid (fun W => punused0 bits win reo prx pro ppd pby mrx qb W)
  have HF := Lib.hid (show checkF ⟨0, bits, win, reo, prx, pro, ppd, pby, mrx, qb⟩ = if limB (qb, 1, 20000) && z8 ⟨0, bits, win, reo, prx, pro, ppd, pby, mrx, qb⟩ then 0 else 1 from rfl)
  cases hq0 : limB (qb, 1, 20000)
  · rw [hq0] at HW HF
    clear hq0
    go_enter Try.func77, Try.ntmps77
    obtain ⟨c0, c1, c2, c3, c4, c5, c6, c7, c8, c9⟩ := cells10 ROW.out
    go_wp2_with (first
      | (go_at_call 143; (with_reducible refine (HW.out _ _ (row_at2 _ _ _ _ (size_1 _ _))).mono ?_); rintro e w2 ⟨rfl, hb2⟩; (have HB2 := Lib.hid (bl_step (bl_alloc HB0.out _) hb2); have ROW2 := Lib.hid ((ROW.out.more _).later hb2); clear c0 c1 c2 c3 c4 c5 c6 c7 c8 c9; obtain ⟨c0, c1, c2, c3, c4, c5, c6, c7, c8, c9⟩ := cells10 ROW2.out; clear hb2))
      | (go_at_call 146; (with_reducible refine (HU.out _).mono ?_); rintro e w3 ⟨rfl, hb3⟩; (have HB3 := Lib.hid (bl_step HB2.out hb3); clear hb3)))
    all_goals
      go_ret
      refine ⟨?_, by first | exact HB3.out | exact HB2.out | exact HB4.out | exact HB2.out⟩
      rw [HF.out]
      first | rfl | simp_all [z8, z5]
  · rw [hq0] at HW HF
    clear hq0
    go_enter Try.func77, Try.ntmps77
    obtain ⟨c0, c1, c2, c3, c4, c5, c6, c7, c8, c9⟩ := cells10 ROW.out
    go_wp2_with (first
      | (go_at_call 143; (with_reducible refine (HW.out _ _ (row_at2 _ _ _ _ (size_1 _ _))).mono ?_); rintro e w2 ⟨rfl, hb2⟩; (have HB2 := Lib.hid (bl_step (bl_alloc HB0.out _) hb2); have ROW2 := Lib.hid ((ROW.out.more _).later hb2); clear c0 c1 c2 c3 c4 c5 c6 c7 c8 c9; obtain ⟨c0, c1, c2, c3, c4, c5, c6, c7, c8, c9⟩ := cells10 ROW2.out; clear hb2))
      | (go_at_call 146; (with_reducible refine (HU.out _).mono ?_); rintro e w3 ⟨rfl, hb3⟩; (have HB3 := Lib.hid (bl_step HB2.out hb3); clear hb3)))
    all_goals
      go_ret
      refine ⟨?_, by first | exact HB3.out | exact HB2.out | exact HB4.out | exact HB2.out⟩
      rw [HF.out]
      first | rfl | simp_all [z8, z5]
end Go.Proofs.Ytjonkpdjhjobfaa
namespace Go.Proofs.Ytjonkpdjhjobfaa
open Go.RowKit

set_option maxRecDepth 100000 in
set_option maxHeartbeats 6400000 in
theorem pcheck1 (bits win reo prx pro ppd pby mrx qb : Int) (w : World) :
    Calls Try.prog 77 #[.agg #[.int .i64 1, .int .i64 bits, .int .i64 win, .int .i64 reo, .int .i64 prx, .int .i64 pro, .int .i64 ppd, .int .i64 pby, .int .i64 mrx, .int .i64 qb]] w fun e w' => e = .returned (.int .i64 (checkF ⟨1, bits, win, reo, prx, pro, ppd, pby, mrx, qb⟩)) ∧ Below w.heap.size w w' := by
  have ROW := Lib.hid (Row.made w 23 #[.int .i64 1, .int .i64 bits, .int .i64 win, .int .i64 reo, .int .i64 prx, .int .i64 pro, .int .i64 ppd, .int .i64 pby, .int .i64 mrx, .int .i64 qb])
  have HB0 := Lib.hid (bl_alloc (Below.refl w.heap.size w) (.cells #[.int .i64 1, .int .i64 bits, .int .i64 win, .int .i64 reo, .int .i64 prx, .int .i64 pro, .int .i64 ppd, .int .i64 pby, .int .i64 mrx, .int .i64 qb] 23))
  have HW := Lib.hid (fun W g' (h : Row W g' 208 #[.int .i64 qb, .int .i64 1, .int .i64 20000]) => pwithin_any (l := [(qb, 1, 20000)]) 1 1 W rfl (by omega) h rfl)
  rw [show [(qb, (1 : Int), (20000 : Int))].all limB = limB (qb, 1, 20000) from by simp] at HW
  have HU := Lib.hid (fun W => punused1 bits win reo prx pro ppd pby mrx qb W)
  have HNM := Lib.hid (fun W g (h : Row W g 3 #[.int .i64 5, .int .i64 10]) => pnumbered_any (g := g) ⟨1, bits, win, reo, prx, pro, ppd, pby, mrx, qb⟩ 5 10 2 W h)
  have HF := Lib.hid (show checkF ⟨1, bits, win, reo, prx, pro, ppd, pby, mrx, qb⟩ = if limB (qb, 1, 20000) && (numB ⟨1, bits, win, reo, prx, pro, ppd, pby, mrx, qb⟩ 5 10 && z5 ⟨1, bits, win, reo, prx, pro, ppd, pby, mrx, qb⟩) then 0 else 1 from rfl)
  unfold Cf.a at *
  cases hq0 : limB (qb, 1, 20000)
  · rw [hq0] at HW HF
    clear hq0
    go_enter Try.func77, Try.ntmps77
    obtain ⟨c0, c1, c2, c3, c4, c5, c6, c7, c8, c9⟩ := cells10 ROW.out
    go_wp2_with (first
      | (go_at_call 143; (with_reducible refine (HW.out _ _ (row_at2 _ _ _ _ (size_1 _ _))).mono ?_); rintro e w2 ⟨rfl, hb2⟩; (have HB2 := Lib.hid (bl_step (bl_alloc HB0.out _) hb2); have ROW2 := Lib.hid ((ROW.out.more _).later hb2); clear c0 c1 c2 c3 c4 c5 c6 c7 c8 c9; obtain ⟨c0, c1, c2, c3, c4, c5, c6, c7, c8, c9⟩ := cells10 ROW2.out; clear hb2))
      | (go_at_call 144; (with_reducible refine (HNM.out _ _ (Row.made _ _ _)).mono ?_); rintro e w4 ⟨rfl, hb4⟩; (have HB4 := Lib.hid (bl_step (bl_alloc HB2.out _) hb4); have ROW4 := Lib.hid ((ROW2.out.more _).later hb4); clear c0 c1 c2 c3 c4 c5 c6 c7 c8 c9; obtain ⟨c0, c1, c2, c3, c4, c5, c6, c7, c8, c9⟩ := cells10 ROW4.out; clear hb4))
      | (go_at_call 146; (with_reducible refine (HU.out _).mono ?_); rintro e w3 ⟨rfl, hb3⟩; (have HB3 := Lib.hid (bl_step HB4.out hb3); clear hb3)))
    all_goals
      go_ret
      refine ⟨?_, by first | exact HB3.out | exact HB4.out | exact HB4.out | exact HB2.out⟩
      rw [HF.out]
      first | rfl | simp_all [z8, z5]
  · rw [hq0] at HW HF
    clear hq0
    cases hq1 : numB ⟨1, bits, win, reo, prx, pro, ppd, pby, mrx, qb⟩ 5 10
    · rw [hq1] at HNM HF
      clear hq1
      go_enter Try.func77, Try.ntmps77
      obtain ⟨c0, c1, c2, c3, c4, c5, c6, c7, c8, c9⟩ := cells10 ROW.out
      go_wp2_with (first
        | (go_at_call 143; (with_reducible refine (HW.out _ _ (row_at2 _ _ _ _ (size_1 _ _))).mono ?_); rintro e w2 ⟨rfl, hb2⟩; (have HB2 := Lib.hid (bl_step (bl_alloc HB0.out _) hb2); have ROW2 := Lib.hid ((ROW.out.more _).later hb2); clear c0 c1 c2 c3 c4 c5 c6 c7 c8 c9; obtain ⟨c0, c1, c2, c3, c4, c5, c6, c7, c8, c9⟩ := cells10 ROW2.out; clear hb2))
        | (go_at_call 144; (with_reducible refine (HNM.out _ _ (Row.made _ _ _)).mono ?_); rintro e w4 ⟨rfl, hb4⟩; (have HB4 := Lib.hid (bl_step (bl_alloc HB2.out _) hb4); have ROW4 := Lib.hid ((ROW2.out.more _).later hb4); clear c0 c1 c2 c3 c4 c5 c6 c7 c8 c9; obtain ⟨c0, c1, c2, c3, c4, c5, c6, c7, c8, c9⟩ := cells10 ROW4.out; clear hb4))
        | (go_at_call 146; (with_reducible refine (HU.out _).mono ?_); rintro e w3 ⟨rfl, hb3⟩; (have HB3 := Lib.hid (bl_step HB4.out hb3); clear hb3)))
      all_goals
        go_ret
        refine ⟨?_, by first | exact HB3.out | exact HB4.out | exact HB4.out | exact HB2.out⟩
        rw [HF.out]
        first | rfl | simp_all [z8, z5]
    · rw [hq1] at HNM HF
      clear hq1
      go_enter Try.func77, Try.ntmps77
      obtain ⟨c0, c1, c2, c3, c4, c5, c6, c7, c8, c9⟩ := cells10 ROW.out
      go_wp2_with (first
        | (go_at_call 143; (with_reducible refine (HW.out _ _ (row_at2 _ _ _ _ (size_1 _ _))).mono ?_); rintro e w2 ⟨rfl, hb2⟩; (have HB2 := Lib.hid (bl_step (bl_alloc HB0.out _) hb2); have ROW2 := Lib.hid ((ROW.out.more _).later hb2); clear c0 c1 c2 c3 c4 c5 c6 c7 c8 c9; obtain ⟨c0, c1, c2, c3, c4, c5, c6, c7, c8, c9⟩ := cells10 ROW2.out; clear hb2))
        | (go_at_call 144; (with_reducible refine (HNM.out _ _ (Row.made _ _ _)).mono ?_); rintro e w4 ⟨rfl, hb4⟩; (have HB4 := Lib.hid (bl_step (bl_alloc HB2.out _) hb4); have ROW4 := Lib.hid ((ROW2.out.more _).later hb4); clear c0 c1 c2 c3 c4 c5 c6 c7 c8 c9; obtain ⟨c0, c1, c2, c3, c4, c5, c6, c7, c8, c9⟩ := cells10 ROW4.out; clear hb4))
        | (go_at_call 146; (with_reducible refine (HU.out _).mono ?_); rintro e w3 ⟨rfl, hb3⟩; (have HB3 := Lib.hid (bl_step HB4.out hb3); clear hb3)))
      all_goals
        go_ret
        refine ⟨?_, by first | exact HB3.out | exact HB4.out | exact HB4.out | exact HB2.out⟩
        rw [HF.out]
        first | rfl | simp_all [z5]
end Go.Proofs.Ytjonkpdjhjobfaa
namespace Go.Proofs.Ytjonkpdjhjobfaa
open Go.RowKit

set_option maxRecDepth 100000 in
set_option maxHeartbeats 6400000 in
theorem pcheck2 (bits win reo prx pro ppd pby mrx qb : Int) (w : World) :
    Calls Try.prog 77 #[.agg #[.int .i64 2, .int .i64 bits, .int .i64 win, .int .i64 reo, .int .i64 prx, .int .i64 pro, .int .i64 ppd, .int .i64 pby, .int .i64 mrx, .int .i64 qb]] w fun e w' => e = .returned (.int .i64 (checkF ⟨2, bits, win, reo, prx, pro, ppd, pby, mrx, qb⟩)) ∧ Below w.heap.size w w' := by
  have ROW := Lib.hid (Row.made w 23 #[.int .i64 2, .int .i64 bits, .int .i64 win, .int .i64 reo, .int .i64 prx, .int .i64 pro, .int .i64 ppd, .int .i64 pby, .int .i64 mrx, .int .i64 qb])
  have HB0 := Lib.hid (bl_alloc (Below.refl w.heap.size w) (.cells #[.int .i64 2, .int .i64 bits, .int .i64 win, .int .i64 reo, .int .i64 prx, .int .i64 pro, .int .i64 ppd, .int .i64 pby, .int .i64 mrx, .int .i64 qb] 23))
  have HW := Lib.hid (fun W g' (h : Row W g' 208 #[.int .i64 qb, .int .i64 1, .int .i64 20000]) => pwithin_any (l := [(qb, 1, 20000)]) 1 1 W rfl (by omega) h rfl)
  rw [show [(qb, (1 : Int), (20000 : Int))].all limB = limB (qb, 1, 20000) from by simp] at HW
  have HU := Lib.hid (fun W => punused2 bits win reo prx pro ppd pby mrx qb W)
  have HNM := Lib.hid (fun W g (h : Row W g 3 #[.int .i64 10, .int .i64 16]) => pnumbered_any (g := g) ⟨2, bits, win, reo, prx, pro, ppd, pby, mrx, qb⟩ 10 16 2 W h)
  have HF := Lib.hid (show checkF ⟨2, bits, win, reo, prx, pro, ppd, pby, mrx, qb⟩ = if limB (qb, 1, 20000) && (numB ⟨2, bits, win, reo, prx, pro, ppd, pby, mrx, qb⟩ 10 16 && askB ⟨2, bits, win, reo, prx, pro, ppd, pby, mrx, qb⟩) then 0 else 1 from rfl)
  have HAS := Lib.hid (fun W => pasking_any ⟨2, bits, win, reo, prx, pro, ppd, pby, mrx, qb⟩ W)
  unfold Cf.a at *
  cases hq0 : limB (qb, 1, 20000)
  · rw [hq0] at HW HF
    clear hq0
    go_enter Try.func77, Try.ntmps77
    obtain ⟨c0, c1, c2, c3, c4, c5, c6, c7, c8, c9⟩ := cells10 ROW.out
    go_wp2_with (first
      | (go_at_call 143; (with_reducible refine (HW.out _ _ (row_at2 _ _ _ _ (size_1 _ _))).mono ?_); rintro e w2 ⟨rfl, hb2⟩; (have HB2 := Lib.hid (bl_step (bl_alloc HB0.out _) hb2); have ROW2 := Lib.hid ((ROW.out.more _).later hb2); clear c0 c1 c2 c3 c4 c5 c6 c7 c8 c9; obtain ⟨c0, c1, c2, c3, c4, c5, c6, c7, c8, c9⟩ := cells10 ROW2.out; clear hb2))
      | (go_at_call 144; (with_reducible refine (HNM.out _ _ (Row.made _ _ _)).mono ?_); rintro e w4 ⟨rfl, hb4⟩; (have HB4 := Lib.hid (bl_step (bl_alloc HB2.out _) hb4); have ROW4 := Lib.hid ((ROW2.out.more _).later hb4); clear c0 c1 c2 c3 c4 c5 c6 c7 c8 c9; obtain ⟨c0, c1, c2, c3, c4, c5, c6, c7, c8, c9⟩ := cells10 ROW4.out; clear hb4))
      | (go_at_call 145; (with_reducible refine (HAS.out _).mono ?_); rintro e w5 ⟨rfl, hb5⟩; (have HB5 := Lib.hid (bl_step HB4.out hb5); have ROW5 := Lib.hid (ROW4.out.later hb5); clear c0 c1 c2 c3 c4 c5 c6 c7 c8 c9; obtain ⟨c0, c1, c2, c3, c4, c5, c6, c7, c8, c9⟩ := cells10 ROW5.out; clear hb5))
      | (go_at_call 146; (with_reducible refine (HU.out _).mono ?_); rintro e w3 ⟨rfl, hb3⟩; (have HB3 := Lib.hid (bl_step HB5.out hb3); clear hb3)))
    all_goals
      go_ret
      refine ⟨?_, by first | exact HB3.out | exact HB5.out | exact HB4.out | exact HB2.out⟩
      rw [HF.out]
      first | rfl | simp_all [z8, z5]
  · rw [hq0] at HW HF
    clear hq0
    cases hq1 : numB ⟨2, bits, win, reo, prx, pro, ppd, pby, mrx, qb⟩ 10 16
    · rw [hq1] at HNM HF
      clear hq1
      go_enter Try.func77, Try.ntmps77
      obtain ⟨c0, c1, c2, c3, c4, c5, c6, c7, c8, c9⟩ := cells10 ROW.out
      go_wp2_with (first
        | (go_at_call 143; (with_reducible refine (HW.out _ _ (row_at2 _ _ _ _ (size_1 _ _))).mono ?_); rintro e w2 ⟨rfl, hb2⟩; (have HB2 := Lib.hid (bl_step (bl_alloc HB0.out _) hb2); have ROW2 := Lib.hid ((ROW.out.more _).later hb2); clear c0 c1 c2 c3 c4 c5 c6 c7 c8 c9; obtain ⟨c0, c1, c2, c3, c4, c5, c6, c7, c8, c9⟩ := cells10 ROW2.out; clear hb2))
        | (go_at_call 144; (with_reducible refine (HNM.out _ _ (Row.made _ _ _)).mono ?_); rintro e w4 ⟨rfl, hb4⟩; (have HB4 := Lib.hid (bl_step (bl_alloc HB2.out _) hb4); have ROW4 := Lib.hid ((ROW2.out.more _).later hb4); clear c0 c1 c2 c3 c4 c5 c6 c7 c8 c9; obtain ⟨c0, c1, c2, c3, c4, c5, c6, c7, c8, c9⟩ := cells10 ROW4.out; clear hb4))
        | (go_at_call 145; (with_reducible refine (HAS.out _).mono ?_); rintro e w5 ⟨rfl, hb5⟩; (have HB5 := Lib.hid (bl_step HB4.out hb5); have ROW5 := Lib.hid (ROW4.out.later hb5); clear c0 c1 c2 c3 c4 c5 c6 c7 c8 c9; obtain ⟨c0, c1, c2, c3, c4, c5, c6, c7, c8, c9⟩ := cells10 ROW5.out; clear hb5))
        | (go_at_call 146; (with_reducible refine (HU.out _).mono ?_); rintro e w3 ⟨rfl, hb3⟩; (have HB3 := Lib.hid (bl_step HB5.out hb3); clear hb3)))
      all_goals
        go_ret
        refine ⟨?_, by first | exact HB3.out | exact HB5.out | exact HB4.out | exact HB2.out⟩
        rw [HF.out]
        first | rfl | simp_all [z8, z5]
    · rw [hq1] at HNM HF
      clear hq1
      cases hq2 : askB ⟨2, bits, win, reo, prx, pro, ppd, pby, mrx, qb⟩
      · rw [hq2] at HAS HF
        clear hq2
        go_enter Try.func77, Try.ntmps77
        obtain ⟨c0, c1, c2, c3, c4, c5, c6, c7, c8, c9⟩ := cells10 ROW.out
        go_wp2_with (first
          | (go_at_call 143; (with_reducible refine (HW.out _ _ (row_at2 _ _ _ _ (size_1 _ _))).mono ?_); rintro e w2 ⟨rfl, hb2⟩; (have HB2 := Lib.hid (bl_step (bl_alloc HB0.out _) hb2); have ROW2 := Lib.hid ((ROW.out.more _).later hb2); clear c0 c1 c2 c3 c4 c5 c6 c7 c8 c9; obtain ⟨c0, c1, c2, c3, c4, c5, c6, c7, c8, c9⟩ := cells10 ROW2.out; clear hb2))
          | (go_at_call 144; (with_reducible refine (HNM.out _ _ (Row.made _ _ _)).mono ?_); rintro e w4 ⟨rfl, hb4⟩; (have HB4 := Lib.hid (bl_step (bl_alloc HB2.out _) hb4); have ROW4 := Lib.hid ((ROW2.out.more _).later hb4); clear c0 c1 c2 c3 c4 c5 c6 c7 c8 c9; obtain ⟨c0, c1, c2, c3, c4, c5, c6, c7, c8, c9⟩ := cells10 ROW4.out; clear hb4))
          | (go_at_call 145; (with_reducible refine (HAS.out _).mono ?_); rintro e w5 ⟨rfl, hb5⟩; (have HB5 := Lib.hid (bl_step HB4.out hb5); have ROW5 := Lib.hid (ROW4.out.later hb5); clear c0 c1 c2 c3 c4 c5 c6 c7 c8 c9; obtain ⟨c0, c1, c2, c3, c4, c5, c6, c7, c8, c9⟩ := cells10 ROW5.out; clear hb5))
          | (go_at_call 146; (with_reducible refine (HU.out _).mono ?_); rintro e w3 ⟨rfl, hb3⟩; (have HB3 := Lib.hid (bl_step HB5.out hb3); clear hb3)))
        all_goals
          go_ret
          refine ⟨?_, by first | exact HB3.out | exact HB5.out | exact HB4.out | exact HB2.out⟩
          rw [HF.out]
          first | rfl | simp_all [z8, z5]
      · rw [hq2] at HAS HF
        clear hq2
        go_enter Try.func77, Try.ntmps77
        obtain ⟨c0, c1, c2, c3, c4, c5, c6, c7, c8, c9⟩ := cells10 ROW.out
        go_wp2_with (first
          | (go_at_call 143; (with_reducible refine (HW.out _ _ (row_at2 _ _ _ _ (size_1 _ _))).mono ?_); rintro e w2 ⟨rfl, hb2⟩; (have HB2 := Lib.hid (bl_step (bl_alloc HB0.out _) hb2); have ROW2 := Lib.hid ((ROW.out.more _).later hb2); clear c0 c1 c2 c3 c4 c5 c6 c7 c8 c9; obtain ⟨c0, c1, c2, c3, c4, c5, c6, c7, c8, c9⟩ := cells10 ROW2.out; clear hb2))
          | (go_at_call 144; (with_reducible refine (HNM.out _ _ (Row.made _ _ _)).mono ?_); rintro e w4 ⟨rfl, hb4⟩; (have HB4 := Lib.hid (bl_step (bl_alloc HB2.out _) hb4); have ROW4 := Lib.hid ((ROW2.out.more _).later hb4); clear c0 c1 c2 c3 c4 c5 c6 c7 c8 c9; obtain ⟨c0, c1, c2, c3, c4, c5, c6, c7, c8, c9⟩ := cells10 ROW4.out; clear hb4))
          | (go_at_call 145; (with_reducible refine (HAS.out _).mono ?_); rintro e w5 ⟨rfl, hb5⟩; (have HB5 := Lib.hid (bl_step HB4.out hb5); have ROW5 := Lib.hid (ROW4.out.later hb5); clear c0 c1 c2 c3 c4 c5 c6 c7 c8 c9; obtain ⟨c0, c1, c2, c3, c4, c5, c6, c7, c8, c9⟩ := cells10 ROW5.out; clear hb5))
          | (go_at_call 146; (with_reducible refine (HU.out _).mono ?_); rintro e w3 ⟨rfl, hb3⟩; (have HB3 := Lib.hid (bl_step HB5.out hb3); clear hb3)))
        all_goals
          go_ret
          refine ⟨?_, by first | exact HB3.out | exact HB5.out | exact HB4.out | exact HB2.out⟩
          rw [HF.out]
          first | rfl | simp_all [z8, z5]
set_option maxHeartbeats 800000 in
theorem pcheck9 (c : Cf) (w : World) (h0 : c.mode ≠ 0) (h1 : c.mode ≠ 1) (h2 : c.mode ≠ 2) : Calls Try.prog 77 #[.agg c.a] w fun e w' => e = .returned (.int .i64 (checkF c)) ∧ Below w.heap.size w w' := by
  have HF := Lib.hid (show checkF c = 9 by unfold checkF; rw [if_neg h0, if_neg h1, if_neg h2])
  obtain ⟨mode, bits, win, reo, prx, pro, ppd, pby, mrx, qb⟩ := c
  unfold Cf.a
  have ROW := Lib.hid (Row.made w 23 #[.int .i64 mode, .int .i64 bits, .int .i64 win, .int .i64 reo, .int .i64 prx, .int .i64 pro, .int .i64 ppd, .int .i64 pby, .int .i64 mrx, .int .i64 qb])
  have HB0 := Lib.hid (bl_alloc (Below.refl w.heap.size w) (.cells #[.int .i64 mode, .int .i64 bits, .int .i64 win, .int .i64 reo, .int .i64 prx, .int .i64 pro, .int .i64 ppd, .int .i64 pby, .int .i64 mrx, .int .i64 qb] 23))
  have HW := Lib.hid (fun W g' (h : Row W g' 208 #[.int .i64 qb, .int .i64 1, .int .i64 20000]) => pwithin_any (l := [(qb, 1, 20000)]) 1 1 W rfl (by omega) h rfl)
  have g0 : (mode == 0) = false := by simpa using h0
  have g1 : (mode == 1) = false := by simpa using h1
  have g2 : (mode == 2) = false := by simpa using h2
  clear h0 h1 h2
  go_enter Try.func77, Try.ntmps77
  obtain ⟨c0, c1, c2, c3, c4, c5, c6, c7, c8, c9⟩ := cells10 ROW.out
  go_wp2_with (go_at_call 143; (with_reducible refine (HW.out _ _ (row_at2 _ _ _ _ (size_1 _ _))).mono ?_); rintro e w2 ⟨rfl, hb2⟩; (have HB2 := Lib.hid (bl_step (bl_alloc HB0.out _) hb2); clear c0 c1 c2 c3 c4 c5 c6 c7 c8 c9; obtain ⟨c0, c1, c2, c3, c4, c5, c6, c7, c8, c9⟩ := cells10 ((ROW.out.more _).later hb2); clear hb2))
  go_ret
  exact ⟨by rw [HF.out]; rfl, HB2.out⟩
end Go.Proofs.Ytjonkpdjhjobfaa
namespace Go.Proofs.Ytjonkpdjhjobfaa
open Go.RowKit

theorem pcheck_any (c : Cf) (w : World) : Calls Try.prog 77 #[.agg c.a] w fun e w' => e = .returned (.int .i64 (checkF c)) ∧ Below w.heap.size w w' := by
  obtain ⟨mode, bits, win, reo, prx, pro, ppd, pby, mrx, qb⟩ := c
  by_cases h0 : mode = 0
  · subst h0; exact pcheck0 bits win reo prx pro ppd pby mrx qb w
  · by_cases h1 : mode = 1
    · subst h1; exact pcheck1 bits win reo prx pro ppd pby mrx qb w
    · by_cases h2 : mode = 2
      · subst h2; exact pcheck2 bits win reo prx pro ppd pby mrx qb w
      · exact pcheck9 _ w h0 h1 h2
end Go.Proofs.Ytjonkpdjhjobfaa
namespace Go.Proofs.Ytjonkpdjhjobfaa
open Go.RowKit

theorem step_run {P : Program} {ops : Array Oper} {o : Oper} {a : Act} {w : World} {K : Act → World → Prop} {Q : Exit → Act → World → Prop} {E : Prop} (hgd : o.guard = none) (s x : Operand) (t : TypeId)
    (ho : o.op = .call { callee := .builtin .append, args := #[s, x], argTypes := #[t, t] }) (v u : Value) (hs : a.eval s = v) (hx : a.eval x = u) {v' : Value} {w' : World}
    (hr : (Builtin.append_ #[t, t] o.type #[v, u]).run P w = .ok v' w') (h : K (a.put o.dst v') w') :
    if Region.wanted o (yielded ops a.tmps) = true then Oper.wp P o a w K Q else E := by
  have hw : Region.wanted o (yielded ops a.tmps) = true := by simp [Region.wanted, hgd]
  rw [if_pos hw]
  unfold Oper.wp execOp
  simp only [ho, resolve, invoke, builtin, Sem.run_bind, Sem.run_pure, Result.andThen_ok, List.map_toArray, List.map_cons, List.map_nil, hs, hx, hr]
  exact h
end Go.Proofs.Ytjonkpdjhjobfaa
namespace Go.Proofs.Ytjonkpdjhjobfaa
open Go.RowKit

def usF (mode : Int) : Cf := if mode = 0 then ⟨0, 0, 0, 0, 0, 0, 0, 0, 0, 5000⟩ else if mode = 1 then ⟨1, 5, 16, 4, 0, 0, 0, 0, 0, 5000⟩ else if mode = 2 then ⟨2, 10, 512, 4, 8, 3, 4, 500, 4, 5000⟩ else ⟨0, 0, 0, 0, 0, 0, 0, 0, 0, 0⟩
set_option maxRecDepth 100000 in
set_option maxHeartbeats 1600000 in
theorem pusual_any (mode : Int) (w : World) : Calls Try.prog 91 #[.int .i64 mode] w fun e w' => e = .returned (.agg (usF mode).a) ∧ Below w.heap.size w w' := by
  obtain ⟨dd, hdd⟩ := undercf_parts
  by_cases h0 : mode = 0
  · have g0 : (mode == 0) = true := by simpa using h0
    have HU := Lib.hid (show (usF mode).a = #[.int .i64 0, .int .i64 0, .int .i64 0, .int .i64 0, .int .i64 0, .int .i64 0, .int .i64 0, .int .i64 0, .int .i64 0, .int .i64 5000] by unfold usF; rw [if_pos h0]; rfl)
    rw [HU.out]
    clear h0
    go_enter Try.func91, Try.ntmps91
    go_wp2
    refine bodyPost_ret (results_cell_row rfl _ _ w.heap.size 23 #[.int .i64 0, .int .i64 0, .int .i64 0, .int .i64 0, .int .i64 0, .int .i64 0, .int .i64 0, .int .i64 0, .int .i64 0, .int .i64 5000] (0, 0) (.struct dd) rfl (Row.made _ _ _) hdd rfl Try.infocf) rfl ?_
    exact ⟨rfl, bl_alloc (Below.refl _ _) _⟩
  · have g0 : (mode == 0) = false := by simpa using h0
    by_cases h1 : mode = 1
    · have g1 : (mode == 1) = true := by simpa using h1
      have HU := Lib.hid (show (usF mode).a = #[.int .i64 1, .int .i64 5, .int .i64 16, .int .i64 4, .int .i64 0, .int .i64 0, .int .i64 0, .int .i64 0, .int .i64 0, .int .i64 5000] by unfold usF; rw [if_neg h0, if_pos h1]; rfl)
      rw [HU.out]
      clear h0 h1
      go_enter Try.func91, Try.ntmps91
      go_wp2
      refine bodyPost_ret (results_cell_row rfl _ _ w.heap.size 23 #[.int .i64 1, .int .i64 5, .int .i64 16, .int .i64 4, .int .i64 0, .int .i64 0, .int .i64 0, .int .i64 0, .int .i64 0, .int .i64 5000] (0, 0) (.struct dd) rfl (Row.made _ _ _) hdd rfl Try.infocf) rfl ?_
      exact ⟨rfl, bl_alloc (Below.refl _ _) _⟩
    · have g1 : (mode == 1) = false := by simpa using h1
      by_cases h2 : mode = 2
      · have g2 : (mode == 2) = true := by simpa using h2
        have HU := Lib.hid (show (usF mode).a = #[.int .i64 2, .int .i64 10, .int .i64 512, .int .i64 4, .int .i64 8, .int .i64 3, .int .i64 4, .int .i64 500, .int .i64 4, .int .i64 5000] by unfold usF; rw [if_neg h0, if_neg h1, if_pos h2]; rfl)
        rw [HU.out]
        clear h0 h1 h2
        go_enter Try.func91, Try.ntmps91
        go_wp2
        refine bodyPost_ret (results_cell_row rfl _ _ w.heap.size 23 #[.int .i64 2, .int .i64 10, .int .i64 512, .int .i64 4, .int .i64 8, .int .i64 3, .int .i64 4, .int .i64 500, .int .i64 4, .int .i64 5000] (0, 0) (.struct dd) rfl (Row.made _ _ _) hdd rfl Try.infocf) rfl ?_
        exact ⟨rfl, bl_alloc (Below.refl _ _) _⟩
      · have g2 : (mode == 2) = false := by simpa using h2
        have HU := Lib.hid (show (usF mode).a = #[.int .i64 0, .int .i64 0, .int .i64 0, .int .i64 0, .int .i64 0, .int .i64 0, .int .i64 0, .int .i64 0, .int .i64 0, .int .i64 0] by unfold usF; rw [if_neg h0, if_neg h1, if_neg h2]; rfl)
        rw [HU.out]
        clear h0 h1 h2
        go_enter Try.func91, Try.ntmps91
        go_wp2
        refine bodyPost_ret (results_cell_row rfl _ _ w.heap.size 23 #[.int .i64 0, .int .i64 0, .int .i64 0, .int .i64 0, .int .i64 0, .int .i64 0, .int .i64 0, .int .i64 0, .int .i64 0, .int .i64 0] (0, 0) (.struct dd) rfl (Row.made _ _ _) hdd rfl Try.infocf) rfl ?_
        exact ⟨rfl, bl_alloc (Below.refl _ _) _⟩
end Go.Proofs.Ytjonkpdjhjobfaa
namespace Go.Proofs.Ytjonkpdjhjobfaa
open Go.RowKit


theorem longest_b (b : Bool) (w : World) : Calls Try.prog 210 #[.bool b] w fun e w' => e = .returned (.int .i64 (if b then 4000 else 2047)) ∧ w = w' := by
  cases b
  · go_enter Try.func210, Try.ntmps210
    go_wp2
    go_ret
    exact ⟨rfl, rfl⟩
  · go_enter Try.func210, Try.ntmps210
    go_wp2
    go_ret
    exact ⟨rfl, rfl⟩

/-- a field's length is added, if it may be -/
def Size1 (n k m ps : Nat) (sz : Int) (w : World) (e : Ending) (w' : World) : Prop :=
  (okAt n k m = true ∧ e = .returned (.bool true) ∧ Row w' ps 3 #[.int .i64 (sz + m)] ∧ Only (fun b => b = ps) w w') ∨ (okAt n k m = false ∧ e = .returned (.bool false) ∧ w = w')
set_option maxRecDepth 100000 in
set_option maxHeartbeats 1600000 in
theorem size1_any {pl ps n cap : Nat} {A Af : Option Addr} {sz : Int} (k m c : Nat) (w : World) (hl : Row w pl 48 #[.slice A n cap]) (hs : Row w ps 3 #[.int .i64 sz]) (hk : k < n) (hn : n ≤ 24) (h0 : 0 ≤ sz) (h1 : sz ≤ 1000000) (hm : m ≤ 9223372036854775807) :
    Calls Try.prog 209 #[.int .i64 k, .slice Af m c, .pointer (some ⟨pl, 0, none⟩), .pointer (some ⟨ps, 0, none⟩)] w (Size1 n k m ps sz w) := by
  have hcl : w.cell? ⟨pl, 0, none⟩ = some (.slice A n cap) := hl.read rfl
  have hcs : w.cell? ⟨ps, 0, none⟩ = some (.int .i64 sz) := hs.read rfl
  have hfs := hs.free 0
  have HROW := Lib.hid (hs.written 0 (.int .i64 (sz + m)))
  have HON := Lib.hid ((Only.refl (fun b => b = ps) w).set (p := ⟨ps, 0, none⟩) (.inl rfl) (.int .i64 (sz + m)))
  clear hs hl
  rcases Nat.eq_zero_or_pos m with hm0 | hm0
  · have HF := Lib.hid (show okAt n k m = false by unfold okAt; rw [decide_eq_false (by omega)]; rfl)
    subst hm0
    go_enter Try.func209, Try.ntmps209
    go_wp2
    go_ret
    exact .inr ⟨HF.out, rfl, rfl⟩
  · have hm1 : ¬ (m : Int) < 1 := by omega
    have hn1 : (1 : Int) ≤ n := by omega
    by_cases hl : k + 1 = n
    · have hb : ((k : Int) == (n : Int) - 1) = true := by simp; omega
      rcases Nat.lt_or_ge 4000 m with h4 | h4
      · have HF := Lib.hid (show okAt n k m = false by unfold okAt; rw [if_pos hl, decide_eq_false (show ¬ m ≤ 4000 by omega)]; simp)
        have h4' : (4000 : Int) < m := by omega
        clear hl
        go_enter Try.func209, Try.ntmps209
        go_wp2_with (go_at_call 210; refine (longest_b true _).mono ?_; rintro e w1 ⟨rfl, rfl⟩)
        go_ret
        exact .inr ⟨HF.out, rfl, rfl⟩
      · have HF := Lib.hid (show okAt n k m = true by unfold okAt; rw [if_pos hl, decide_eq_true h4, decide_eq_true (show 1 ≤ m by omega)]; rfl)
        have h4' : ¬ (4000 : Int) < m := by omega
        clear hl
        go_enter Try.func209, Try.ntmps209
        go_wp2_with (go_at_call 210; refine (longest_b true _).mono ?_; rintro e w1 ⟨rfl, rfl⟩)
        go_ret
        exact .inl ⟨HF.out, rfl, HROW.out, HON.out⟩
    · have hb : ((k : Int) == (n : Int) - 1) = false := by simp; omega
      rcases Nat.lt_or_ge 2047 m with h4 | h4
      · have HF := Lib.hid (show okAt n k m = false by unfold okAt; rw [if_neg hl, decide_eq_false (show ¬ m ≤ 2047 by omega)]; simp)
        have h4' : (2047 : Int) < m := by omega
        clear hl
        go_enter Try.func209, Try.ntmps209
        go_wp2_with (go_at_call 210; refine (longest_b false _).mono ?_; rintro e w1 ⟨rfl, rfl⟩)
        go_ret
        exact .inr ⟨HF.out, rfl, rfl⟩
      · have HF := Lib.hid (show okAt n k m = true by unfold okAt; rw [if_neg hl, decide_eq_true h4, decide_eq_true (show 1 ≤ m by omega)]; rfl)
        have h4' : ¬ (2047 : Int) < m := by omega
        clear hl
        go_enter Try.func209, Try.ntmps209
        go_wp2_with (go_at_call 210; refine (longest_b false _).mono ?_; rintro e w1 ⟨rfl, rfl⟩)
        go_ret
        exact .inl ⟨HF.out, rfl, HROW.out, HON.out⟩

/-- .. while fields are gone through -/
structure SizeInv (B pl ps n cap : Nat) (A : Option Addr) (sz : Int) (ls : List Nat) (w : World) (k : Nat) (w' : World) : Prop where
  box : Row w' pl 48 #[.slice A n cap]
  sum : Row w' ps 3 #[.int .i64 (sz + sumTo ls k)]
  ok : okTo ls k = true
  below : Below B w w'
theorem only_below {B : Nat} {w w' : World} {p : Nat} (h : Only (fun b => b = p) w w') (hp : B ≤ p) (hB : B ≤ w.heap.size) : Below B w w' := h.below hB (fun k hk hk' => by omega)
theorem each_size {A : Option Addr} {L : List RowB} {B pl ps n cap : Nat} {sz : Int} (w : World) (hL : L.length = n) (hn : n ≤ 24) (hs : ∀ W, Below B w W → RSrc W A L) (hm : ∀ m ∈ lens L, m ≤ 9223372036854775807) (hz0 : 0 ≤ sz) (hz1 : sz ≤ 46)
    (hB : B ≤ w.heap.size) (hps : B ≤ ps) (hne : ps ≠ pl) (h1 : Row w pl 48 #[.slice A n cap]) (h2 : Row w ps 3 #[.int .i64 sz]) :
    Calls Try.prog 182 #[.slice A n cap, .func (.func 209) #[] #[.pointer (some ⟨pl, 0, none⟩), .pointer (some ⟨ps, 0, none⟩)]] w fun e w' =>
      (e = .returned (.bool true) ∧ SizeInv B pl ps n cap A sz (lens L) w n w') ∨ (e = .returned (.bool false) ∧ okTo (lens L) n = false ∧ Below B w w') := by
  have hll : (lens L).length = n := by rw [length_lens, hL]
  refine each_any (K := 209) (caps := #[.pointer (some ⟨pl, 0, none⟩), .pointer (some ⟨ps, 0, none⟩)]) n cap (fun a W => enters Try.func209 (by kernel_rfl) rfl a W)
        (SizeInv B pl ps n cap A sz (lens L) w) (fun W' => okTo (lens L) n = false ∧ Below B w W') w hL (by omega)
        ⟨h1, by rw [sumTo_zero]; simpa using h2, okTo_zero _, Below.refl _ _⟩ (fun k W' hi => hs W' hi.below)
        (fun k W' r hr hi => ?_)
  have hk : k < n := by rw [← hL]; exact (List.getElem?_eq_some_iff.1 hr).1
  have hm9 : r.bs.length ≤ 9223372036854775807 := hm _ (List.mem_of_getElem? (lens_at hr))
  have hst := sumTo_bound hi.ok (by rw [hll]; omega)
  have hB' : B ≤ W'.heap.size := Nat.le_trans hB hi.below.size
  refine (size1_any (Af := r.A) (c := r.cap) k r.bs.length W' hi.box hi.sum hk hn (by omega) (by omega) hm9).mono ?_
  rintro e W2 (⟨g1, rfl, g2, g3⟩ | ⟨g1, rfl, rfl⟩)
  · refine .inl ⟨rfl, hi.box.only g3 (fun h => hne h.symm), ?_, ?_, hi.below.trans (only_below g3 hps hB')⟩
    · rw [sumTo_succ (lens_at hr)]
      have e9 : sz + ((sumTo (lens L) k + r.bs.length : Nat) : Int) = sz + (sumTo (lens L) k : Int) + (r.bs.length : Int) := by omega
      rw [e9]
      exact g2
    · rw [okTo_at (lens_at hr) hi.ok, hll, g1]
  · refine .inr ⟨rfl, ?_, hi.below⟩
    refine okTo_later (k := k + 1) ?_ (by omega)
    rw [okTo_at (lens_at hr) hi.ok, hll, g1]

set_option maxRecDepth 100000 in
set_option maxHeartbeats 1600000 in
theorem fsize_any {A : Option Addr} {L : List RowB} (n cap : Nat) (wd : Int) (w : World) (hL : L.length = n) (hn : n ≤ 9223372036854775807) (hs : RSrc w A L) (hm : ∀ m ∈ lens L, m ≤ 9223372036854775807) :
    Calls Try.prog 179 #[.slice A n cap, .int .i64 wd] w fun e w' => e = .returned (.int .i64 (szF (lens L) wd)) ∧ Below w.heap.size w w' := by
  have hll : (lens L).length = n := by rw [length_lens, hL]
  rcases Nat.eq_zero_or_pos n with h0 | h0
  · have HF := Lib.hid (show szF (lens L) wd = 0 by unfold szF; rw [if_neg (by omega)])
    subst h0
    clear hL hll hs hm
    go_enter Try.func179, Try.ntmps179
    go_wp2
    go_ret
    exact ⟨by rw [HF.out]; rfl, bl_alloc (Below.refl _ _) _⟩
  · have h0' : ¬ (n : Int) < 1 := by omega
    rcases Nat.lt_or_ge 24 n with h1 | h1
    · have HF := Lib.hid (show szF (lens L) wd = 0 by unfold szF; rw [if_neg (by omega)])
      have h1' : (24 : Int) < n := by omega
      clear hL hll hs hm
      go_enter Try.func179, Try.ntmps179
      go_wp2
      go_ret
      exact ⟨by rw [HF.out]; rfl, bl_alloc (Below.refl _ _) _⟩
    · have h1' : ¬ (24 : Int) < n := by omega
      have HF := Lib.hid (show szF (lens L) wd = if okTo (lens L) n = true then sizeF ((n : Int) - 1) wd + (lens L).sum else 0 by
        unfold szF
        rw [hll]
        by_cases h9 : okTo (lens L) n = true
        · rw [if_pos ⟨by omega, by omega, h9⟩, if_pos h9]
        · rw [if_neg (fun h => h9 h.2.2), if_neg h9])
      have HZ := Lib.hid (fun W => size_any ((n : Int) - 1) wd W)
      have hz := sizeF_nonneg ((n : Int) - 1) wd
      generalize sizeF ((n : Int) - 1) wd = sz at *
      obtain ⟨hz0, hz1⟩ := hz
      have HSUM := Lib.hid (show sumTo (lens L) n = (lens L).sum by rw [← hll]; exact sumTo_all _)
      have HE := Lib.hid (fun W hb (x1 : Row W w.heap.size 48 #[.slice A n cap]) x2 => each_size (B := w.heap.size) (pl := w.heap.size) (ps := w.heap.size + 1) (cap := cap) (sz := sz) W hL h1 (fun W' hb' => hs.later (Below.trans hb hb')) hm hz0 hz1 (Below.size hb) (by omega) (by omega) x1 x2)
      clear hL hll hs hm
      go_enter Try.func179, Try.ntmps179
      go_wp2_with (first
        | (go_at_call 187; refine (HZ.out _).mono ?_; rintro e w1 ⟨rfl, rfl⟩)
        | (go_at_call 182; refine (HE.out _ ?b ?x1 ?x2).mono ?_; rotate_left 3; rintro e w2 (⟨rfl, hi⟩ | ⟨rfl, hi, hb⟩); (have hc := hi.sum.read (i := 0) rfl; have HI := Lib.hid hi; clear hi); rotate_left 1; (have HI := Lib.hid hi; have HB := Lib.hid hb; clear hi hb); rotate_left 1))
      case b => exact bl_alloc (bl_alloc (Below.refl _ _) _) _
      case x1 => exact (Row.made _ _ _).more _
      case x2 => exact (by simpa using Row.made (w.alloc (.cells #[.slice A n cap] 48)) 3 #[.int .i64 sz])
      · go_ret
        refine ⟨?_, (bl_alloc (bl_alloc (Below.refl _ _) _) _).trans HI.out.below⟩
        rw [HF.out, if_pos HI.out.ok, ← HSUM.out]
        rfl
      · go_ret
        refine ⟨?_, (bl_alloc (bl_alloc (Below.refl _ _) _) _).trans HB.out⟩
        rw [HF.out, if_neg (by rw [HI.out]; decide)]
        rfl

theorem conv_src {w : World} {A : Option Addr} {l : List Nat} (n c : Nat) (hl : l.length = n) (h : Src w A (bts l)) (hb : ∀ b ∈ l, b < 256) : (convert 38 9 (.slice A n c)).run Try.prog w = .ok (.string (strOf l)) w := by
  subst hl
  cases A with
  | none =>
    have hl : l.length = 0 := by
      rcases Nat.eq_zero_or_pos l.length with h0 | h0
      · exact h0
      · obtain ⟨ad, h1, _⟩ := h (by rw [length_bts]; exact h0)
        cases h1
    have e : l = [] := List.eq_nil_of_length_eq_zero hl
    subst e
    exact run_convert_bytes_nil w 38 5 Try.underlying38 Try.underlying5 0 c 9 Try.underlying9
  | some ad =>
    have hx := run_convert_bytes_back (P := Try.prog) w 38 9 5 ad c (l.map UInt8.ofNat) Try.underlying38 Try.underlying5 Try.underlying9 (fun j hj => by
      have hj' : j < l.length := by simpa using hj
      have h1 : (bts l)[j]? = some (.int .u8 (l[j] : Nat)) := bts_at (List.getElem?_eq_getElem hj')
      obtain ⟨ad', h2, h3⟩ := h (by rw [length_bts]; omega)
      injection h2 with h2
      subst h2
      rw [h3 j _ h1, List.getElem_map]
      have h4 : (UInt8.ofNat l[j]).toNat = l[j] := UInt8.toNat_ofNat_of_lt' (hb _ (List.getElem_mem hj'))
      rw [h4])
    rw [List.length_map] at hx
    exact hx
theorem texts_at {L : List RowB} {k : Nat} {r : RowB} (h : L[k]? = some r) : (texts L)[k]? = some r.bs := by simp [texts, h]
theorem length_texts (L : List RowB) : (texts L).length = L.length := by simp [texts]
end Go.Proofs.Ytjonkpdjhjobfaa
