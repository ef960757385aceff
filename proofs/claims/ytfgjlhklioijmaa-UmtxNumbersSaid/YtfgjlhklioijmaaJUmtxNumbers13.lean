/-
  pdu: Check of the mode that asks. pdu: bytes are read: what they are. pdu: bytes are read: a status.
-/
import Derived.Test.YtfgjlhklioijmaaJUmtxNumbers12
import Derived.Laws.ResultCell
namespace Go.Proofs.Ytfgjlhklioijmaa
open Go.RowKit

set_option maxRecDepth 100000 in
set_option maxHeartbeats 6400000 in
theorem pcheck2 (bits win reo prx pro ppd pby mrx qb : Int) (w : World) :
    Calls Try.prog 38 #[.agg #[.int .i64 2, .int .i64 bits, .int .i64 win, .int .i64 reo, .int .i64 prx, .int .i64 pro, .int .i64 ppd, .int .i64 pby, .int .i64 mrx, .int .i64 qb]] w fun e w' => e = .returned (.int .i64 (checkF ⟨2, bits, win, reo, prx, pro, ppd, pby, mrx, qb⟩)) ∧ Below w.heap.size w w' := by
  have ROW := Lib.hid (Row.made w 49 #[.int .i64 2, .int .i64 bits, .int .i64 win, .int .i64 reo, .int .i64 prx, .int .i64 pro, .int .i64 ppd, .int .i64 pby, .int .i64 mrx, .int .i64 qb])
  have HB0 := Lib.hid (bl_alloc (Below.refl w.heap.size w) (.cells #[.int .i64 2, .int .i64 bits, .int .i64 win, .int .i64 reo, .int .i64 prx, .int .i64 pro, .int .i64 ppd, .int .i64 pby, .int .i64 mrx, .int .i64 qb] 49))
  have HW := Lib.hid (fun W g' (h : Row W g' 235 #[.int .i64 qb, .int .i64 1, .int .i64 20000]) => pwithin_any (l := [(qb, 1, 20000)]) 1 1 W rfl (by omega) h rfl)
  rw [show [(qb, (1 : Int), (20000 : Int))].all limB = limB (qb, 1, 20000) from by simp] at HW
  have HU := Lib.hid (fun W => punused2 bits win reo prx pro ppd pby mrx qb W)
  have HNM := Lib.hid (fun W g (h : Row W g 3 #[.int .i64 10, .int .i64 16]) => pnumbered_any (g := g) ⟨2, bits, win, reo, prx, pro, ppd, pby, mrx, qb⟩ 10 16 2 W h)
  have HF := Lib.hid (show checkF ⟨2, bits, win, reo, prx, pro, ppd, pby, mrx, qb⟩ = if limB (qb, 1, 20000) && (numB ⟨2, bits, win, reo, prx, pro, ppd, pby, mrx, qb⟩ 10 16 && askB ⟨2, bits, win, reo, prx, pro, ppd, pby, mrx, qb⟩) then 0 else 1 from rfl)
  have HAS := Lib.hid (fun W => pasking_any ⟨2, bits, win, reo, prx, pro, ppd, pby, mrx, qb⟩ W)
  unfold Cf.a at *
  cases hq0 : limB (qb, 1, 20000)
  · rw [hq0] at HW HF
    clear hq0
    go_enter Try.func38, Try.ntmps38
    obtain ⟨c0, c1, c2, c3, c4, c5, c6, c7, c8, c9⟩ := cells10 ROW.out
    go_wp2_with (first
      | (go_at_call 157; (with_reducible refine (HW.out _ _ (row_at2 _ _ _ _ (size_1 _ _))).mono ?_); rintro e w2 ⟨rfl, hb2⟩; (have HB2 := Lib.hid (bl_step (bl_alloc HB0.out _) hb2); have ROW2 := Lib.hid ((ROW.out.more _).later hb2); clear c0 c1 c2 c3 c4 c5 c6 c7 c8 c9; obtain ⟨c0, c1, c2, c3, c4, c5, c6, c7, c8, c9⟩ := cells10 ROW2.out; clear hb2))
      | (go_at_call 158; (with_reducible refine (HNM.out _ _ (Row.made _ _ _)).mono ?_); rintro e w4 ⟨rfl, hb4⟩; (have HB4 := Lib.hid (bl_step (bl_alloc HB2.out _) hb4); have ROW4 := Lib.hid ((ROW2.out.more _).later hb4); clear c0 c1 c2 c3 c4 c5 c6 c7 c8 c9; obtain ⟨c0, c1, c2, c3, c4, c5, c6, c7, c8, c9⟩ := cells10 ROW4.out; clear hb4))
      | (go_at_call 159; (with_reducible refine (HAS.out _).mono ?_); rintro e w5 ⟨rfl, hb5⟩; (have HB5 := Lib.hid (bl_step HB4.out hb5); have ROW5 := Lib.hid (ROW4.out.later hb5); clear c0 c1 c2 c3 c4 c5 c6 c7 c8 c9; obtain ⟨c0, c1, c2, c3, c4, c5, c6, c7, c8, c9⟩ := cells10 ROW5.out; clear hb5))
      | (go_at_call 160; (with_reducible refine (HU.out _).mono ?_); rintro e w3 ⟨rfl, hb3⟩; (have HB3 := Lib.hid (bl_step HB5.out hb3); clear hb3)))
    all_goals
      go_ret
      refine ⟨?_, by first | exact HB3.out | exact HB5.out | exact HB4.out | exact HB2.out⟩
      rw [HF.out]
      first | rfl | simp_all [z8, z5]
  · rw [hq0] at HW HF
    clear hq0
    cases hq1 : numB ⟨2, bits, win, reo, prx, pro, ppd, pby, mrx, qb⟩ 10 16
    · rw [hq1] at HNM HF
      clear hq1
      go_enter Try.func38, Try.ntmps38
      obtain ⟨c0, c1, c2, c3, c4, c5, c6, c7, c8, c9⟩ := cells10 ROW.out
      go_wp2_with (first
        | (go_at_call 157; (with_reducible refine (HW.out _ _ (row_at2 _ _ _ _ (size_1 _ _))).mono ?_); rintro e w2 ⟨rfl, hb2⟩; (have HB2 := Lib.hid (bl_step (bl_alloc HB0.out _) hb2); have ROW2 := Lib.hid ((ROW.out.more _).later hb2); clear c0 c1 c2 c3 c4 c5 c6 c7 c8 c9; obtain ⟨c0, c1, c2, c3, c4, c5, c6, c7, c8, c9⟩ := cells10 ROW2.out; clear hb2))
        | (go_at_call 158; (with_reducible refine (HNM.out _ _ (Row.made _ _ _)).mono ?_); rintro e w4 ⟨rfl, hb4⟩; (have HB4 := Lib.hid (bl_step (bl_alloc HB2.out _) hb4); have ROW4 := Lib.hid ((ROW2.out.more _).later hb4); clear c0 c1 c2 c3 c4 c5 c6 c7 c8 c9; obtain ⟨c0, c1, c2, c3, c4, c5, c6, c7, c8, c9⟩ := cells10 ROW4.out; clear hb4))
        | (go_at_call 159; (with_reducible refine (HAS.out _).mono ?_); rintro e w5 ⟨rfl, hb5⟩; (have HB5 := Lib.hid (bl_step HB4.out hb5); have ROW5 := Lib.hid (ROW4.out.later hb5); clear c0 c1 c2 c3 c4 c5 c6 c7 c8 c9; obtain ⟨c0, c1, c2, c3, c4, c5, c6, c7, c8, c9⟩ := cells10 ROW5.out; clear hb5))
        | (go_at_call 160; (with_reducible refine (HU.out _).mono ?_); rintro e w3 ⟨rfl, hb3⟩; (have HB3 := Lib.hid (bl_step HB5.out hb3); clear hb3)))
      all_goals
        go_ret
        refine ⟨?_, by first | exact HB3.out | exact HB5.out | exact HB4.out | exact HB2.out⟩
        rw [HF.out]
        first | rfl | simp_all [z8, z5]
    · rw [hq1] at HNM HF
      clear hq1
      cases hq2 : askB ⟨2, bits, win, reo, prx, pro, ppd, pby, mrx, qb⟩
      · rw [hq2] at HAS HF
        clear hq2
        go_enter Try.func38, Try.ntmps38
        obtain ⟨c0, c1, c2, c3, c4, c5, c6, c7, c8, c9⟩ := cells10 ROW.out
        go_wp2_with (first
          | (go_at_call 157; (with_reducible refine (HW.out _ _ (row_at2 _ _ _ _ (size_1 _ _))).mono ?_); rintro e w2 ⟨rfl, hb2⟩; (have HB2 := Lib.hid (bl_step (bl_alloc HB0.out _) hb2); have ROW2 := Lib.hid ((ROW.out.more _).later hb2); clear c0 c1 c2 c3 c4 c5 c6 c7 c8 c9; obtain ⟨c0, c1, c2, c3, c4, c5, c6, c7, c8, c9⟩ := cells10 ROW2.out; clear hb2))
          | (go_at_call 158; (with_reducible refine (HNM.out _ _ (Row.made _ _ _)).mono ?_); rintro e w4 ⟨rfl, hb4⟩; (have HB4 := Lib.hid (bl_step (bl_alloc HB2.out _) hb4); have ROW4 := Lib.hid ((ROW2.out.more _).later hb4); clear c0 c1 c2 c3 c4 c5 c6 c7 c8 c9; obtain ⟨c0, c1, c2, c3, c4, c5, c6, c7, c8, c9⟩ := cells10 ROW4.out; clear hb4))
          | (go_at_call 159; (with_reducible refine (HAS.out _).mono ?_); rintro e w5 ⟨rfl, hb5⟩; (have HB5 := Lib.hid (bl_step HB4.out hb5); have ROW5 := Lib.hid (ROW4.out.later hb5); clear c0 c1 c2 c3 c4 c5 c6 c7 c8 c9; obtain ⟨c0, c1, c2, c3, c4, c5, c6, c7, c8, c9⟩ := cells10 ROW5.out; clear hb5))
          | (go_at_call 160; (with_reducible refine (HU.out _).mono ?_); rintro e w3 ⟨rfl, hb3⟩; (have HB3 := Lib.hid (bl_step HB5.out hb3); clear hb3)))
        all_goals
          go_ret
          refine ⟨?_, by first | exact HB3.out | exact HB5.out | exact HB4.out | exact HB2.out⟩
          rw [HF.out]
          first | rfl | simp_all [z8, z5]
      · rw [hq2] at HAS HF
        clear hq2
        go_enter Try.func38, Try.ntmps38
        obtain ⟨c0, c1, c2, c3, c4, c5, c6, c7, c8, c9⟩ := cells10 ROW.out
        go_wp2_with (first
          | (go_at_call 157; (with_reducible refine (HW.out _ _ (row_at2 _ _ _ _ (size_1 _ _))).mono ?_); rintro e w2 ⟨rfl, hb2⟩; (have HB2 := Lib.hid (bl_step (bl_alloc HB0.out _) hb2); have ROW2 := Lib.hid ((ROW.out.more _).later hb2); clear c0 c1 c2 c3 c4 c5 c6 c7 c8 c9; obtain ⟨c0, c1, c2, c3, c4, c5, c6, c7, c8, c9⟩ := cells10 ROW2.out; clear hb2))
          | (go_at_call 158; (with_reducible refine (HNM.out _ _ (Row.made _ _ _)).mono ?_); rintro e w4 ⟨rfl, hb4⟩; (have HB4 := Lib.hid (bl_step (bl_alloc HB2.out _) hb4); have ROW4 := Lib.hid ((ROW2.out.more _).later hb4); clear c0 c1 c2 c3 c4 c5 c6 c7 c8 c9; obtain ⟨c0, c1, c2, c3, c4, c5, c6, c7, c8, c9⟩ := cells10 ROW4.out; clear hb4))
          | (go_at_call 159; (with_reducible refine (HAS.out _).mono ?_); rintro e w5 ⟨rfl, hb5⟩; (have HB5 := Lib.hid (bl_step HB4.out hb5); have ROW5 := Lib.hid (ROW4.out.later hb5); clear c0 c1 c2 c3 c4 c5 c6 c7 c8 c9; obtain ⟨c0, c1, c2, c3, c4, c5, c6, c7, c8, c9⟩ := cells10 ROW5.out; clear hb5))
          | (go_at_call 160; (with_reducible refine (HU.out _).mono ?_); rintro e w3 ⟨rfl, hb3⟩; (have HB3 := Lib.hid (bl_step HB5.out hb3); clear hb3)))
        all_goals
          go_ret
          refine ⟨?_, by first | exact HB3.out | exact HB5.out | exact HB4.out | exact HB2.out⟩
          rw [HF.out]
          first | rfl | simp_all [z8, z5]
set_option maxHeartbeats 800000 in
theorem pcheck9 (c : Cf) (w : World) (h0 : c.mode ≠ 0) (h1 : c.mode ≠ 1) (h2 : c.mode ≠ 2) : Calls Try.prog 38 #[.agg c.a] w fun e w' => e = .returned (.int .i64 (checkF c)) ∧ Below w.heap.size w w' := by
  have HF := Lib.hid (show checkF c = 9 by unfold checkF; rw [if_neg h0, if_neg h1, if_neg h2])
  obtain ⟨mode, bits, win, reo, prx, pro, ppd, pby, mrx, qb⟩ := c
  unfold Cf.a
  have ROW := Lib.hid (Row.made w 49 #[.int .i64 mode, .int .i64 bits, .int .i64 win, .int .i64 reo, .int .i64 prx, .int .i64 pro, .int .i64 ppd, .int .i64 pby, .int .i64 mrx, .int .i64 qb])
  have HB0 := Lib.hid (bl_alloc (Below.refl w.heap.size w) (.cells #[.int .i64 mode, .int .i64 bits, .int .i64 win, .int .i64 reo, .int .i64 prx, .int .i64 pro, .int .i64 ppd, .int .i64 pby, .int .i64 mrx, .int .i64 qb] 49))
  have HW := Lib.hid (fun W g' (h : Row W g' 235 #[.int .i64 qb, .int .i64 1, .int .i64 20000]) => pwithin_any (l := [(qb, 1, 20000)]) 1 1 W rfl (by omega) h rfl)
  have g0 : (mode == 0) = false := by simpa using h0
  have g1 : (mode == 1) = false := by simpa using h1
  have g2 : (mode == 2) = false := by simpa using h2
  clear h0 h1 h2
  go_enter Try.func38, Try.ntmps38
  obtain ⟨c0, c1, c2, c3, c4, c5, c6, c7, c8, c9⟩ := cells10 ROW.out
  go_wp2_with (go_at_call 157; (with_reducible refine (HW.out _ _ (row_at2 _ _ _ _ (size_1 _ _))).mono ?_); rintro e w2 ⟨rfl, hb2⟩; (have HB2 := Lib.hid (bl_step (bl_alloc HB0.out _) hb2); clear c0 c1 c2 c3 c4 c5 c6 c7 c8 c9; obtain ⟨c0, c1, c2, c3, c4, c5, c6, c7, c8, c9⟩ := cells10 ((ROW.out.more _).later hb2); clear hb2))
  go_ret
  exact ⟨by rw [HF.out]; rfl, HB2.out⟩
end Go.Proofs.Ytfgjlhklioijmaa
namespace Go.Proofs.Ytfgjlhklioijmaa
open Go.RowKit

theorem cells14 {w : World} {g : Nat} {t : TypeId} {a b c d e f h i j k l m n o : Value} (hr : Row w g t #[a, b, c, d, e, f, h, i, j, k, l, m, n, o]) : w.cell? ⟨g, 0, none⟩ = some a ∧ w.cell? ⟨g, 1, none⟩ = some b ∧ w.cell? ⟨g, 2, none⟩ = some c ∧ w.cell? ⟨g, 3, none⟩ = some d ∧ w.cell? ⟨g, 4, none⟩ = some e ∧ w.cell? ⟨g, 5, none⟩ = some f ∧ w.cell? ⟨g, 6, none⟩ = some h ∧ w.cell? ⟨g, 7, none⟩ = some i ∧ w.cell? ⟨g, 8, none⟩ = some j ∧ w.cell? ⟨g, 9, none⟩ = some k ∧ w.cell? ⟨g, 10, none⟩ = some l ∧ w.cell? ⟨g, 11, none⟩ = some m ∧ w.cell? ⟨g, 12, none⟩ = some n ∧ w.cell? ⟨g, 13, none⟩ = some o :=
  ⟨hr.read rfl, hr.read rfl, hr.read rfl, hr.read rfl, hr.read rfl, hr.read rfl, hr.read rfl, hr.read rfl, hr.read rfl, hr.read rfl, hr.read rfl, hr.read rfl, hr.read rfl, hr.read rfl⟩
theorem free14 {w : World} {g : Nat} {t : TypeId} {cs : Array Value} (hr : Row w g t cs) : w.frozen? ⟨g, 0, none⟩ = false ∧ w.frozen? ⟨g, 1, none⟩ = false ∧ w.frozen? ⟨g, 2, none⟩ = false ∧ w.frozen? ⟨g, 3, none⟩ = false ∧ w.frozen? ⟨g, 4, none⟩ = false ∧ w.frozen? ⟨g, 5, none⟩ = false ∧ w.frozen? ⟨g, 6, none⟩ = false ∧ w.frozen? ⟨g, 7, none⟩ = false ∧ w.frozen? ⟨g, 8, none⟩ = false ∧ w.frozen? ⟨g, 9, none⟩ = false ∧ w.frozen? ⟨g, 10, none⟩ = false ∧ w.frozen? ⟨g, 11, none⟩ = false ∧ w.frozen? ⟨g, 12, none⟩ = false ∧ w.frozen? ⟨g, 13, none⟩ = false :=
  ⟨hr.free _, hr.free _, hr.free _, hr.free _, hr.free _, hr.free _, hr.free _, hr.free _, hr.free _, hr.free _, hr.free _, hr.free _, hr.free _, hr.free _⟩
set_option maxHeartbeats 4000000 in
theorem row_set14 {w : World} {g : Nat} {t : TypeId} {a b c d e f h i j k l m n o a' b' c' d' e' f' h' i' j' k' l' m' n' o' : Value} (h : Row w g t #[a, b, c, d, e, f, h, i, j, k, l, m, n, o]) : Row ((((((((((((((w.setCell ⟨g, 0, none⟩ a').setCell ⟨g, 1, none⟩ b').setCell ⟨g, 2, none⟩ c').setCell ⟨g, 3, none⟩ d').setCell ⟨g, 4, none⟩ e').setCell ⟨g, 5, none⟩ f').setCell ⟨g, 6, none⟩ h').setCell ⟨g, 7, none⟩ i').setCell ⟨g, 8, none⟩ j').setCell ⟨g, 9, none⟩ k').setCell ⟨g, 10, none⟩ l').setCell ⟨g, 11, none⟩ m').setCell ⟨g, 12, none⟩ n').setCell ⟨g, 13, none⟩ o') g t #[a', b', c', d', e', f', h', i', j', k', l', m', n', o'] := by
  have h2 := ((((((((((((((h.written 0 a').written 1 b').written 2 c').written 3 d').written 4 e').written 5 f').written 6 h').written 7 i').written 8 j').written 9 k').written 10 l').written 11 m').written 12 n').written 13 o')
  simpa using h2
set_option maxHeartbeats 4000000 in
theorem below_set14 {w0 w : World} {B g : Nat} (h : Below B w0 w) (hg : B ≤ g) (a' b' c' d' e' f' h' i' j' k' l' m' n' o' : Value) : Below B w0 ((((((((((((((w.setCell ⟨g, 0, none⟩ a').setCell ⟨g, 1, none⟩ b').setCell ⟨g, 2, none⟩ c').setCell ⟨g, 3, none⟩ d').setCell ⟨g, 4, none⟩ e').setCell ⟨g, 5, none⟩ f').setCell ⟨g, 6, none⟩ h').setCell ⟨g, 7, none⟩ i').setCell ⟨g, 8, none⟩ j').setCell ⟨g, 9, none⟩ k').setCell ⟨g, 10, none⟩ l').setCell ⟨g, 11, none⟩ m').setCell ⟨g, 12, none⟩ n').setCell ⟨g, 13, none⟩ o') := ((((((((((((((h.setCell (p := ⟨g, 0, none⟩) hg a').setCell (p := ⟨g, 1, none⟩) hg b').setCell (p := ⟨g, 2, none⟩) hg c').setCell (p := ⟨g, 3, none⟩) hg d').setCell (p := ⟨g, 4, none⟩) hg e').setCell (p := ⟨g, 5, none⟩) hg f').setCell (p := ⟨g, 6, none⟩) hg h').setCell (p := ⟨g, 7, none⟩) hg i').setCell (p := ⟨g, 8, none⟩) hg j').setCell (p := ⟨g, 9, none⟩) hg k').setCell (p := ⟨g, 10, none⟩) hg l').setCell (p := ⟨g, 11, none⟩) hg m').setCell (p := ⟨g, 12, none⟩) hg n').setCell (p := ⟨g, 13, none⟩) hg o')
theorem Try.infoun : (Try.prog.info? 56).map (·.size) = some 14 := by kernel_rfl
theorem Try.underun : (Try.prog.underlying 56).map (fun d => match d with | .struct _ => true | _ => false) = some true := by kernel_rfl
theorem underun_parts : ∃ fs, Try.prog.underlying 56 = some (.struct fs) := by
  obtain ⟨d, hd, h⟩ := Option.map_eq_some_iff.1 Try.underun
  cases d with
  | struct fs => exact ⟨fs, hd⟩
  | _ => simp at h
def kindF (mode : Int) (bs : List Nat) : Int := if mode = 0 then 0 else if mode = 1 then 1 else if bs.length = 0 then 2 else if bs.getD 0 0 < 128 then 3 else 2
set_option maxHeartbeats 1600000 in
theorem pkind_any {A : Option Addr} {bs : List Nat} (mode : Int) (n cap : Nat) (w : World) (hn : bs.length = n) (hs : Src w A (bts bs)) (hb : ∀ b ∈ bs, b < 256) :
    Calls Try.prog 154 #[.int .i64 mode, .slice A n cap] w fun e w' => e = .returned (.int .i64 (kindF mode bs)) ∧ w = w' := by
  by_cases h0 : mode = 0
  · have HX := Lib.hid (show kindF mode bs = 0 by unfold kindF; rw [if_pos h0])
    have h0' : (mode == 0) = true := by simpa using h0
    clear h0 hs hb hn
    go_enter Try.func154, Try.ntmps154
    go_wp2
    refine st_scope_through 0 (fun _ _ => False) (fun _ _ => 0) rfl (fun _ => ?_) (fun _ _ h => h.elim)
    go_wp2
    try simp only [Exit.jump]
    go_ret
    exact ⟨by rw [HX.out]; rfl, rfl⟩
  · have h0' : (mode == 0) = false := by simpa using h0
    by_cases h1 : mode = 1
    · have HX := Lib.hid (show kindF mode bs = 1 by unfold kindF; rw [if_neg h0, if_pos h1])
      have h1' : (mode == 1) = true := by simpa using h1
      clear h0 h1 hs hb hn
      go_enter Try.func154, Try.ntmps154
      go_wp2
      refine st_scope_through 0 (fun _ _ => False) (fun _ _ => 0) rfl (fun _ => ?_) (fun _ _ h => h.elim)
      go_wp2
      try simp only [Exit.jump]
      go_ret
      exact ⟨by rw [HX.out]; rfl, rfl⟩
    · have h1' : (mode == 1) = false := by simpa using h1
      cases bs with
      | nil =>
        have HX := Lib.hid (show kindF mode [] = 2 by unfold kindF; rw [if_neg h0, if_neg h1]; rfl)
        simp only [List.length_nil] at hn
        subst hn
        clear h0 h1 hs hb
        go_enter Try.func154, Try.ntmps154
        go_wp2
        refine st_scope_through 0 (fun a' w' => Fr [none, none, none, none, none, none, none, none, none, none, none, none, none, none, none, none, none, none, none, none, none] a' ∧ w = w') (fun _ _ => 0) rfl (fun hrest => ?_) ?_
        · go_wp2
          go_step3
          refine ⟨rfl, ?_, rfl⟩
          simp only [Fr, Holes]
          repeat apply Exists.intro
          rfl
        · rintro a' w' ⟨hfr, rfl⟩
          simp only [Fr, Holes] at hfr
          repeat (obtain ⟨_, hfr⟩ := hfr)
          go_wp2
          try simp only [Exit.jump]
          go_ret
          exact ⟨by rw [HX.out]; rfl, rfl⟩
      | cons b r =>
        have hb0 : b < 256 := hb b (List.mem_cons_self ..)
        obtain ⟨ad, rfl, hc⟩ := hs (by simp [bts])
        have c0 : w.cell? (ad.add 0) = some (.int .u8 b) := hc 0 _ rfl
        have hn0 : 0 < n := by simp at hn; omega
        have hne : (n == 0) = false := by simp; omega
        have e0 : ad.add 0 = ad := by simp [Addr.add]
        rw [e0] at c0
        have HXX := Lib.hid (show kindF mode (b :: r) = if b < 128 then 3 else 2 by unfold kindF; rw [if_neg h0, if_neg h1]; simp)
        clear h0 h1 hc hb hn e0
        by_cases hlt : b < 128
        · have g1 : ((b : Int) / 2 ^ 7 == 0) = true := by simp; omega
          rw [if_pos hlt] at HXX
          go_enter Try.func154, Try.ntmps154
          go_wp2
          refine st_scope_through 0 (fun _ _ => False) (fun _ _ => 0) rfl (fun _ => ?_) (fun _ _ h => h.elim)
          go_wp2
          try simp only [Exit.jump]
          go_ret
          exact ⟨by rw [HXX.out]; rfl, rfl⟩
        · have g1 : ((b : Int) / 2 ^ 7 == 0) = false := by simp; omega
          rw [if_neg hlt] at HXX
          go_enter Try.func154, Try.ntmps154
          go_wp2
          refine st_scope_through 0 (fun _ _ => False) (fun _ _ => 0) rfl (fun _ => ?_) (fun _ _ h => h.elim)
          go_wp2
          go_step3
          rename_i Q9 K9 h9
          refine h9 _ _ ?_
          go_wp2
          try simp only [Exit.jump]
          go_ret
          exact ⟨by rw [HXX.out]; rfl, rfl⟩
theorem pcheck_any (c : Cf) (w : World) : Calls Try.prog 38 #[.agg c.a] w fun e w' => e = .returned (.int .i64 (checkF c)) ∧ Below w.heap.size w w' := by
  obtain ⟨mode, bits, win, reo, prx, pro, ppd, pby, mrx, qb⟩ := c
  by_cases h0 : mode = 0
  · subst h0; exact pcheck0 bits win reo prx pro ppd pby mrx qb w
  · by_cases h1 : mode = 1
    · subst h1; exact pcheck1 bits win reo prx pro ppd pby mrx qb w
    · by_cases h2 : mode = 2
      · subst h2; exact pcheck2 bits win reo prx pro ppd pby mrx qb w
      · exact pcheck9 _ w h0 h1 h2
end Go.Proofs.Ytfgjlhklioijmaa
namespace Go.Proofs.Ytfgjlhklioijmaa
open Go.RowKit

set_option maxRecDepth 100000 in
set_option maxHeartbeats 6400000 in
theorem pread_st_ok {A : Option Addr} (bits win reo prx pro ppd pby mrx qb a : Int) (n cap : Nat) (w : World)
    (hck : checkF ⟨2, bits, win, reo, prx, pro, ppd, pby, mrx, qb⟩ = 0) (hkd : ∀ W, Below w.heap.size w W → Calls Try.prog 154 #[.int .i64 2, .slice A n cap] W fun e w' => e = .returned (.int .i64 3) ∧ W = w')
    
    (hcal : ∀ W, Below w.heap.size w W → Calls Try.prog 156 #[.slice A n cap, .int .i64 bits] W fun e w' => ∃ (A' : Option Addr) (n' c' : Nat), e = .returned (.tuple #[.agg #[.int .i64 a, .slice A' n' c'], .int .i64 0]) ∧ Below W.heap.size W w') :
    Calls Try.prog 37 #[.agg #[.int .i64 2, .int .i64 bits, .int .i64 win, .int .i64 reo, .int .i64 prx, .int .i64 pro, .int .i64 ppd, .int .i64 pby, .int .i64 mrx, .int .i64 qb], .slice A n cap] w fun e w' => ∃ (A' : Option Addr) (n' c' : Nat), e = .returned (.tuple #[.agg #[.int .i64 3, .slice none 0 0, .int .i64 0, .int .i64 0, .slice none 0 0, .bool false, .int .i64 0, .int .i64 0, .bool false, .bool false, .int .i64 0, .slice none 0 0, .int .i64 a, .slice A' n' c'], .int .i64 0]) ∧ Below w.heap.size w w' := by
  have ROW := Lib.hid (Row.made w 49 #[.int .i64 2, .int .i64 bits, .int .i64 win, .int .i64 reo, .int .i64 prx, .int .i64 pro, .int .i64 ppd, .int .i64 pby, .int .i64 mrx, .int .i64 qb])
  have ROWZ := Lib.hid (row_at2 (w.alloc (.cells #[.int .i64 2, .int .i64 bits, .int .i64 win, .int .i64 reo, .int .i64 prx, .int .i64 pro, .int .i64 ppd, .int .i64 pby, .int .i64 mrx, .int .i64 qb] 49)) (w.heap.size + 1) 56 #[.int .i64 0, .slice none 0 0, .int .i64 0, .int .i64 0, .slice none 0 0, .bool false, .int .i64 0, .int .i64 0, .bool false, .bool false, .int .i64 0, .slice none 0 0, .int .i64 0, .slice none 0 0] (size_1 _ _))
  have HB0 := Lib.hid (bl_alloc (bl_alloc (Below.refl w.heap.size w) (.cells #[.int .i64 2, .int .i64 bits, .int .i64 win, .int .i64 reo, .int .i64 prx, .int .i64 pro, .int .i64 ppd, .int .i64 pby, .int .i64 mrx, .int .i64 qb] 49)) (.cells #[.int .i64 0, .slice none 0 0, .int .i64 0, .int .i64 0, .slice none 0 0, .bool false, .int .i64 0, .int .i64 0, .bool false, .bool false, .int .i64 0, .slice none 0 0, .int .i64 0, .slice none 0 0] 56))
  have ROWC := Lib.hid (ROW.out.more (.cells #[.int .i64 0, .slice none 0 0, .int .i64 0, .int .i64 0, .slice none 0 0, .bool false, .int .i64 0, .int .i64 0, .bool false, .bool false, .int .i64 0, .slice none 0 0, .int .i64 0, .slice none 0 0] 56))
  have HCK := Lib.hid (fun W => pcheck_any ⟨2, bits, win, reo, prx, pro, ppd, pby, mrx, qb⟩ W)
  rw [hck] at HCK
  unfold Cf.a at HCK
  have HKD := Lib.hid hkd
  have HCAL := Lib.hid hcal
  clear hck hkd hcal
  generalize hW : (w.alloc (.cells #[.int .i64 2, .int .i64 bits, .int .i64 win, .int .i64 reo, .int .i64 prx, .int .i64 pro, .int .i64 ppd, .int .i64 pby, .int .i64 mrx, .int .i64 qb] 49)).alloc (.cells #[.int .i64 0, .slice none 0 0, .int .i64 0, .int .i64 0, .slice none 0 0, .bool false, .int .i64 0, .int .i64 0, .bool false, .bool false, .int .i64 0, .slice none 0 0, .int .i64 0, .slice none 0 0] 56) = W0 at *
  obtain ⟨c0, c1, c2, c3, c4, c5, c6, c7, c8, c9⟩ := cells10 ROWC.out
  go_enter Try.func37, Try.ntmps37
  go_wp2_with fail
  clear hW
  go_wp2_with (first
    | (go_at_call 38; (with_reducible refine (HCK.out _).mono ?_); rintro e w1 ⟨rfl, hb1⟩; (have HB1 := Lib.hid (bl_step HB0.out hb1); have ROWC1 := Lib.hid (ROWC.out.later hb1); have ROWZ1 := Lib.hid (ROWZ.out.later hb1); clear hb1 c0 c1 c2 c3 c4 c5 c6 c7 c8 c9; obtain ⟨c0, c1, c2, c3, c4, c5, c6, c7, c8, c9⟩ := cells10 ROWC1.out))
    | (go_at_call 154; (with_reducible refine (HKD.out _ HB1.out).mono ?_); rintro e wx ⟨rfl, rfl⟩; obtain ⟨C0, C1, -⟩ := cells10 (ROWC1.out.more (.cells #[.int .i64 3, .slice none 0 0, .int .i64 0, .int .i64 0, .slice none 0 0, .bool false, .int .i64 0, .int .i64 0, .bool false, .bool false, .int .i64 0, .slice none 0 0, .int .i64 0, .slice none 0 0] 56)))
    | (go_at_call 156; (with_reducible refine (HCAL.out _ (bl_alloc HB1.out _)).mono ?_); rintro e w3 ⟨A', n', c', rfl, hb3⟩; (have HB3 := Lib.hid (bl_step (bl_alloc HB1.out (.cells #[.int .i64 3, .slice none 0 0, .int .i64 0, .int .i64 0, .slice none 0 0, .bool false, .int .i64 0, .int .i64 0, .bool false, .bool false, .int .i64 0, .slice none 0 0, .int .i64 0, .slice none 0 0] 56)) hb3); have ROWZ3 := Lib.hid ((ROWZ1.out.more (.cells #[.int .i64 3, .slice none 0 0, .int .i64 0, .int .i64 0, .slice none 0 0, .bool false, .int .i64 0, .int .i64 0, .bool false, .bool false, .int .i64 0, .slice none 0 0, .int .i64 0, .slice none 0 0] 56)).later hb3); have ROWQ3 := Lib.hid ((Row.made w1 56 #[.int .i64 3, .slice none 0 0, .int .i64 0, .int .i64 0, .slice none 0 0, .bool false, .int .i64 0, .int .i64 0, .bool false, .bool false, .int .i64 0, .slice none 0 0, .int .i64 0, .slice none 0 0]).later hb3); have hq : w.heap.size + 1 < w1.heap.size := ROWZ1.out.inside; clear hb3; generalize w1.heap.size = q at *; have RZ4 := Lib.hid (show Row ((w3.setCell ⟨q, 12, none⟩ (.int .i64 a)).setCell ⟨q, 13, none⟩ (.slice A' n' c')) (w.heap.size + 1) 56 #[.int .i64 0, .slice none 0 0, .int .i64 0, .int .i64 0, .slice none 0 0, .bool false, .int .i64 0, .int .i64 0, .bool false, .bool false, .int .i64 0, .slice none 0 0, .int .i64 0, .slice none 0 0] from ((ROWZ3.out.elsewhere (p := ⟨q, 12, none⟩) (Nat.ne_of_lt hq) (.int .i64 a)).elsewhere (p := ⟨q, 13, none⟩) (Nat.ne_of_lt hq) (.slice A' n' c'))); have RQ4 := Lib.hid (show Row ((w3.setCell ⟨q, 12, none⟩ (.int .i64 a)).setCell ⟨q, 13, none⟩ (.slice A' n' c')) q 56 #[.int .i64 3, .slice none 0 0, .int .i64 0, .int .i64 0, .slice none 0 0, .bool false, .int .i64 0, .int .i64 0, .bool false, .bool false, .int .i64 0, .slice none 0 0, .int .i64 a, .slice A' n' c'] from ((ROWQ3.out.written 12 (.int .i64 a)).written 13 (.slice A' n' c'))); have HB4 := Lib.hid (show Below w.heap.size w ((w3.setCell ⟨q, 12, none⟩ (.int .i64 a)).setCell ⟨q, 13, none⟩ (.slice A' n' c')) from ((HB3.out.setCell (p := ⟨q, 12, none⟩) (by show w.heap.size ≤ q; omega) (.int .i64 a)).setCell (p := ⟨q, 13, none⟩) (by show w.heap.size ≤ q; omega) (.slice A' n' c'))); obtain ⟨q0, q1, q2, q3, q4, q5, q6, q7, q8, q9, q10, q11, q12, q13⟩ := cells14 ROWQ3.out; obtain ⟨f0, f1, f2, f3, f4, f5, f6, f7, f8, f9, f10, f11, f12, f13⟩ := free14 ROWQ3.out; obtain ⟨r0, r1, r2, r3, r4, r5, r6, r7, r8, r9, r10, r11, r12, r13⟩ := cells14 RQ4.out; obtain ⟨z0, z1, z2, z3, z4, z5, z6, z7, z8, z9, z10, z11, z12, z13⟩ := cells14 RZ4.out; obtain ⟨y0, y1, y2, y3, y4, y5, y6, y7, y8, y9, y10, y11, y12, y13⟩ := free14 RZ4.out)))
  obtain ⟨dd, hdd⟩ := underun_parts
  refine bodyPost_ret (st_results_two rfl _ _ (w.heap.size + 1) 56 #[.int .i64 3, .slice none 0 0, .int .i64 0, .int .i64 0, .slice none 0 0, .bool false, .int .i64 0, .int .i64 0, .bool false, .bool false, .int .i64 0, .slice none 0 0, .int .i64 a, .slice A' n' c'] dd rfl (row_set14 RZ4.out) hdd Try.infoun) rfl ?_
  exact ⟨A', n', c', rfl, below_set14 HB4.out (Nat.le_succ _) _ _ _ _ _ _ _ _ _ _ _ _ _ _⟩
set_option maxRecDepth 100000 in
set_option maxHeartbeats 6400000 in
theorem pread_st_err {A : Option Addr} (bits win reo prx pro ppd pby mrx qb er : Int) (n cap : Nat) (w : World)
    (hck : checkF ⟨2, bits, win, reo, prx, pro, ppd, pby, mrx, qb⟩ = 0) (hkd : ∀ W, Below w.heap.size w W → Calls Try.prog 154 #[.int .i64 2, .slice A n cap] W fun e w' => e = .returned (.int .i64 3) ∧ W = w')
    (her : er ≠ 0)
    (hcal : ∀ W, Below w.heap.size w W → Calls Try.prog 156 #[.slice A n cap, .int .i64 bits] W fun e w' => e = .returned (.tuple #[.agg #[.int .i64 0, .slice none 0 0], .int .i64 er]) ∧ Below W.heap.size W w') :
    Calls Try.prog 37 #[.agg #[.int .i64 2, .int .i64 bits, .int .i64 win, .int .i64 reo, .int .i64 prx, .int .i64 pro, .int .i64 ppd, .int .i64 pby, .int .i64 mrx, .int .i64 qb], .slice A n cap] w fun e w' => e = .returned (.tuple #[.agg #[.int .i64 0, .slice none 0 0, .int .i64 0, .int .i64 0, .slice none 0 0, .bool false, .int .i64 0, .int .i64 0, .bool false, .bool false, .int .i64 0, .slice none 0 0, .int .i64 0, .slice none 0 0], .int .i64 er]) ∧ Below w.heap.size w w' := by
  have ROW := Lib.hid (Row.made w 49 #[.int .i64 2, .int .i64 bits, .int .i64 win, .int .i64 reo, .int .i64 prx, .int .i64 pro, .int .i64 ppd, .int .i64 pby, .int .i64 mrx, .int .i64 qb])
  have ROWZ := Lib.hid (row_at2 (w.alloc (.cells #[.int .i64 2, .int .i64 bits, .int .i64 win, .int .i64 reo, .int .i64 prx, .int .i64 pro, .int .i64 ppd, .int .i64 pby, .int .i64 mrx, .int .i64 qb] 49)) (w.heap.size + 1) 56 #[.int .i64 0, .slice none 0 0, .int .i64 0, .int .i64 0, .slice none 0 0, .bool false, .int .i64 0, .int .i64 0, .bool false, .bool false, .int .i64 0, .slice none 0 0, .int .i64 0, .slice none 0 0] (size_1 _ _))
  have HB0 := Lib.hid (bl_alloc (bl_alloc (Below.refl w.heap.size w) (.cells #[.int .i64 2, .int .i64 bits, .int .i64 win, .int .i64 reo, .int .i64 prx, .int .i64 pro, .int .i64 ppd, .int .i64 pby, .int .i64 mrx, .int .i64 qb] 49)) (.cells #[.int .i64 0, .slice none 0 0, .int .i64 0, .int .i64 0, .slice none 0 0, .bool false, .int .i64 0, .int .i64 0, .bool false, .bool false, .int .i64 0, .slice none 0 0, .int .i64 0, .slice none 0 0] 56))
  have ROWC := Lib.hid (ROW.out.more (.cells #[.int .i64 0, .slice none 0 0, .int .i64 0, .int .i64 0, .slice none 0 0, .bool false, .int .i64 0, .int .i64 0, .bool false, .bool false, .int .i64 0, .slice none 0 0, .int .i64 0, .slice none 0 0] 56))
  have HCK := Lib.hid (fun W => pcheck_any ⟨2, bits, win, reo, prx, pro, ppd, pby, mrx, qb⟩ W)
  rw [hck] at HCK
  unfold Cf.a at HCK
  have HKD := Lib.hid hkd
  have HCAL := Lib.hid hcal
  clear hck hkd hcal
  have hne : (er != 0) = true := by simpa using her
  clear her
  generalize hW : (w.alloc (.cells #[.int .i64 2, .int .i64 bits, .int .i64 win, .int .i64 reo, .int .i64 prx, .int .i64 pro, .int .i64 ppd, .int .i64 pby, .int .i64 mrx, .int .i64 qb] 49)).alloc (.cells #[.int .i64 0, .slice none 0 0, .int .i64 0, .int .i64 0, .slice none 0 0, .bool false, .int .i64 0, .int .i64 0, .bool false, .bool false, .int .i64 0, .slice none 0 0, .int .i64 0, .slice none 0 0] 56) = W0 at *
  obtain ⟨c0, c1, c2, c3, c4, c5, c6, c7, c8, c9⟩ := cells10 ROWC.out
  go_enter Try.func37, Try.ntmps37
  go_wp2_with fail
  clear hW
  go_wp2_with (first
    | (go_at_call 38; (with_reducible refine (HCK.out _).mono ?_); rintro e w1 ⟨rfl, hb1⟩; (have HB1 := Lib.hid (bl_step HB0.out hb1); have ROWC1 := Lib.hid (ROWC.out.later hb1); have ROWZ1 := Lib.hid (ROWZ.out.later hb1); clear hb1 c0 c1 c2 c3 c4 c5 c6 c7 c8 c9; obtain ⟨c0, c1, c2, c3, c4, c5, c6, c7, c8, c9⟩ := cells10 ROWC1.out))
    | (go_at_call 154; (with_reducible refine (HKD.out _ HB1.out).mono ?_); rintro e wx ⟨rfl, rfl⟩; obtain ⟨C0, C1, -⟩ := cells10 (ROWC1.out.more (.cells #[.int .i64 3, .slice none 0 0, .int .i64 0, .int .i64 0, .slice none 0 0, .bool false, .int .i64 0, .int .i64 0, .bool false, .bool false, .int .i64 0, .slice none 0 0, .int .i64 0, .slice none 0 0] 56)))
    | (go_at_call 156; (with_reducible refine (HCAL.out _ (bl_alloc HB1.out _)).mono ?_); rintro e w3 ⟨rfl, hb3⟩; (have HB3 := Lib.hid (bl_step (bl_alloc HB1.out (.cells #[.int .i64 3, .slice none 0 0, .int .i64 0, .int .i64 0, .slice none 0 0, .bool false, .int .i64 0, .int .i64 0, .bool false, .bool false, .int .i64 0, .slice none 0 0, .int .i64 0, .slice none 0 0] 56)) hb3); have ROWZ3 := Lib.hid ((ROWZ1.out.more (.cells #[.int .i64 3, .slice none 0 0, .int .i64 0, .int .i64 0, .slice none 0 0, .bool false, .int .i64 0, .int .i64 0, .bool false, .bool false, .int .i64 0, .slice none 0 0, .int .i64 0, .slice none 0 0] 56)).later hb3); have ROWQ3 := Lib.hid ((Row.made w1 56 #[.int .i64 3, .slice none 0 0, .int .i64 0, .int .i64 0, .slice none 0 0, .bool false, .int .i64 0, .int .i64 0, .bool false, .bool false, .int .i64 0, .slice none 0 0, .int .i64 0, .slice none 0 0]).later hb3); have hq : w.heap.size + 1 < w1.heap.size := ROWZ1.out.inside; clear hb3; generalize w1.heap.size = q at *; have RZ4 := Lib.hid (show Row ((w3.setCell ⟨q, 12, none⟩ (.int .i64 0)).setCell ⟨q, 13, none⟩ (.slice none 0 0)) (w.heap.size + 1) 56 #[.int .i64 0, .slice none 0 0, .int .i64 0, .int .i64 0, .slice none 0 0, .bool false, .int .i64 0, .int .i64 0, .bool false, .bool false, .int .i64 0, .slice none 0 0, .int .i64 0, .slice none 0 0] from ((ROWZ3.out.elsewhere (p := ⟨q, 12, none⟩) (Nat.ne_of_lt hq) (.int .i64 0)).elsewhere (p := ⟨q, 13, none⟩) (Nat.ne_of_lt hq) (.slice none 0 0))); have RQ4 := Lib.hid (show Row ((w3.setCell ⟨q, 12, none⟩ (.int .i64 0)).setCell ⟨q, 13, none⟩ (.slice none 0 0)) q 56 #[.int .i64 3, .slice none 0 0, .int .i64 0, .int .i64 0, .slice none 0 0, .bool false, .int .i64 0, .int .i64 0, .bool false, .bool false, .int .i64 0, .slice none 0 0, .int .i64 0, .slice none 0 0] from ((ROWQ3.out.written 12 (.int .i64 0)).written 13 (.slice none 0 0))); have HB4 := Lib.hid (show Below w.heap.size w ((w3.setCell ⟨q, 12, none⟩ (.int .i64 0)).setCell ⟨q, 13, none⟩ (.slice none 0 0)) from ((HB3.out.setCell (p := ⟨q, 12, none⟩) (by show w.heap.size ≤ q; omega) (.int .i64 0)).setCell (p := ⟨q, 13, none⟩) (by show w.heap.size ≤ q; omega) (.slice none 0 0))); obtain ⟨q0, q1, q2, q3, q4, q5, q6, q7, q8, q9, q10, q11, q12, q13⟩ := cells14 ROWQ3.out; obtain ⟨f0, f1, f2, f3, f4, f5, f6, f7, f8, f9, f10, f11, f12, f13⟩ := free14 ROWQ3.out; obtain ⟨r0, r1, r2, r3, r4, r5, r6, r7, r8, r9, r10, r11, r12, r13⟩ := cells14 RQ4.out; obtain ⟨z0, z1, z2, z3, z4, z5, z6, z7, z8, z9, z10, z11, z12, z13⟩ := cells14 RZ4.out; obtain ⟨y0, y1, y2, y3, y4, y5, y6, y7, y8, y9, y10, y11, y12, y13⟩ := free14 RZ4.out)))
  obtain ⟨dd, hdd⟩ := underun_parts
  refine bodyPost_ret (st_results_two rfl _ _ (w.heap.size + 1) 56 #[.int .i64 0, .slice none 0 0, .int .i64 0, .int .i64 0, .slice none 0 0, .bool false, .int .i64 0, .int .i64 0, .bool false, .bool false, .int .i64 0, .slice none 0 0, .int .i64 0, .slice none 0 0] dd rfl (row_set14 RZ4.out) hdd Try.infoun) rfl ?_
  exact ⟨rfl, below_set14 HB4.out (Nat.le_succ _) _ _ _ _ _ _ _ _ _ _ _ _ _ _⟩
end Go.Proofs.Ytfgjlhklioijmaa
