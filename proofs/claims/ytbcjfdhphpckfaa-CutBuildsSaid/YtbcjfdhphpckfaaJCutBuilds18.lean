/-
  pdu: Check of the mode that asks. pdu: bytes are read: what they are. What a mode of Usual is. How many bytes fields have; whether two are equal. cut: which widths may be, how many bytes fields have, how many bytes the next field has.
-/
import Derived.Test.YtbcjfdhphpckfaaJCutBuilds17
import Derived.Laws.ResultCell
import Derived.Test.YtbcjfdhphpckfaaJCutBuilds03
import Derived.Test.YtbcjfdhphpckfaaJCutBuilds10
import Derived.Laws.Strings
import Derived.Test.YtbcjfdhphpckfaaJCutBuilds06
namespace Go.Proofs.Ytbcjfdhphpckfaa
open Go.RowKit

set_option maxRecDepth 100000 in
set_option maxHeartbeats 6400000 in
theorem pcheck2 (bits win reo prx pro ppd pby mrx qb : Int) (w : World) :
    Calls Try.prog 135 #[.agg #[.int .i64 2, .int .i64 bits, .int .i64 win, .int .i64 reo, .int .i64 prx, .int .i64 pro, .int .i64 ppd, .int .i64 pby, .int .i64 mrx, .int .i64 qb]] w fun e w' => e = .returned (.int .i64 (checkF ⟨2, bits, win, reo, prx, pro, ppd, pby, mrx, qb⟩)) ∧ Below w.heap.size w w' := by
  have ROW := Lib.hid (Row.made w 94 #[.int .i64 2, .int .i64 bits, .int .i64 win, .int .i64 reo, .int .i64 prx, .int .i64 pro, .int .i64 ppd, .int .i64 pby, .int .i64 mrx, .int .i64 qb])
  have HB0 := Lib.hid (bl_alloc (Below.refl w.heap.size w) (.cells #[.int .i64 2, .int .i64 bits, .int .i64 win, .int .i64 reo, .int .i64 prx, .int .i64 pro, .int .i64 ppd, .int .i64 pby, .int .i64 mrx, .int .i64 qb] 94))
  have HW := Lib.hid (fun W g' (h : Row W g' 257 #[.int .i64 qb, .int .i64 1, .int .i64 20000]) => pwithin_any (l := [(qb, 1, 20000)]) 1 1 W rfl (by omega) h rfl)
  rw [show [(qb, (1 : Int), (20000 : Int))].all limB = limB (qb, 1, 20000) from by simp] at HW
  have HU := Lib.hid (fun W => punused2 bits win reo prx pro ppd pby mrx qb W)
  have HNM := Lib.hid (fun W g (h : Row W g 3 #[.int .i64 10, .int .i64 16]) => pnumbered_any (g := g) ⟨2, bits, win, reo, prx, pro, ppd, pby, mrx, qb⟩ 10 16 2 W h)
  have HF := Lib.hid (show checkF ⟨2, bits, win, reo, prx, pro, ppd, pby, mrx, qb⟩ = if limB (qb, 1, 20000) && (numB ⟨2, bits, win, reo, prx, pro, ppd, pby, mrx, qb⟩ 10 16 && askB ⟨2, bits, win, reo, prx, pro, ppd, pby, mrx, qb⟩) then 0 else 1 from rfl)
  have HAS := Lib.hid (fun W => pasking_any ⟨2, bits, win, reo, prx, pro, ppd, pby, mrx, qb⟩ W)
  unfold Cf.a at *
  cases hq0 : limB (qb, 1, 20000)
  · rw [hq0] at HW HF
    clear hq0
    go_enter Try.func135, Try.ntmps135
    obtain ⟨c0, c1, c2, c3, c4, c5, c6, c7, c8, c9⟩ := cells10 ROW.out
    go_wp2_with (first
      | (go_at_call 185; (with_reducible refine (HW.out _ _ (row_at2 _ _ _ _ (size_1 _ _))).mono ?_); rintro e w2 ⟨rfl, hb2⟩; (have HB2 := Lib.hid (bl_step (bl_alloc HB0.out _) hb2); have ROW2 := Lib.hid ((ROW.out.more _).later hb2); clear c0 c1 c2 c3 c4 c5 c6 c7 c8 c9; obtain ⟨c0, c1, c2, c3, c4, c5, c6, c7, c8, c9⟩ := cells10 ROW2.out; clear hb2))
      | (go_at_call 186; (with_reducible refine (HNM.out _ _ (Row.made _ _ _)).mono ?_); rintro e w4 ⟨rfl, hb4⟩; (have HB4 := Lib.hid (bl_step (bl_alloc HB2.out _) hb4); have ROW4 := Lib.hid ((ROW2.out.more _).later hb4); clear c0 c1 c2 c3 c4 c5 c6 c7 c8 c9; obtain ⟨c0, c1, c2, c3, c4, c5, c6, c7, c8, c9⟩ := cells10 ROW4.out; clear hb4))
      | (go_at_call 187; (with_reducible refine (HAS.out _).mono ?_); rintro e w5 ⟨rfl, hb5⟩; (have HB5 := Lib.hid (bl_step HB4.out hb5); have ROW5 := Lib.hid (ROW4.out.later hb5); clear c0 c1 c2 c3 c4 c5 c6 c7 c8 c9; obtain ⟨c0, c1, c2, c3, c4, c5, c6, c7, c8, c9⟩ := cells10 ROW5.out; clear hb5))
      | (go_at_call 188; (with_reducible refine (HU.out _).mono ?_); rintro e w3 ⟨rfl, hb3⟩; (have HB3 := Lib.hid (bl_step HB5.out hb3); clear hb3)))
    all_goals
      go_ret
      refine ⟨?_, by first | exact HB3.out | exact HB5.out | exact HB4.out | exact HB2.out⟩
      rw [HF.out]
      first | rfl | simp_all [z8, z5]
  · rw [hq0] at HW HF
    clear hq0
    cases hq1 : numB ⟨2, bits, win, reo, prx, pro, ppd, pby, mrx, qb⟩ 10 16
    · rw [hq1] at HNM HF
      clear hq1
      go_enter Try.func135, Try.ntmps135
      obtain ⟨c0, c1, c2, c3, c4, c5, c6, c7, c8, c9⟩ := cells10 ROW.out
      go_wp2_with (first
        | (go_at_call 185; (with_reducible refine (HW.out _ _ (row_at2 _ _ _ _ (size_1 _ _))).mono ?_); rintro e w2 ⟨rfl, hb2⟩; (have HB2 := Lib.hid (bl_step (bl_alloc HB0.out _) hb2); have ROW2 := Lib.hid ((ROW.out.more _).later hb2); clear c0 c1 c2 c3 c4 c5 c6 c7 c8 c9; obtain ⟨c0, c1, c2, c3, c4, c5, c6, c7, c8, c9⟩ := cells10 ROW2.out; clear hb2))
        | (go_at_call 186; (with_reducible refine (HNM.out _ _ (Row.made _ _ _)).mono ?_); rintro e w4 ⟨rfl, hb4⟩; (have HB4 := Lib.hid (bl_step (bl_alloc HB2.out _) hb4); have ROW4 := Lib.hid ((ROW2.out.more _).later hb4); clear c0 c1 c2 c3 c4 c5 c6 c7 c8 c9; obtain ⟨c0, c1, c2, c3, c4, c5, c6, c7, c8, c9⟩ := cells10 ROW4.out; clear hb4))
        | (go_at_call 187; (with_reducible refine (HAS.out _).mono ?_); rintro e w5 ⟨rfl, hb5⟩; (have HB5 := Lib.hid (bl_step HB4.out hb5); have ROW5 := Lib.hid (ROW4.out.later hb5); clear c0 c1 c2 c3 c4 c5 c6 c7 c8 c9; obtain ⟨c0, c1, c2, c3, c4, c5, c6, c7, c8, c9⟩ := cells10 ROW5.out; clear hb5))
        | (go_at_call 188; (with_reducible refine (HU.out _).mono ?_); rintro e w3 ⟨rfl, hb3⟩; (have HB3 := Lib.hid (bl_step HB5.out hb3); clear hb3)))
      all_goals
        go_ret
        refine ⟨?_, by first | exact HB3.out | exact HB5.out | exact HB4.out | exact HB2.out⟩
        rw [HF.out]
        first | rfl | simp_all [z8, z5]
    · rw [hq1] at HNM HF
      clear hq1
      cases hq2 : askB ⟨2, bits, win, reo, prx, pro, ppd, pby, mrx, qb⟩
      · rw [hq2] at HAS HF
        clear hq2
        go_enter Try.func135, Try.ntmps135
        obtain ⟨c0, c1, c2, c3, c4, c5, c6, c7, c8, c9⟩ := cells10 ROW.out
        go_wp2_with (first
          | (go_at_call 185; (with_reducible refine (HW.out _ _ (row_at2 _ _ _ _ (size_1 _ _))).mono ?_); rintro e w2 ⟨rfl, hb2⟩; (have HB2 := Lib.hid (bl_step (bl_alloc HB0.out _) hb2); have ROW2 := Lib.hid ((ROW.out.more _).later hb2); clear c0 c1 c2 c3 c4 c5 c6 c7 c8 c9; obtain ⟨c0, c1, c2, c3, c4, c5, c6, c7, c8, c9⟩ := cells10 ROW2.out; clear hb2))
          | (go_at_call 186; (with_reducible refine (HNM.out _ _ (Row.made _ _ _)).mono ?_); rintro e w4 ⟨rfl, hb4⟩; (have HB4 := Lib.hid (bl_step (bl_alloc HB2.out _) hb4); have ROW4 := Lib.hid ((ROW2.out.more _).later hb4); clear c0 c1 c2 c3 c4 c5 c6 c7 c8 c9; obtain ⟨c0, c1, c2, c3, c4, c5, c6, c7, c8, c9⟩ := cells10 ROW4.out; clear hb4))
          | (go_at_call 187; (with_reducible refine (HAS.out _).mono ?_); rintro e w5 ⟨rfl, hb5⟩; (have HB5 := Lib.hid (bl_step HB4.out hb5); have ROW5 := Lib.hid (ROW4.out.later hb5); clear c0 c1 c2 c3 c4 c5 c6 c7 c8 c9; obtain ⟨c0, c1, c2, c3, c4, c5, c6, c7, c8, c9⟩ := cells10 ROW5.out; clear hb5))
          | (go_at_call 188; (with_reducible refine (HU.out _).mono ?_); rintro e w3 ⟨rfl, hb3⟩; (have HB3 := Lib.hid (bl_step HB5.out hb3); clear hb3)))
        all_goals
          go_ret
          refine ⟨?_, by first | exact HB3.out | exact HB5.out | exact HB4.out | exact HB2.out⟩
          rw [HF.out]
          first | rfl | simp_all [z8, z5]
      · rw [hq2] at HAS HF
        clear hq2
        go_enter Try.func135, Try.ntmps135
        obtain ⟨c0, c1, c2, c3, c4, c5, c6, c7, c8, c9⟩ := cells10 ROW.out
        go_wp2_with (first
          | (go_at_call 185; (with_reducible refine (HW.out _ _ (row_at2 _ _ _ _ (size_1 _ _))).mono ?_); rintro e w2 ⟨rfl, hb2⟩; (have HB2 := Lib.hid (bl_step (bl_alloc HB0.out _) hb2); have ROW2 := Lib.hid ((ROW.out.more _).later hb2); clear c0 c1 c2 c3 c4 c5 c6 c7 c8 c9; obtain ⟨c0, c1, c2, c3, c4, c5, c6, c7, c8, c9⟩ := cells10 ROW2.out; clear hb2))
          | (go_at_call 186; (with_reducible refine (HNM.out _ _ (Row.made _ _ _)).mono ?_); rintro e w4 ⟨rfl, hb4⟩; (have HB4 := Lib.hid (bl_step (bl_alloc HB2.out _) hb4); have ROW4 := Lib.hid ((ROW2.out.more _).later hb4); clear c0 c1 c2 c3 c4 c5 c6 c7 c8 c9; obtain ⟨c0, c1, c2, c3, c4, c5, c6, c7, c8, c9⟩ := cells10 ROW4.out; clear hb4))
          | (go_at_call 187; (with_reducible refine (HAS.out _).mono ?_); rintro e w5 ⟨rfl, hb5⟩; (have HB5 := Lib.hid (bl_step HB4.out hb5); have ROW5 := Lib.hid (ROW4.out.later hb5); clear c0 c1 c2 c3 c4 c5 c6 c7 c8 c9; obtain ⟨c0, c1, c2, c3, c4, c5, c6, c7, c8, c9⟩ := cells10 ROW5.out; clear hb5))
          | (go_at_call 188; (with_reducible refine (HU.out _).mono ?_); rintro e w3 ⟨rfl, hb3⟩; (have HB3 := Lib.hid (bl_step HB5.out hb3); clear hb3)))
        all_goals
          go_ret
          refine ⟨?_, by first | exact HB3.out | exact HB5.out | exact HB4.out | exact HB2.out⟩
          rw [HF.out]
          first | rfl | simp_all [z8, z5]
set_option maxHeartbeats 800000 in
theorem pcheck9 (c : Cf) (w : World) (h0 : c.mode ≠ 0) (h1 : c.mode ≠ 1) (h2 : c.mode ≠ 2) : Calls Try.prog 135 #[.agg c.a] w fun e w' => e = .returned (.int .i64 (checkF c)) ∧ Below w.heap.size w w' := by
  have HF := Lib.hid (show checkF c = 9 by unfold checkF; rw [if_neg h0, if_neg h1, if_neg h2])
  obtain ⟨mode, bits, win, reo, prx, pro, ppd, pby, mrx, qb⟩ := c
  unfold Cf.a
  have ROW := Lib.hid (Row.made w 94 #[.int .i64 mode, .int .i64 bits, .int .i64 win, .int .i64 reo, .int .i64 prx, .int .i64 pro, .int .i64 ppd, .int .i64 pby, .int .i64 mrx, .int .i64 qb])
  have HB0 := Lib.hid (bl_alloc (Below.refl w.heap.size w) (.cells #[.int .i64 mode, .int .i64 bits, .int .i64 win, .int .i64 reo, .int .i64 prx, .int .i64 pro, .int .i64 ppd, .int .i64 pby, .int .i64 mrx, .int .i64 qb] 94))
  have HW := Lib.hid (fun W g' (h : Row W g' 257 #[.int .i64 qb, .int .i64 1, .int .i64 20000]) => pwithin_any (l := [(qb, 1, 20000)]) 1 1 W rfl (by omega) h rfl)
  have g0 : (mode == 0) = false := by simpa using h0
  have g1 : (mode == 1) = false := by simpa using h1
  have g2 : (mode == 2) = false := by simpa using h2
  clear h0 h1 h2
  go_enter Try.func135, Try.ntmps135
  obtain ⟨c0, c1, c2, c3, c4, c5, c6, c7, c8, c9⟩ := cells10 ROW.out
  go_wp2_with (go_at_call 185; (with_reducible refine (HW.out _ _ (row_at2 _ _ _ _ (size_1 _ _))).mono ?_); rintro e w2 ⟨rfl, hb2⟩; (have HB2 := Lib.hid (bl_step (bl_alloc HB0.out _) hb2); clear c0 c1 c2 c3 c4 c5 c6 c7 c8 c9; obtain ⟨c0, c1, c2, c3, c4, c5, c6, c7, c8, c9⟩ := cells10 ((ROW.out.more _).later hb2); clear hb2))
  go_ret
  exact ⟨by rw [HF.out]; rfl, HB2.out⟩
end Go.Proofs.Ytbcjfdhphpckfaa
namespace Go.Proofs.Ytbcjfdhphpckfaa
open Go.RowKit

theorem cells14 {w : World} {g : Nat} {t : TypeId} {a b c d e f h i j k l m n o : Value} (hr : Row w g t #[a, b, c, d, e, f, h, i, j, k, l, m, n, o]) : w.cell? ⟨g, 0, none⟩ = some a ∧ w.cell? ⟨g, 1, none⟩ = some b ∧ w.cell? ⟨g, 2, none⟩ = some c ∧ w.cell? ⟨g, 3, none⟩ = some d ∧ w.cell? ⟨g, 4, none⟩ = some e ∧ w.cell? ⟨g, 5, none⟩ = some f ∧ w.cell? ⟨g, 6, none⟩ = some h ∧ w.cell? ⟨g, 7, none⟩ = some i ∧ w.cell? ⟨g, 8, none⟩ = some j ∧ w.cell? ⟨g, 9, none⟩ = some k ∧ w.cell? ⟨g, 10, none⟩ = some l ∧ w.cell? ⟨g, 11, none⟩ = some m ∧ w.cell? ⟨g, 12, none⟩ = some n ∧ w.cell? ⟨g, 13, none⟩ = some o :=
  ⟨hr.read rfl, hr.read rfl, hr.read rfl, hr.read rfl, hr.read rfl, hr.read rfl, hr.read rfl, hr.read rfl, hr.read rfl, hr.read rfl, hr.read rfl, hr.read rfl, hr.read rfl, hr.read rfl⟩
theorem free14 {w : World} {g : Nat} {t : TypeId} {cs : Array Value} (hr : Row w g t cs) : w.frozen? ⟨g, 0, none⟩ = false ∧ w.frozen? ⟨g, 1, none⟩ = false ∧ w.frozen? ⟨g, 2, none⟩ = false ∧ w.frozen? ⟨g, 3, none⟩ = false ∧ w.frozen? ⟨g, 4, none⟩ = false ∧ w.frozen? ⟨g, 5, none⟩ = false ∧ w.frozen? ⟨g, 6, none⟩ = false ∧ w.frozen? ⟨g, 7, none⟩ = false ∧ w.frozen? ⟨g, 8, none⟩ = false ∧ w.frozen? ⟨g, 9, none⟩ = false ∧ w.frozen? ⟨g, 10, none⟩ = false ∧ w.frozen? ⟨g, 11, none⟩ = false ∧ w.frozen? ⟨g, 12, none⟩ = false ∧ w.frozen? ⟨g, 13, none⟩ = false :=
  ⟨hr.free _, hr.free _, hr.free _, hr.free _, hr.free _, hr.free _, hr.free _, hr.free _, hr.free _, hr.free _, hr.free _, hr.free _, hr.free _, hr.free _⟩
set_option maxHeartbeats 4000000 in
theorem row_set14 {w : World} {g : Nat} {t : TypeId} {a b c d e f h i j k l m n o a' b' c' d' e' f' h' i' j' k' l' m' n' o' : Value} (h : Row w g t #[a, b, c, d, e, f, h, i, j, k, l, m, n, o]) : Row ((((((((((((((w.setCell ⟨g, 0, none⟩ a').setCell ⟨g, 1, none⟩ b').setCell ⟨g, 2, none⟩ c').setCell ⟨g, 3, none⟩ d').setCell ⟨g, 4, none⟩ e').setCell ⟨g, 5, none⟩ f').setCell ⟨g, 6, none⟩ h').setCell ⟨g, 7, none⟩ i').setCell ⟨g, 8, none⟩ j').setCell ⟨g, 9, none⟩ k').setCell ⟨g, 10, none⟩ l').setCell ⟨g, 11, none⟩ m').setCell ⟨g, 12, none⟩ n').setCell ⟨g, 13, none⟩ o') g t #[a', b', c', d', e', f', h', i', j', k', l', m', n', o'] := by
  have h2 := ((((((((((((((h.written 0 a').written 1 b').written 2 c').written 3 d').written 4 e').written 5 f').written 6 h').written 7 i').written 8 j').written 9 k').written 10 l').written 11 m').written 12 n').written 13 o')
  simpa using h2
set_option maxHeartbeats 4000000 in
theorem below_set14 {w0 w : World} {B g : Nat} (h : Below B w0 w) (hg : B ≤ g) (a' b' c' d' e' f' h' i' j' k' l' m' n' o' : Value) : Below B w0 ((((((((((((((w.setCell ⟨g, 0, none⟩ a').setCell ⟨g, 1, none⟩ b').setCell ⟨g, 2, none⟩ c').setCell ⟨g, 3, none⟩ d').setCell ⟨g, 4, none⟩ e').setCell ⟨g, 5, none⟩ f').setCell ⟨g, 6, none⟩ h').setCell ⟨g, 7, none⟩ i').setCell ⟨g, 8, none⟩ j').setCell ⟨g, 9, none⟩ k').setCell ⟨g, 10, none⟩ l').setCell ⟨g, 11, none⟩ m').setCell ⟨g, 12, none⟩ n').setCell ⟨g, 13, none⟩ o') := ((((((((((((((h.setCell (p := ⟨g, 0, none⟩) hg a').setCell (p := ⟨g, 1, none⟩) hg b').setCell (p := ⟨g, 2, none⟩) hg c').setCell (p := ⟨g, 3, none⟩) hg d').setCell (p := ⟨g, 4, none⟩) hg e').setCell (p := ⟨g, 5, none⟩) hg f').setCell (p := ⟨g, 6, none⟩) hg h').setCell (p := ⟨g, 7, none⟩) hg i').setCell (p := ⟨g, 8, none⟩) hg j').setCell (p := ⟨g, 9, none⟩) hg k').setCell (p := ⟨g, 10, none⟩) hg l').setCell (p := ⟨g, 11, none⟩) hg m').setCell (p := ⟨g, 12, none⟩) hg n').setCell (p := ⟨g, 13, none⟩) hg o')
theorem Try.infoun : (Try.prog.info? 203).map (·.size) = some 14 := by kernel_rfl
theorem Try.underun : (Try.prog.underlying 203).map (fun d => match d with | .struct _ => true | _ => false) = some true := by kernel_rfl
theorem underun_parts : ∃ fs, Try.prog.underlying 203 = some (.struct fs) := by
  obtain ⟨d, hd, h⟩ := Option.map_eq_some_iff.1 Try.underun
  cases d with
  | struct fs => exact ⟨fs, hd⟩
  | _ => simp at h
def kindF (mode : Int) (bs : List Nat) : Int := if mode = 0 then 0 else if mode = 1 then 1 else if bs.length = 0 then 2 else if bs.getD 0 0 < 128 then 3 else 2
set_option maxHeartbeats 1600000 in
theorem pkind_any {A : Option Addr} {bs : List Nat} (mode : Int) (n cap : Nat) (w : World) (hn : bs.length = n) (hs : Src w A (bts bs)) (hb : ∀ b ∈ bs, b < 256) :
    Calls Try.prog 189 #[.int .i64 mode, .slice A n cap] w fun e w' => e = .returned (.int .i64 (kindF mode bs)) ∧ w = w' := by
  by_cases h0 : mode = 0
  · have HX := Lib.hid (show kindF mode bs = 0 by unfold kindF; rw [if_pos h0])
    have h0' : (mode == 0) = true := by simpa using h0
    clear h0 hs hb hn
    go_enter Try.func189, Try.ntmps189
    go_wp2
    refine st_scope_through 0 (fun _ _ => False) (fun _ _ => 0) rfl (fun _ => ?_) (fun _ _ h => h.elim)
    go_wp2
    try simp only [Exit.jump]
    go_ret
    exact ⟨by rw [HX.out]; rfl, rfl⟩
  · have h0' : (mode == 0) = false := by simpa using h0
    by_cases h1 : mode = 1
    · have HX := Lib.hid (show kindF mode bs = 1 by unfold kindF; rw [if_neg h0, if_pos h1])
      have h1' : (mode == 1) = true := by simpa using h1
      clear h0 h1 hs hb hn
      go_enter Try.func189, Try.ntmps189
      go_wp2
      refine st_scope_through 0 (fun _ _ => False) (fun _ _ => 0) rfl (fun _ => ?_) (fun _ _ h => h.elim)
      go_wp2
      try simp only [Exit.jump]
      go_ret
      exact ⟨by rw [HX.out]; rfl, rfl⟩
    · have h1' : (mode == 1) = false := by simpa using h1
      cases bs with
      | nil =>
        have HX := Lib.hid (show kindF mode [] = 2 by unfold kindF; rw [if_neg h0, if_neg h1]; rfl)
        simp only [List.length_nil] at hn
        subst hn
        clear h0 h1 hs hb
        go_enter Try.func189, Try.ntmps189
        go_wp2
        refine st_scope_through 0 (fun a' w' => Fr [none, none, none, none, none, none, none, none, none, none, none, none, none, none, none, none, none, none, none, none, none] a' ∧ w = w') (fun _ _ => 0) rfl (fun hrest => ?_) ?_
        · go_wp2
          go_step3
          refine ⟨rfl, ?_, rfl⟩
          simp only [Fr, Holes]
          repeat apply Exists.intro
          rfl
        · rintro a' w' ⟨hfr, rfl⟩
          simp only [Fr, Holes] at hfr
          repeat (obtain ⟨_, hfr⟩ := hfr)
          go_wp2
          try simp only [Exit.jump]
          go_ret
          exact ⟨by rw [HX.out]; rfl, rfl⟩
      | cons b r =>
        have hb0 : b < 256 := hb b (List.mem_cons_self ..)
        obtain ⟨ad, rfl, hc⟩ := hs (by simp [bts])
        have c0 : w.cell? (ad.add 0) = some (.int .u8 b) := hc 0 _ rfl
        have hn0 : 0 < n := by simp at hn; omega
        have hne : (n == 0) = false := by simp; omega
        have e0 : ad.add 0 = ad := by simp [Addr.add]
        rw [e0] at c0
        have HXX := Lib.hid (show kindF mode (b :: r) = if b < 128 then 3 else 2 by unfold kindF; rw [if_neg h0, if_neg h1]; simp)
        clear h0 h1 hc hb hn e0
        by_cases hlt : b < 128
        · have g1 : ((b : Int) / 2 ^ 7 == 0) = true := by simp; omega
          rw [if_pos hlt] at HXX
          go_enter Try.func189, Try.ntmps189
          go_wp2
          refine st_scope_through 0 (fun _ _ => False) (fun _ _ => 0) rfl (fun _ => ?_) (fun _ _ h => h.elim)
          go_wp2
          try simp only [Exit.jump]
          go_ret
          exact ⟨by rw [HXX.out]; rfl, rfl⟩
        · have g1 : ((b : Int) / 2 ^ 7 == 0) = false := by simp; omega
          rw [if_neg hlt] at HXX
          go_enter Try.func189, Try.ntmps189
          go_wp2
          refine st_scope_through 0 (fun _ _ => False) (fun _ _ => 0) rfl (fun _ => ?_) (fun _ _ h => h.elim)
          go_wp2
          go_step3
          rename_i Q9 K9 h9
          refine h9 _ _ ?_
          go_wp2
          try simp only [Exit.jump]
          go_ret
          exact ⟨by rw [HXX.out]; rfl, rfl⟩
theorem pcheck_any (c : Cf) (w : World) : Calls Try.prog 135 #[.agg c.a] w fun e w' => e = .returned (.int .i64 (checkF c)) ∧ Below w.heap.size w w' := by
  obtain ⟨mode, bits, win, reo, prx, pro, ppd, pby, mrx, qb⟩ := c
  by_cases h0 : mode = 0
  · subst h0; exact pcheck0 bits win reo prx pro ppd pby mrx qb w
  · by_cases h1 : mode = 1
    · subst h1; exact pcheck1 bits win reo prx pro ppd pby mrx qb w
    · by_cases h2 : mode = 2
      · subst h2; exact pcheck2 bits win reo prx pro ppd pby mrx qb w
      · exact pcheck9 _ w h0 h1 h2
end Go.Proofs.Ytbcjfdhphpckfaa
namespace Go.Proofs.Ytbcjfdhphpckfaa
open Go.RowKit

def usF (mode : Int) : Cf := if mode = 0 then ⟨0, 0, 0, 0, 0, 0, 0, 0, 0, 5000⟩ else if mode = 1 then ⟨1, 5, 16, 4, 0, 0, 0, 0, 0, 5000⟩ else if mode = 2 then ⟨2, 10, 512, 4, 8, 3, 4, 500, 4, 5000⟩ else ⟨0, 0, 0, 0, 0, 0, 0, 0, 0, 0⟩
set_option maxRecDepth 100000 in
set_option maxHeartbeats 1600000 in
theorem pusual_any (mode : Int) (w : World) : Calls Try.prog 140 #[.int .i64 mode] w fun e w' => e = .returned (.agg (usF mode).a) ∧ Below w.heap.size w w' := by
  obtain ⟨dd, hdd⟩ := undercf_parts
  by_cases h0 : mode = 0
  · have g0 : (mode == 0) = true := by simpa using h0
    have HU := Lib.hid (show (usF mode).a = #[.int .i64 0, .int .i64 0, .int .i64 0, .int .i64 0, .int .i64 0, .int .i64 0, .int .i64 0, .int .i64 0, .int .i64 0, .int .i64 5000] by unfold usF; rw [if_pos h0]; rfl)
    rw [HU.out]
    clear h0
    go_enter Try.func140, Try.ntmps140
    go_wp2
    refine bodyPost_ret (results_cell_row rfl _ _ w.heap.size 94 #[.int .i64 0, .int .i64 0, .int .i64 0, .int .i64 0, .int .i64 0, .int .i64 0, .int .i64 0, .int .i64 0, .int .i64 0, .int .i64 5000] (0, 0) (.struct dd) rfl (Row.made _ _ _) hdd rfl Try.infocf) rfl ?_
    exact ⟨rfl, bl_alloc (Below.refl _ _) _⟩
  · have g0 : (mode == 0) = false := by simpa using h0
    by_cases h1 : mode = 1
    · have g1 : (mode == 1) = true := by simpa using h1
      have HU := Lib.hid (show (usF mode).a = #[.int .i64 1, .int .i64 5, .int .i64 16, .int .i64 4, .int .i64 0, .int .i64 0, .int .i64 0, .int .i64 0, .int .i64 0, .int .i64 5000] by unfold usF; rw [if_neg h0, if_pos h1]; rfl)
      rw [HU.out]
      clear h0 h1
      go_enter Try.func140, Try.ntmps140
      go_wp2
      refine bodyPost_ret (results_cell_row rfl _ _ w.heap.size 94 #[.int .i64 1, .int .i64 5, .int .i64 16, .int .i64 4, .int .i64 0, .int .i64 0, .int .i64 0, .int .i64 0, .int .i64 0, .int .i64 5000] (0, 0) (.struct dd) rfl (Row.made _ _ _) hdd rfl Try.infocf) rfl ?_
      exact ⟨rfl, bl_alloc (Below.refl _ _) _⟩
    · have g1 : (mode == 1) = false := by simpa using h1
      by_cases h2 : mode = 2
      · have g2 : (mode == 2) = true := by simpa using h2
        have HU := Lib.hid (show (usF mode).a = #[.int .i64 2, .int .i64 10, .int .i64 512, .int .i64 4, .int .i64 8, .int .i64 3, .int .i64 4, .int .i64 500, .int .i64 4, .int .i64 5000] by unfold usF; rw [if_neg h0, if_neg h1, if_pos h2]; rfl)
        rw [HU.out]
        clear h0 h1 h2
        go_enter Try.func140, Try.ntmps140
        go_wp2
        refine bodyPost_ret (results_cell_row rfl _ _ w.heap.size 94 #[.int .i64 2, .int .i64 10, .int .i64 512, .int .i64 4, .int .i64 8, .int .i64 3, .int .i64 4, .int .i64 500, .int .i64 4, .int .i64 5000] (0, 0) (.struct dd) rfl (Row.made _ _ _) hdd rfl Try.infocf) rfl ?_
        exact ⟨rfl, bl_alloc (Below.refl _ _) _⟩
      · have g2 : (mode == 2) = false := by simpa using h2
        have HU := Lib.hid (show (usF mode).a = #[.int .i64 0, .int .i64 0, .int .i64 0, .int .i64 0, .int .i64 0, .int .i64 0, .int .i64 0, .int .i64 0, .int .i64 0, .int .i64 0] by unfold usF; rw [if_neg h0, if_neg h1, if_neg h2]; rfl)
        rw [HU.out]
        clear h0 h1 h2
        go_enter Try.func140, Try.ntmps140
        go_wp2
        refine bodyPost_ret (results_cell_row rfl _ _ w.heap.size 94 #[.int .i64 0, .int .i64 0, .int .i64 0, .int .i64 0, .int .i64 0, .int .i64 0, .int .i64 0, .int .i64 0, .int .i64 0, .int .i64 0] (0, 0) (.struct dd) rfl (Row.made _ _ _) hdd rfl Try.infocf) rfl ?_
        exact ⟨rfl, bl_alloc (Below.refl _ _) _⟩
end Go.Proofs.Ytbcjfdhphpckfaa
namespace Go.Proofs.Ytbcjfdhphpckfaa
open Go.RowKit


theorem longest_b (b : Bool) (w : World) : Calls Try.prog 250 #[.bool b] w fun e w' => e = .returned (.int .i64 (if b then 4000 else 2047)) ∧ w = w' := by
  cases b
  · go_enter Try.func250, Try.ntmps250
    go_wp2
    go_ret
    exact ⟨rfl, rfl⟩
  · go_enter Try.func250, Try.ntmps250
    go_wp2
    go_ret
    exact ⟨rfl, rfl⟩

/-- a field's length is added, if it may be -/
def Size1 (n k m ps : Nat) (sz : Int) (w : World) (e : Ending) (w' : World) : Prop :=
  (okAt n k m = true ∧ e = .returned (.bool true) ∧ Row w' ps 3 #[.int .i64 (sz + m)] ∧ Only (fun b => b = ps) w w') ∨ (okAt n k m = false ∧ e = .returned (.bool false) ∧ w = w')
set_option maxRecDepth 100000 in
set_option maxHeartbeats 1600000 in
theorem size1_any {pl ps n cap : Nat} {A Af : Option Addr} {sz : Int} (k m c : Nat) (w : World) (hl : Row w pl 29 #[.slice A n cap]) (hs : Row w ps 3 #[.int .i64 sz]) (hk : k < n) (hn : n ≤ 24) (h0 : 0 ≤ sz) (h1 : sz ≤ 1000000) (hm : m ≤ 9223372036854775807) :
    Calls Try.prog 249 #[.int .i64 k, .slice Af m c, .pointer (some ⟨pl, 0, none⟩), .pointer (some ⟨ps, 0, none⟩)] w (Size1 n k m ps sz w) := by
  have hcl : w.cell? ⟨pl, 0, none⟩ = some (.slice A n cap) := hl.read rfl
  have hcs : w.cell? ⟨ps, 0, none⟩ = some (.int .i64 sz) := hs.read rfl
  have hfs := hs.free 0
  have HROW := Lib.hid (hs.written 0 (.int .i64 (sz + m)))
  have HON := Lib.hid ((Only.refl (fun b => b = ps) w).set (p := ⟨ps, 0, none⟩) (.inl rfl) (.int .i64 (sz + m)))
  clear hs hl
  rcases Nat.eq_zero_or_pos m with hm0 | hm0
  · have HF := Lib.hid (show okAt n k m = false by unfold okAt; rw [decide_eq_false (by omega)]; rfl)
    subst hm0
    go_enter Try.func249, Try.ntmps249
    go_wp2
    go_ret
    exact .inr ⟨HF.out, rfl, rfl⟩
  · have hm1 : ¬ (m : Int) < 1 := by omega
    have hn1 : (1 : Int) ≤ n := by omega
    by_cases hl : k + 1 = n
    · have hb : ((k : Int) == (n : Int) - 1) = true := by simp; omega
      rcases Nat.lt_or_ge 4000 m with h4 | h4
      · have HF := Lib.hid (show okAt n k m = false by unfold okAt; rw [if_pos hl, decide_eq_false (show ¬ m ≤ 4000 by omega)]; simp)
        have h4' : (4000 : Int) < m := by omega
        clear hl
        go_enter Try.func249, Try.ntmps249
        go_wp2_with (go_at_call 250; refine (longest_b true _).mono ?_; rintro e w1 ⟨rfl, rfl⟩)
        go_ret
        exact .inr ⟨HF.out, rfl, rfl⟩
      · have HF := Lib.hid (show okAt n k m = true by unfold okAt; rw [if_pos hl, decide_eq_true h4, decide_eq_true (show 1 ≤ m by omega)]; rfl)
        have h4' : ¬ (4000 : Int) < m := by omega
        clear hl
        go_enter Try.func249, Try.ntmps249
        go_wp2_with (go_at_call 250; refine (longest_b true _).mono ?_; rintro e w1 ⟨rfl, rfl⟩)
        go_ret
        exact .inl ⟨HF.out, rfl, HROW.out, HON.out⟩
    · have hb : ((k : Int) == (n : Int) - 1) = false := by simp; omega
      rcases Nat.lt_or_ge 2047 m with h4 | h4
      · have HF := Lib.hid (show okAt n k m = false by unfold okAt; rw [if_neg hl, decide_eq_false (show ¬ m ≤ 2047 by omega)]; simp)
        have h4' : (2047 : Int) < m := by omega
        clear hl
        go_enter Try.func249, Try.ntmps249
        go_wp2_with (go_at_call 250; refine (longest_b false _).mono ?_; rintro e w1 ⟨rfl, rfl⟩)
        go_ret
        exact .inr ⟨HF.out, rfl, rfl⟩
      · have HF := Lib.hid (show okAt n k m = true by unfold okAt; rw [if_neg hl, decide_eq_true h4, decide_eq_true (show 1 ≤ m by omega)]; rfl)
        have h4' : ¬ (2047 : Int) < m := by omega
        clear hl
        go_enter Try.func249, Try.ntmps249
        go_wp2_with (go_at_call 250; refine (longest_b false _).mono ?_; rintro e w1 ⟨rfl, rfl⟩)
        go_ret
        exact .inl ⟨HF.out, rfl, HROW.out, HON.out⟩

/-- .. while fields are gone through -/
structure SizeInv (B pl ps n cap : Nat) (A : Option Addr) (sz : Int) (ls : List Nat) (w : World) (k : Nat) (w' : World) : Prop where
  box : Row w' pl 29 #[.slice A n cap]
  sum : Row w' ps 3 #[.int .i64 (sz + sumTo ls k)]
  ok : okTo ls k = true
  below : Below B w w'
theorem only_below {B : Nat} {w w' : World} {p : Nat} (h : Only (fun b => b = p) w w') (hp : B ≤ p) (hB : B ≤ w.heap.size) : Below B w w' := h.below hB (fun k hk hk' => by omega)
theorem each_size {A : Option Addr} {L : List RowB} {B pl ps n cap : Nat} {sz : Int} (w : World) (hL : L.length = n) (hn : n ≤ 24) (hs : ∀ W, Below B w W → RSrc W A L) (hm : ∀ m ∈ lens L, m ≤ 9223372036854775807) (hz0 : 0 ≤ sz) (hz1 : sz ≤ 46)
    (hB : B ≤ w.heap.size) (hps : B ≤ ps) (hne : ps ≠ pl) (h1 : Row w pl 29 #[.slice A n cap]) (h2 : Row w ps 3 #[.int .i64 sz]) :
    Calls Try.prog 214 #[.slice A n cap, .func (.func 249) #[] #[.pointer (some ⟨pl, 0, none⟩), .pointer (some ⟨ps, 0, none⟩)]] w fun e w' =>
      (e = .returned (.bool true) ∧ SizeInv B pl ps n cap A sz (lens L) w n w') ∨ (e = .returned (.bool false) ∧ okTo (lens L) n = false ∧ Below B w w') := by
  have hll : (lens L).length = n := by rw [length_lens, hL]
  refine each_any (K := 249) (caps := #[.pointer (some ⟨pl, 0, none⟩), .pointer (some ⟨ps, 0, none⟩)]) n cap (fun a W => enters Try.func249 (by kernel_rfl) rfl a W)
        (SizeInv B pl ps n cap A sz (lens L) w) (fun W' => okTo (lens L) n = false ∧ Below B w W') w hL (by omega)
        ⟨h1, by rw [sumTo_zero]; simpa using h2, okTo_zero _, Below.refl _ _⟩ (fun k W' hi => hs W' hi.below)
        (fun k W' r hr hi => ?_)
  have hk : k < n := by rw [← hL]; exact (List.getElem?_eq_some_iff.1 hr).1
  have hm9 : r.bs.length ≤ 9223372036854775807 := hm _ (List.mem_of_getElem? (lens_at hr))
  have hst := sumTo_bound hi.ok (by rw [hll]; omega)
  have hB' : B ≤ W'.heap.size := Nat.le_trans hB hi.below.size
  refine (size1_any (Af := r.A) (c := r.cap) k r.bs.length W' hi.box hi.sum hk hn (by omega) (by omega) hm9).mono ?_
  rintro e W2 (⟨g1, rfl, g2, g3⟩ | ⟨g1, rfl, rfl⟩)
  · refine .inl ⟨rfl, hi.box.only g3 (fun h => hne h.symm), ?_, ?_, hi.below.trans (only_below g3 hps hB')⟩
    · rw [sumTo_succ (lens_at hr)]
      have e9 : sz + ((sumTo (lens L) k + r.bs.length : Nat) : Int) = sz + (sumTo (lens L) k : Int) + (r.bs.length : Int) := by omega
      rw [e9]
      exact g2
    · rw [okTo_at (lens_at hr) hi.ok, hll, g1]
  · refine .inr ⟨rfl, ?_, hi.below⟩
    refine okTo_later (k := k + 1) ?_ (by omega)
    rw [okTo_at (lens_at hr) hi.ok, hll, g1]

set_option maxRecDepth 100000 in
set_option maxHeartbeats 1600000 in
theorem fsize_any {A : Option Addr} {L : List RowB} (n cap : Nat) (wd : Int) (w : World) (hL : L.length = n) (hn : n ≤ 9223372036854775807) (hs : RSrc w A L) (hm : ∀ m ∈ lens L, m ≤ 9223372036854775807) :
    Calls Try.prog 211 #[.slice A n cap, .int .i64 wd] w fun e w' => e = .returned (.int .i64 (szF (lens L) wd)) ∧ Below w.heap.size w w' := by
  have hll : (lens L).length = n := by rw [length_lens, hL]
  rcases Nat.eq_zero_or_pos n with h0 | h0
  · have HF := Lib.hid (show szF (lens L) wd = 0 by unfold szF; rw [if_neg (by omega)])
    subst h0
    clear hL hll hs hm
    go_enter Try.func211, Try.ntmps211
    go_wp2
    go_ret
    exact ⟨by rw [HF.out]; rfl, bl_alloc (Below.refl _ _) _⟩
  · have h0' : ¬ (n : Int) < 1 := by omega
    rcases Nat.lt_or_ge 24 n with h1 | h1
    · have HF := Lib.hid (show szF (lens L) wd = 0 by unfold szF; rw [if_neg (by omega)])
      have h1' : (24 : Int) < n := by omega
      clear hL hll hs hm
      go_enter Try.func211, Try.ntmps211
      go_wp2
      go_ret
      exact ⟨by rw [HF.out]; rfl, bl_alloc (Below.refl _ _) _⟩
    · have h1' : ¬ (24 : Int) < n := by omega
      have HF := Lib.hid (show szF (lens L) wd = if okTo (lens L) n = true then sizeF ((n : Int) - 1) wd + (lens L).sum else 0 by
        unfold szF
        rw [hll]
        by_cases h9 : okTo (lens L) n = true
        · rw [if_pos ⟨by omega, by omega, h9⟩, if_pos h9]
        · rw [if_neg (fun h => h9 h.2.2), if_neg h9])
      have HZ := Lib.hid (fun W => size_any ((n : Int) - 1) wd W)
      have hz := sizeF_nonneg ((n : Int) - 1) wd
      generalize sizeF ((n : Int) - 1) wd = sz at *
      obtain ⟨hz0, hz1⟩ := hz
      have HSUM := Lib.hid (show sumTo (lens L) n = (lens L).sum by rw [← hll]; exact sumTo_all _)
      have HE := Lib.hid (fun W hb (x1 : Row W w.heap.size 29 #[.slice A n cap]) x2 => each_size (B := w.heap.size) (pl := w.heap.size) (ps := w.heap.size + 1) (cap := cap) (sz := sz) W hL h1 (fun W' hb' => hs.later (Below.trans hb hb')) hm hz0 hz1 (Below.size hb) (by omega) (by omega) x1 x2)
      clear hL hll hs hm
      go_enter Try.func211, Try.ntmps211
      go_wp2_with (first
        | (go_at_call 121; refine (HZ.out _).mono ?_; rintro e w1 ⟨rfl, rfl⟩)
        | (go_at_call 214; refine (HE.out _ ?b ?x1 ?x2).mono ?_; rotate_left 3; rintro e w2 (⟨rfl, hi⟩ | ⟨rfl, hi, hb⟩); (have hc := hi.sum.read (i := 0) rfl; have HI := Lib.hid hi; clear hi); rotate_left 1; (have HI := Lib.hid hi; have HB := Lib.hid hb; clear hi hb); rotate_left 1))
      case b => exact bl_alloc (bl_alloc (Below.refl _ _) _) _
      case x1 => exact (Row.made _ _ _).more _
      case x2 => exact (by simpa using Row.made (w.alloc (.cells #[.slice A n cap] 29)) 3 #[.int .i64 sz])
      · go_ret
        refine ⟨?_, (bl_alloc (bl_alloc (Below.refl _ _) _) _).trans HI.out.below⟩
        rw [HF.out, if_pos HI.out.ok, ← HSUM.out]
        rfl
      · go_ret
        refine ⟨?_, (bl_alloc (bl_alloc (Below.refl _ _) _) _).trans HB.out⟩
        rw [HF.out, if_neg (by rw [HI.out]; decide)]
        rfl

theorem conv_src {w : World} {A : Option Addr} {l : List Nat} (n c : Nat) (hl : l.length = n) (h : Src w A (bts l)) (hb : ∀ b ∈ l, b < 256) : (convert 34 9 (.slice A n c)).run Try.prog w = .ok (.string (strOf l)) w := by
  subst hl
  cases A with
  | none =>
    have hl : l.length = 0 := by
      rcases Nat.eq_zero_or_pos l.length with h0 | h0
      · exact h0
      · obtain ⟨ad, h1, _⟩ := h (by rw [length_bts]; exact h0)
        cases h1
    have e : l = [] := List.eq_nil_of_length_eq_zero hl
    subst e
    exact run_convert_bytes_nil w 34 5 Try.underlying34 Try.underlying5 0 c 9 Try.underlying9
  | some ad =>
    have hx := run_convert_bytes_back (P := Try.prog) w 34 9 5 ad c (l.map UInt8.ofNat) Try.underlying34 Try.underlying5 Try.underlying9 (fun j hj => by
      have hj' : j < l.length := by simpa using hj
      have h1 : (bts l)[j]? = some (.int .u8 (l[j] : Nat)) := bts_at (List.getElem?_eq_getElem hj')
      obtain ⟨ad', h2, h3⟩ := h (by rw [length_bts]; omega)
      injection h2 with h2
      subst h2
      rw [h3 j _ h1, List.getElem_map]
      have h4 : (UInt8.ofNat l[j]).toNat = l[j] := UInt8.toNat_ofNat_of_lt' (hb _ (List.getElem_mem hj'))
      rw [h4])
    rw [List.length_map] at hx
    exact hx
theorem strOf_inj {a b : List Nat} (ha : ∀ x ∈ a, x < 256) (hb : ∀ x ∈ b, x < 256) (h : strOf a = strOf b) : a = b := by
  unfold strOf at h
  injection h with h
  have h1 : a.map UInt8.ofNat = b.map UInt8.ofNat := by
    have := congrArg Array.toList h
    simpa using this
  have h2 := congrArg (List.map UInt8.toNat) h1
  rw [List.map_map, List.map_map] at h2
  have e : ∀ l : List Nat, (∀ x ∈ l, x < 256) → l.map (UInt8.toNat ∘ UInt8.ofNat) = l := fun l hl => by
    have : l.map (UInt8.toNat ∘ UInt8.ofNat) = l.map id := List.map_congr_left fun x hx => UInt8.toNat_ofNat_of_lt' (hl x hx)
    rw [this, List.map_id]
  rw [e a ha, e b hb] at h2
  exact h2
theorem strOf_list (a : List Nat) : (strOf a).toList = a.map UInt8.ofNat := ByteArray.toList_mk _
theorem strOf_beq {a b : List Nat} (ha : ∀ x ∈ a, x < 256) (hb : ∀ x ∈ b, x < 256) : ((strOf a).toList == (strOf b).toList) = decide (a = b) := by
  rw [Bool.eq_iff_iff, decide_eq_true_iff, beq_iff_eq]
  refine ⟨fun h => strOf_inj ha hb ?_, fun h => by rw [h]⟩
  rw [strOf_list, strOf_list] at h
  unfold strOf
  rw [h]
/-- fields are the same so far -/
def sameTo (a b : List (List Nat)) (k : Nat) : Prop := ∀ j, j < k → a[j]? = b[j]?
theorem texts_at {L : List RowB} {k : Nat} {r : RowB} (h : L[k]? = some r) : (texts L)[k]? = some r.bs := by simp [texts, h]
theorem length_texts (L : List RowB) : (texts L).length = L.length := by simp [texts]
theorem sameTo_all {a b : List (List Nat)} (hl : a.length = b.length) (h : sameTo a b a.length) : a = b := by
  apply List.ext_getElem?
  intro j
  rcases Nat.lt_or_ge j a.length with h1 | h1
  · exact h j h1
  · rw [List.getElem?_eq_none h1, List.getElem?_eq_none (by omega)]
theorem ret_b {a b : Bool} (h : a = b) : Ending.returned (.bool a) = .returned (.bool b) := by rw [h]
end Go.Proofs.Ytbcjfdhphpckfaa
namespace Go.Proofs.Ytbcjfdhphpckfaa
open Go.RowKit

theorem cutmay_any (x : Int) (w : World) : Calls Try.prog 119 #[.int .i64 x] w fun e w' => e = .returned (.bool (decide (0 < sizeF 1 x))) ∧ w = w' := by
  have HZ := Lib.hid (fun W => size_any 1 x W)
  go_enter Try.func119, Try.ntmps119
  go_wp2_with (go_at_call 121; (with_reducible refine (HZ.out _).mono ?_); rintro e w1 ⟨rfl, rfl⟩)
  go_ret
  exact ⟨rfl, rfl⟩
theorem lens_take_succ {L : List RowB} {k : Nat} {r : RowB} (h : L[k]? = some r) : (lens (L.take (k + 1))).sum = (lens (L.take k)).sum + r.bs.length := by
  obtain ⟨h1, h2⟩ := List.getElem?_eq_some_iff.1 h
  rw [List.take_add_one, h]
  simp [lens]
theorem lens_take_le (L : List RowB) (k : Nat) : (lens (L.take k)).sum ≤ (lens L).sum := by
  have h := List.take_append_drop k L
  have e : (lens L).sum = (lens (L.take k)).sum + (lens (L.drop k)).sum := by
    rw [← List.sum_append]
    unfold lens
    rw [← List.map_append, h]
  omega
set_option maxRecDepth 100000 in
set_option maxHeartbeats 1600000 in
theorem cutsum_any {A : Option Addr} {L : List RowB} (n cap : Nat) (w : World) (hL : L.length = n) (hn : n ≤ 1000) (hs : RSrc w A L) (hsum : (lens L).sum ≤ 1000000) :
    Calls Try.prog 120 #[.slice A n cap] w fun e w' => e = .returned (.int .i64 ((lens L).sum : Nat)) ∧ w = w' := by
  have HS := Lib.hid hs
  have HL := Lib.hid hL
  have HM := Lib.hid (fun k => Nat.le_trans (lens_take_le L k) hsum)
  have HT := Lib.hid (fun (k : Nat) (r : RowB) (h : L[k]? = some r) => lens_take_succ h)
  have HA := Lib.hid (show (lens (L.take n)).sum = (lens L).sum by rw [← hL, List.take_length])
  clear hs hL hsum
  go_enter Try.func120, Try.ntmps120
  go_wp2
  go_loopw [3, 8] (fun s i wr => ∃ k : Nat, k ≤ n ∧ s = .int .i64 ((lens (L.take k)).sum : Nat) ∧ i = .int .i64 k ∧ w = wr) (fun _ i _ => n - (intOf i).toNat)
  case atStart => exact ⟨0, by omega, by simp [lens], rfl, rfl⟩
  case round =>
    obtain ⟨k, hk, rfl, rfl, rfl⟩ := hrel
    by_cases hlt : k < n
    · obtain ⟨ad, rfl, hc⟩ := HS.out (by rw [HL.out]; omega)
      obtain ⟨r, hr⟩ : ∃ r, L[k]? = some r := ⟨_, List.getElem?_eq_getElem (by rw [HL.out]; exact hlt)⟩
      have f0 := (hc k r hr).1
      have HT1 := Lib.hid (HT.out k r hr)
      have b1 := HM.out (k + 1)
      have b0 := HM.out k
      rw [HT1.out] at b1
      have hkI : (k : Int) < (n : Int) := by omega
      unfold RowB.v at f0
      generalize (lens (L.take k)).sum = s at *
      generalize hbl : r.bs.length = bl at *
      clear hc hr
      go_wp2
      go_roundw
      case rel => exact ⟨k + 1, by omega, by rw [HT1.out]; go_num, by go_num, by first | rfl | trivial⟩
      case measure => simp [intOf]; omega
    · have hkn : k = n := by omega
      subst hkn
      have b0 := HM.out k
      rw [HA.out] at *
      go_wp2
      go_ret
      exact ⟨rfl, rfl⟩
/-- how many bytes of what waits the field behind others has -/
def nextF (wl : Nat) (ls : List Nat) (room x : Int) : Int := if 24 ≤ ls.length then 0 else min (wl : Int) (room - (ls.sum : Int) - sizeF ls.length x)
set_option maxRecDepth 100000 in
set_option maxHeartbeats 1600000 in
theorem cutnext_any {A W : Option Addr} {L : List RowB} (wl wc n cap : Nat) (room x : Int) (w : World) (hL : L.length = n) (hn : n ≤ 1000) (hr0 : 0 ≤ room) (hr1 : room ≤ 4000) (hs : RSrc w A L) (hsum : (lens L).sum ≤ 1000000) :
    Calls Try.prog 115 #[.slice W wl wc, .slice A n cap, .int .i64 room, .int .i64 x] w fun e w' => e = .returned (.int .i64 (nextF wl (lens L) room x)) ∧ w = w' := by
  have HSU := Lib.hid (cutsum_any n cap w hL hn hs hsum)
  have HSZ := Lib.hid (fun W => size_any n x W)
  have hz : 0 ≤ sizeF n x ∧ sizeF n x ≤ 46 := sizeF_nonneg n x
  have HLL := Lib.hid (show (lens L).length = n by rw [length_lens, hL])
  by_cases h24 : 24 ≤ n
  · have HF := Lib.hid (show nextF wl (lens L) room x = 0 by unfold nextF; rw [if_pos (by rw [HLL.out]; exact h24)])
    clear hs hsum hL
    go_enter Try.func115, Try.ntmps115
    go_wp2
    go_ret
    exact ⟨by rw [HF.out]; rfl, rfl⟩
  · have HF := Lib.hid (show nextF wl (lens L) room x = min (wl : Int) (room - ((lens L).sum : Int) - sizeF n x) by unfold nextF; rw [if_neg (by rw [HLL.out]; exact h24), HLL.out])
    generalize sizeF n x = z at *
    generalize (lens L).sum = sm at *
    clear hs hL
    go_enter Try.func115, Try.ntmps115
    go_wp2_with (first
      | (go_at_call 120; (with_reducible refine HSU.out.mono ?_); rintro e w1 ⟨rfl, rfl⟩)
      | (go_at_call 121; (with_reducible refine (HSZ.out _).mono ?_); rintro e w1 ⟨rfl, rfl⟩))
    go_ret
    exact ⟨by rw [HF.out]; rfl, rfl⟩
end Go.Proofs.Ytbcjfdhphpckfaa
