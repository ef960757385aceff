/-
  pdu: Check of the mode that asks. pdu: bytes are read: what they are. pdu: bytes are read: a text. Bytes cut into fields: plain lists.
-/
import Derived.Test.YtfgjlhklioijmaaJPduKinds12
import Derived.Laws.ResultCell
import Derived.Test.YtfgjlhklioijmaaJPduKinds10
import Derived.Test.YtfgjlhklioijmaaJPduKinds03
namespace Go.Proofs.Ytfgjlhklioijmaa
open Go.RowKit

set_option maxRecDepth 100000 in
set_option maxHeartbeats 6400000 in
theorem pcheck2 (bits win reo prx pro ppd pby mrx qb : Int) (w : World) :
    Calls Try.prog 38 #[.agg #[.int .i64 2, .int .i64 bits, .int .i64 win, .int .i64 reo, .int .i64 prx, .int .i64 pro, .int .i64 ppd, .int .i64 pby, .int .i64 mrx, .int .i64 qb]] w fun e w' => e = .returned (.int .i64 (checkF ⟨2, bits, win, reo, prx, pro, ppd, pby, mrx, qb⟩)) ∧ Below w.heap.size w w' := by
  have ROW := Lib.hid (Row.made w 49 #[.int .i64 2, .int .i64 bits, .int .i64 win, .int .i64 reo, .int .i64 prx, .int .i64 pro, .int .i64 ppd, .int .i64 pby, .int .i64 mrx, .int .i64 qb])
  have HB0 := Lib.hid (bl_alloc (Below.refl w.heap.size w) (.cells #[.int .i64 2, .int .i64 bits, .int .i64 win, .int .i64 reo, .int .i64 prx, .int .i64 pro, .int .i64 ppd, .int .i64 pby, .int .i64 mrx, .int .i64 qb] 49))
  have HW := Lib.hid (fun W g' (h : Row W g' 235 #[.int .i64 qb, .int .i64 1, .int .i64 20000]) => pwithin_any (l := [(qb, 1, 20000)]) 1 1 W rfl (by omega) h rfl)
  rw [show [(qb, (1 : Int), (20000 : Int))].all limB = limB (qb, 1, 20000) from by simp] at HW
  have HU := Lib.hid (fun W => punused2 bits win reo prx pro ppd pby mrx qb W)
  have HNM := Lib.hid (fun W g (h : Row W g 3 #[.int .i64 10, .int .i64 16]) => pnumbered_any (g := g) ⟨2, bits, win, reo, prx, pro, ppd, pby, mrx, qb⟩ 10 16 2 W h)
  have HF := Lib.hid (show checkF ⟨2, bits, win, reo, prx, pro, ppd, pby, mrx, qb⟩ = if limB (qb, 1, 20000) && (numB ⟨2, bits, win, reo, prx, pro, ppd, pby, mrx, qb⟩ 10 16 && askB ⟨2, bits, win, reo, prx, pro, ppd, pby, mrx, qb⟩) then 0 else 1 from rfl)
  have HAS := Lib.hid (fun W => pasking_any ⟨2, bits, win, reo, prx, pro, ppd, pby, mrx, qb⟩ W)
  unfold Cf.a at *
  cases hq0 : limB (qb, 1, 20000)
  · rw [hq0] at HW HF
    clear hq0
    go_enter Try.func38, Try.ntmps38
    obtain ⟨c0, c1, c2, c3, c4, c5, c6, c7, c8, c9⟩ := cells10 ROW.out
    go_wp2_with (first
      | (go_at_call 157; (with_reducible refine (HW.out _ _ (row_at2 _ _ _ _ (size_1 _ _))).mono ?_); rintro e w2 ⟨rfl, hb2⟩; (have HB2 := Lib.hid (bl_step (bl_alloc HB0.out _) hb2); have ROW2 := Lib.hid ((ROW.out.more _).later hb2); clear c0 c1 c2 c3 c4 c5 c6 c7 c8 c9; obtain ⟨c0, c1, c2, c3, c4, c5, c6, c7, c8, c9⟩ := cells10 ROW2.out; clear hb2))
      | (go_at_call 158; (with_reducible refine (HNM.out _ _ (Row.made _ _ _)).mono ?_); rintro e w4 ⟨rfl, hb4⟩; (have HB4 := Lib.hid (bl_step (bl_alloc HB2.out _) hb4); have ROW4 := Lib.hid ((ROW2.out.more _).later hb4); clear c0 c1 c2 c3 c4 c5 c6 c7 c8 c9; obtain ⟨c0, c1, c2, c3, c4, c5, c6, c7, c8, c9⟩ := cells10 ROW4.out; clear hb4))
      | (go_at_call 159; (with_reducible refine (HAS.out _).mono ?_); rintro e w5 ⟨rfl, hb5⟩; (have HB5 := Lib.hid (bl_step HB4.out hb5); have ROW5 := Lib.hid (ROW4.out.later hb5); clear c0 c1 c2 c3 c4 c5 c6 c7 c8 c9; obtain ⟨c0, c1, c2, c3, c4, c5, c6, c7, c8, c9⟩ := cells10 ROW5.out; clear hb5))
      | (go_at_call 160; (with_reducible refine (HU.out _).mono ?_); rintro e w3 ⟨rfl, hb3⟩; (have HB3 := Lib.hid (bl_step HB5.out hb3); clear hb3)))
    all_goals
      go_ret
      refine ⟨?_, by first | exact HB3.out | exact HB5.out | exact HB4.out | exact HB2.out⟩
      rw [HF.out]
      first | rfl | simp_all [z8, z5]
  · rw [hq0] at HW HF
    clear hq0
    cases hq1 : numB ⟨2, bits, win, reo, prx, pro, ppd, pby, mrx, qb⟩ 10 16
    · rw [hq1] at HNM HF
      clear hq1
      go_enter Try.func38, Try.ntmps38
      obtain ⟨c0, c1, c2, c3, c4, c5, c6, c7, c8, c9⟩ := cells10 ROW.out
      go_wp2_with (first
        | (go_at_call 157; (with_reducible refine (HW.out _ _ (row_at2 _ _ _ _ (size_1 _ _))).mono ?_); rintro e w2 ⟨rfl, hb2⟩; (have HB2 := Lib.hid (bl_step (bl_alloc HB0.out _) hb2); have ROW2 := Lib.hid ((ROW.out.more _).later hb2); clear c0 c1 c2 c3 c4 c5 c6 c7 c8 c9; obtain ⟨c0, c1, c2, c3, c4, c5, c6, c7, c8, c9⟩ := cells10 ROW2.out; clear hb2))
        | (go_at_call 158; (with_reducible refine (HNM.out _ _ (Row.made _ _ _)).mono ?_); rintro e w4 ⟨rfl, hb4⟩; (have HB4 := Lib.hid (bl_step (bl_alloc HB2.out _) hb4); have ROW4 := Lib.hid ((ROW2.out.more _).later hb4); clear c0 c1 c2 c3 c4 c5 c6 c7 c8 c9; obtain ⟨c0, c1, c2, c3, c4, c5, c6, c7, c8, c9⟩ := cells10 ROW4.out; clear hb4))
        | (go_at_call 159; (with_reducible refine (HAS.out _).mono ?_); rintro e w5 ⟨rfl, hb5⟩; (have HB5 := Lib.hid (bl_step HB4.out hb5); have ROW5 := Lib.hid (ROW4.out.later hb5); clear c0 c1 c2 c3 c4 c5 c6 c7 c8 c9; obtain ⟨c0, c1, c2, c3, c4, c5, c6, c7, c8, c9⟩ := cells10 ROW5.out; clear hb5))
        | (go_at_call 160; (with_reducible refine (HU.out _).mono ?_); rintro e w3 ⟨rfl, hb3⟩; (have HB3 := Lib.hid (bl_step HB5.out hb3); clear hb3)))
      all_goals
        go_ret
        refine ⟨?_, by first | exact HB3.out | exact HB5.out | exact HB4.out | exact HB2.out⟩
        rw [HF.out]
        first | rfl | simp_all [z8, z5]
    · rw [hq1] at HNM HF
      clear hq1
      cases hq2 : askB ⟨2, bits, win, reo, prx, pro, ppd, pby, mrx, qb⟩
      · rw [hq2] at HAS HF
        clear hq2
        go_enter Try.func38, Try.ntmps38
        obtain ⟨c0, c1, c2, c3, c4, c5, c6, c7, c8, c9⟩ := cells10 ROW.out
        go_wp2_with (first
          | (go_at_call 157; (with_reducible refine (HW.out _ _ (row_at2 _ _ _ _ (size_1 _ _))).mono ?_); rintro e w2 ⟨rfl, hb2⟩; (have HB2 := Lib.hid (bl_step (bl_alloc HB0.out _) hb2); have ROW2 := Lib.hid ((ROW.out.more _).later hb2); clear c0 c1 c2 c3 c4 c5 c6 c7 c8 c9; obtain ⟨c0, c1, c2, c3, c4, c5, c6, c7, c8, c9⟩ := cells10 ROW2.out; clear hb2))
          | (go_at_call 158; (with_reducible refine (HNM.out _ _ (Row.made _ _ _)).mono ?_); rintro e w4 ⟨rfl, hb4⟩; (have HB4 := Lib.hid (bl_step (bl_alloc HB2.out _) hb4); have ROW4 := Lib.hid ((ROW2.out.more _).later hb4); clear c0 c1 c2 c3 c4 c5 c6 c7 c8 c9; obtain ⟨c0, c1, c2, c3, c4, c5, c6, c7, c8, c9⟩ := cells10 ROW4.out; clear hb4))
          | (go_at_call 159; (with_reducible refine (HAS.out _).mono ?_); rintro e w5 ⟨rfl, hb5⟩; (have HB5 := Lib.hid (bl_step HB4.out hb5); have ROW5 := Lib.hid (ROW4.out.later hb5); clear c0 c1 c2 c3 c4 c5 c6 c7 c8 c9; obtain ⟨c0, c1, c2, c3, c4, c5, c6, c7, c8, c9⟩ := cells10 ROW5.out; clear hb5))
          | (go_at_call 160; (with_reducible refine (HU.out _).mono ?_); rintro e w3 ⟨rfl, hb3⟩; (have HB3 := Lib.hid (bl_step HB5.out hb3); clear hb3)))
        all_goals
          go_ret
          refine ⟨?_, by first | exact HB3.out | exact HB5.out | exact HB4.out | exact HB2.out⟩
          rw [HF.out]
          first | rfl | simp_all [z8, z5]
      · rw [hq2] at HAS HF
        clear hq2
        go_enter Try.func38, Try.ntmps38
        obtain ⟨c0, c1, c2, c3, c4, c5, c6, c7, c8, c9⟩ := cells10 ROW.out
        go_wp2_with (first
          | (go_at_call 157; (with_reducible refine (HW.out _ _ (row_at2 _ _ _ _ (size_1 _ _))).mono ?_); rintro e w2 ⟨rfl, hb2⟩; (have HB2 := Lib.hid (bl_step (bl_alloc HB0.out _) hb2); have ROW2 := Lib.hid ((ROW.out.more _).later hb2); clear c0 c1 c2 c3 c4 c5 c6 c7 c8 c9; obtain ⟨c0, c1, c2, c3, c4, c5, c6, c7, c8, c9⟩ := cells10 ROW2.out; clear hb2))
          | (go_at_call 158; (with_reducible refine (HNM.out _ _ (Row.made _ _ _)).mono ?_); rintro e w4 ⟨rfl, hb4⟩; (have HB4 := Lib.hid (bl_step (bl_alloc HB2.out _) hb4); have ROW4 := Lib.hid ((ROW2.out.more _).later hb4); clear c0 c1 c2 c3 c4 c5 c6 c7 c8 c9; obtain ⟨c0, c1, c2, c3, c4, c5, c6, c7, c8, c9⟩ := cells10 ROW4.out; clear hb4))
          | (go_at_call 159; (with_reducible refine (HAS.out _).mono ?_); rintro e w5 ⟨rfl, hb5⟩; (have HB5 := Lib.hid (bl_step HB4.out hb5); have ROW5 := Lib.hid (ROW4.out.later hb5); clear c0 c1 c2 c3 c4 c5 c6 c7 c8 c9; obtain ⟨c0, c1, c2, c3, c4, c5, c6, c7, c8, c9⟩ := cells10 ROW5.out; clear hb5))
          | (go_at_call 160; (with_reducible refine (HU.out _).mono ?_); rintro e w3 ⟨rfl, hb3⟩; (have HB3 := Lib.hid (bl_step HB5.out hb3); clear hb3)))
        all_goals
          go_ret
          refine ⟨?_, by first | exact HB3.out | exact HB5.out | exact HB4.out | exact HB2.out⟩
          rw [HF.out]
          first | rfl | simp_all [z8, z5]
set_option maxHeartbeats 800000 in
theorem pcheck9 (c : Cf) (w : World) (h0 : c.mode ≠ 0) (h1 : c.mode ≠ 1) (h2 : c.mode ≠ 2) : Calls Try.prog 38 #[.agg c.a] w fun e w' => e = .returned (.int .i64 (checkF c)) ∧ Below w.heap.size w w' := by
  have HF := Lib.hid (show checkF c = 9 by unfold checkF; rw [if_neg h0, if_neg h1, if_neg h2])
  obtain ⟨mode, bits, win, reo, prx, pro, ppd, pby, mrx, qb⟩ := c
  unfold Cf.a
  have ROW := Lib.hid (Row.made w 49 #[.int .i64 mode, .int .i64 bits, .int .i64 win, .int .i64 reo, .int .i64 prx, .int .i64 pro, .int .i64 ppd, .int .i64 pby, .int .i64 mrx, .int .i64 qb])
  have HB0 := Lib.hid (bl_alloc (Below.refl w.heap.size w) (.cells #[.int .i64 mode, .int .i64 bits, .int .i64 win, .int .i64 reo, .int .i64 prx, .int .i64 pro, .int .i64 ppd, .int .i64 pby, .int .i64 mrx, .int .i64 qb] 49))
  have HW := Lib.hid (fun W g' (h : Row W g' 235 #[.int .i64 qb, .int .i64 1, .int .i64 20000]) => pwithin_any (l := [(qb, 1, 20000)]) 1 1 W rfl (by omega) h rfl)
  have g0 : (mode == 0) = false := by simpa using h0
  have g1 : (mode == 1) = false := by simpa using h1
  have g2 : (mode == 2) = false := by simpa using h2
  clear h0 h1 h2
  go_enter Try.func38, Try.ntmps38
  obtain ⟨c0, c1, c2, c3, c4, c5, c6, c7, c8, c9⟩ := cells10 ROW.out
  go_wp2_with (go_at_call 157; (with_reducible refine (HW.out _ _ (row_at2 _ _ _ _ (size_1 _ _))).mono ?_); rintro e w2 ⟨rfl, hb2⟩; (have HB2 := Lib.hid (bl_step (bl_alloc HB0.out _) hb2); clear c0 c1 c2 c3 c4 c5 c6 c7 c8 c9; obtain ⟨c0, c1, c2, c3, c4, c5, c6, c7, c8, c9⟩ := cells10 ((ROW.out.more _).later hb2); clear hb2))
  go_ret
  exact ⟨by rw [HF.out]; rfl, HB2.out⟩
end Go.Proofs.Ytfgjlhklioijmaa
namespace Go.Proofs.Ytfgjlhklioijmaa
open Go.RowKit

theorem cells14 {w : World} {g : Nat} {t : TypeId} {a b c d e f h i j k l m n o : Value} (hr : Row w g t #[a, b, c, d, e, f, h, i, j, k, l, m, n, o]) : w.cell? ⟨g, 0, none⟩ = some a ∧ w.cell? ⟨g, 1, none⟩ = some b ∧ w.cell? ⟨g, 2, none⟩ = some c ∧ w.cell? ⟨g, 3, none⟩ = some d ∧ w.cell? ⟨g, 4, none⟩ = some e ∧ w.cell? ⟨g, 5, none⟩ = some f ∧ w.cell? ⟨g, 6, none⟩ = some h ∧ w.cell? ⟨g, 7, none⟩ = some i ∧ w.cell? ⟨g, 8, none⟩ = some j ∧ w.cell? ⟨g, 9, none⟩ = some k ∧ w.cell? ⟨g, 10, none⟩ = some l ∧ w.cell? ⟨g, 11, none⟩ = some m ∧ w.cell? ⟨g, 12, none⟩ = some n ∧ w.cell? ⟨g, 13, none⟩ = some o :=
  ⟨hr.read rfl, hr.read rfl, hr.read rfl, hr.read rfl, hr.read rfl, hr.read rfl, hr.read rfl, hr.read rfl, hr.read rfl, hr.read rfl, hr.read rfl, hr.read rfl, hr.read rfl, hr.read rfl⟩
theorem free14 {w : World} {g : Nat} {t : TypeId} {cs : Array Value} (hr : Row w g t cs) : w.frozen? ⟨g, 0, none⟩ = false ∧ w.frozen? ⟨g, 1, none⟩ = false ∧ w.frozen? ⟨g, 2, none⟩ = false ∧ w.frozen? ⟨g, 3, none⟩ = false ∧ w.frozen? ⟨g, 4, none⟩ = false ∧ w.frozen? ⟨g, 5, none⟩ = false ∧ w.frozen? ⟨g, 6, none⟩ = false ∧ w.frozen? ⟨g, 7, none⟩ = false ∧ w.frozen? ⟨g, 8, none⟩ = false ∧ w.frozen? ⟨g, 9, none⟩ = false ∧ w.frozen? ⟨g, 10, none⟩ = false ∧ w.frozen? ⟨g, 11, none⟩ = false ∧ w.frozen? ⟨g, 12, none⟩ = false ∧ w.frozen? ⟨g, 13, none⟩ = false :=
  ⟨hr.free _, hr.free _, hr.free _, hr.free _, hr.free _, hr.free _, hr.free _, hr.free _, hr.free _, hr.free _, hr.free _, hr.free _, hr.free _, hr.free _⟩
set_option maxHeartbeats 4000000 in
theorem row_set14 {w : World} {g : Nat} {t : TypeId} {a b c d e f h i j k l m n o a' b' c' d' e' f' h' i' j' k' l' m' n' o' : Value} (h : Row w g t #[a, b, c, d, e, f, h, i, j, k, l, m, n, o]) : Row ((((((((((((((w.setCell ⟨g, 0, none⟩ a').setCell ⟨g, 1, none⟩ b').setCell ⟨g, 2, none⟩ c').setCell ⟨g, 3, none⟩ d').setCell ⟨g, 4, none⟩ e').setCell ⟨g, 5, none⟩ f').setCell ⟨g, 6, none⟩ h').setCell ⟨g, 7, none⟩ i').setCell ⟨g, 8, none⟩ j').setCell ⟨g, 9, none⟩ k').setCell ⟨g, 10, none⟩ l').setCell ⟨g, 11, none⟩ m').setCell ⟨g, 12, none⟩ n').setCell ⟨g, 13, none⟩ o') g t #[a', b', c', d', e', f', h', i', j', k', l', m', n', o'] := by
  have h2 := ((((((((((((((h.written 0 a').written 1 b').written 2 c').written 3 d').written 4 e').written 5 f').written 6 h').written 7 i').written 8 j').written 9 k').written 10 l').written 11 m').written 12 n').written 13 o')
  simpa using h2
set_option maxHeartbeats 4000000 in
theorem below_set14 {w0 w : World} {B g : Nat} (h : Below B w0 w) (hg : B ≤ g) (a' b' c' d' e' f' h' i' j' k' l' m' n' o' : Value) : Below B w0 ((((((((((((((w.setCell ⟨g, 0, none⟩ a').setCell ⟨g, 1, none⟩ b').setCell ⟨g, 2, none⟩ c').setCell ⟨g, 3, none⟩ d').setCell ⟨g, 4, none⟩ e').setCell ⟨g, 5, none⟩ f').setCell ⟨g, 6, none⟩ h').setCell ⟨g, 7, none⟩ i').setCell ⟨g, 8, none⟩ j').setCell ⟨g, 9, none⟩ k').setCell ⟨g, 10, none⟩ l').setCell ⟨g, 11, none⟩ m').setCell ⟨g, 12, none⟩ n').setCell ⟨g, 13, none⟩ o') := ((((((((((((((h.setCell (p := ⟨g, 0, none⟩) hg a').setCell (p := ⟨g, 1, none⟩) hg b').setCell (p := ⟨g, 2, none⟩) hg c').setCell (p := ⟨g, 3, none⟩) hg d').setCell (p := ⟨g, 4, none⟩) hg e').setCell (p := ⟨g, 5, none⟩) hg f').setCell (p := ⟨g, 6, none⟩) hg h').setCell (p := ⟨g, 7, none⟩) hg i').setCell (p := ⟨g, 8, none⟩) hg j').setCell (p := ⟨g, 9, none⟩) hg k').setCell (p := ⟨g, 10, none⟩) hg l').setCell (p := ⟨g, 11, none⟩) hg m').setCell (p := ⟨g, 12, none⟩) hg n').setCell (p := ⟨g, 13, none⟩) hg o')
theorem Try.infoun : (Try.prog.info? 56).map (·.size) = some 14 := by kernel_rfl
theorem Try.underun : (Try.prog.underlying 56).map (fun d => match d with | .struct _ => true | _ => false) = some true := by kernel_rfl
theorem underun_parts : ∃ fs, Try.prog.underlying 56 = some (.struct fs) := by
  obtain ⟨d, hd, h⟩ := Option.map_eq_some_iff.1 Try.underun
  cases d with
  | struct fs => exact ⟨fs, hd⟩
  | _ => simp at h
def kindF (mode : Int) (bs : List Nat) : Int := if mode = 0 then 0 else if mode = 1 then 1 else if bs.length = 0 then 2 else if bs.getD 0 0 < 128 then 3 else 2
set_option maxHeartbeats 1600000 in
theorem pkind_any {A : Option Addr} {bs : List Nat} (mode : Int) (n cap : Nat) (w : World) (hn : bs.length = n) (hs : Src w A (bts bs)) (hb : ∀ b ∈ bs, b < 256) :
    Calls Try.prog 154 #[.int .i64 mode, .slice A n cap] w fun e w' => e = .returned (.int .i64 (kindF mode bs)) ∧ w = w' := by
  by_cases h0 : mode = 0
  · have HX := Lib.hid (show kindF mode bs = 0 by unfold kindF; rw [if_pos h0])
    have h0' : (mode == 0) = true := by simpa using h0
    clear h0 hs hb hn
    go_enter Try.func154, Try.ntmps154
    go_wp2
    refine st_scope_through 0 (fun _ _ => False) (fun _ _ => 0) rfl (fun _ => ?_) (fun _ _ h => h.elim)
    go_wp2
    try simp only [Exit.jump]
    go_ret
    exact ⟨by rw [HX.out]; rfl, rfl⟩
  · have h0' : (mode == 0) = false := by simpa using h0
    by_cases h1 : mode = 1
    · have HX := Lib.hid (show kindF mode bs = 1 by unfold kindF; rw [if_neg h0, if_pos h1])
      have h1' : (mode == 1) = true := by simpa using h1
      clear h0 h1 hs hb hn
      go_enter Try.func154, Try.ntmps154
      go_wp2
      refine st_scope_through 0 (fun _ _ => False) (fun _ _ => 0) rfl (fun _ => ?_) (fun _ _ h => h.elim)
      go_wp2
      try simp only [Exit.jump]
      go_ret
      exact ⟨by rw [HX.out]; rfl, rfl⟩
    · have h1' : (mode == 1) = false := by simpa using h1
      cases bs with
      | nil =>
        have HX := Lib.hid (show kindF mode [] = 2 by unfold kindF; rw [if_neg h0, if_neg h1]; rfl)
        simp only [List.length_nil] at hn
        subst hn
        clear h0 h1 hs hb
        go_enter Try.func154, Try.ntmps154
        go_wp2
        refine st_scope_through 0 (fun a' w' => Fr [none, none, none, none, none, none, none, none, none, none, none, none, none, none, none, none, none, none, none, none, none] a' ∧ w = w') (fun _ _ => 0) rfl (fun hrest => ?_) ?_
        · go_wp2
          go_step3
          refine ⟨rfl, ?_, rfl⟩
          simp only [Fr, Holes]
          repeat apply Exists.intro
          rfl
        · rintro a' w' ⟨hfr, rfl⟩
          simp only [Fr, Holes] at hfr
          repeat (obtain ⟨_, hfr⟩ := hfr)
          go_wp2
          try simp only [Exit.jump]
          go_ret
          exact ⟨by rw [HX.out]; rfl, rfl⟩
      | cons b r =>
        have hb0 : b < 256 := hb b (List.mem_cons_self ..)
        obtain ⟨ad, rfl, hc⟩ := hs (by simp [bts])
        have c0 : w.cell? (ad.add 0) = some (.int .u8 b) := hc 0 _ rfl
        have hn0 : 0 < n := by simp at hn; omega
        have hne : (n == 0) = false := by simp; omega
        have e0 : ad.add 0 = ad := by simp [Addr.add]
        rw [e0] at c0
        have HXX := Lib.hid (show kindF mode (b :: r) = if b < 128 then 3 else 2 by unfold kindF; rw [if_neg h0, if_neg h1]; simp)
        clear h0 h1 hc hb hn e0
        by_cases hlt : b < 128
        · have g1 : ((b : Int) / 2 ^ 7 == 0) = true := by simp; omega
          rw [if_pos hlt] at HXX
          go_enter Try.func154, Try.ntmps154
          go_wp2
          refine st_scope_through 0 (fun _ _ => False) (fun _ _ => 0) rfl (fun _ => ?_) (fun _ _ h => h.elim)
          go_wp2
          try simp only [Exit.jump]
          go_ret
          exact ⟨by rw [HXX.out]; rfl, rfl⟩
        · have g1 : ((b : Int) / 2 ^ 7 == 0) = false := by simp; omega
          rw [if_neg hlt] at HXX
          go_enter Try.func154, Try.ntmps154
          go_wp2
          refine st_scope_through 0 (fun _ _ => False) (fun _ _ => 0) rfl (fun _ => ?_) (fun _ _ h => h.elim)
          go_wp2
          go_step3
          rename_i Q9 K9 h9
          refine h9 _ _ ?_
          go_wp2
          try simp only [Exit.jump]
          go_ret
          exact ⟨by rw [HXX.out]; rfl, rfl⟩
theorem pcheck_any (c : Cf) (w : World) : Calls Try.prog 38 #[.agg c.a] w fun e w' => e = .returned (.int .i64 (checkF c)) ∧ Below w.heap.size w w' := by
  obtain ⟨mode, bits, win, reo, prx, pro, ppd, pby, mrx, qb⟩ := c
  by_cases h0 : mode = 0
  · subst h0; exact pcheck0 bits win reo prx pro ppd pby mrx qb w
  · by_cases h1 : mode = 1
    · subst h1; exact pcheck1 bits win reo prx pro ppd pby mrx qb w
    · by_cases h2 : mode = 2
      · subst h2; exact pcheck2 bits win reo prx pro ppd pby mrx qb w
      · exact pcheck9 _ w h0 h1 h2
end Go.Proofs.Ytfgjlhklioijmaa
namespace Go.Proofs.Ytfgjlhklioijmaa
open Go.RowKit

def Pre (bs : List Nat) (cs : Array Value) : Prop := ∀ (j b : Nat), bs[j]? = some b → cs[j]? = some (.int .u8 b)
set_option maxRecDepth 100000 in
set_option maxHeartbeats 6400000 in
theorem pread_tm_ok {A : Option Addr} {bs : List Nat} (bits win reo prx pro ppd pby mrx qb : Int) (n cap : Nat) (w : World)
    (hck : checkF ⟨0, bits, win, reo, prx, pro, ppd, pby, mrx, qb⟩ = 0) (hkd : ∀ W, Below w.heap.size w W → Calls Try.prog 154 #[.int .i64 0, .slice A n cap] W fun e w' => e = .returned (.int .i64 0) ∧ W = w')
    
    (hcal : ∀ W, Below w.heap.size w W → Calls Try.prog 155 #[.slice A n cap] W fun e w' => ∃ (g : Nat) (cs : Array Value), e = .returned (.tuple #[.slice (some ⟨g, 0, none⟩) n n, .int .i64 0]) ∧ Row w' g 5 cs ∧ Pre bs cs ∧ Below W.heap.size W w') :
    Calls Try.prog 37 #[.agg #[.int .i64 0, .int .i64 bits, .int .i64 win, .int .i64 reo, .int .i64 prx, .int .i64 pro, .int .i64 ppd, .int .i64 pby, .int .i64 mrx, .int .i64 qb], .slice A n cap] w fun e w' => ∃ (g : Nat) (cs : Array Value), e = .returned (.tuple #[.agg #[.int .i64 0, .slice (some ⟨g, 0, none⟩) n n, .int .i64 0, .int .i64 0, .slice none 0 0, .bool false, .int .i64 0, .int .i64 0, .bool false, .bool false, .int .i64 0, .slice none 0 0, .int .i64 0, .slice none 0 0], .int .i64 0]) ∧ Row w' g 5 cs ∧ Pre bs cs ∧ Below w.heap.size w w' := by
  have ROW := Lib.hid (Row.made w 49 #[.int .i64 0, .int .i64 bits, .int .i64 win, .int .i64 reo, .int .i64 prx, .int .i64 pro, .int .i64 ppd, .int .i64 pby, .int .i64 mrx, .int .i64 qb])
  have ROWZ := Lib.hid (row_at2 (w.alloc (.cells #[.int .i64 0, .int .i64 bits, .int .i64 win, .int .i64 reo, .int .i64 prx, .int .i64 pro, .int .i64 ppd, .int .i64 pby, .int .i64 mrx, .int .i64 qb] 49)) (w.heap.size + 1) 56 #[.int .i64 0, .slice none 0 0, .int .i64 0, .int .i64 0, .slice none 0 0, .bool false, .int .i64 0, .int .i64 0, .bool false, .bool false, .int .i64 0, .slice none 0 0, .int .i64 0, .slice none 0 0] (size_1 _ _))
  have HB0 := Lib.hid (bl_alloc (bl_alloc (Below.refl w.heap.size w) (.cells #[.int .i64 0, .int .i64 bits, .int .i64 win, .int .i64 reo, .int .i64 prx, .int .i64 pro, .int .i64 ppd, .int .i64 pby, .int .i64 mrx, .int .i64 qb] 49)) (.cells #[.int .i64 0, .slice none 0 0, .int .i64 0, .int .i64 0, .slice none 0 0, .bool false, .int .i64 0, .int .i64 0, .bool false, .bool false, .int .i64 0, .slice none 0 0, .int .i64 0, .slice none 0 0] 56))
  have ROWC := Lib.hid (ROW.out.more (.cells #[.int .i64 0, .slice none 0 0, .int .i64 0, .int .i64 0, .slice none 0 0, .bool false, .int .i64 0, .int .i64 0, .bool false, .bool false, .int .i64 0, .slice none 0 0, .int .i64 0, .slice none 0 0] 56))
  have HCK := Lib.hid (fun W => pcheck_any ⟨0, bits, win, reo, prx, pro, ppd, pby, mrx, qb⟩ W)
  rw [hck] at HCK
  unfold Cf.a at HCK
  have HKD := Lib.hid hkd
  have HCAL := Lib.hid hcal
  clear hck hkd hcal
  generalize hW : (w.alloc (.cells #[.int .i64 0, .int .i64 bits, .int .i64 win, .int .i64 reo, .int .i64 prx, .int .i64 pro, .int .i64 ppd, .int .i64 pby, .int .i64 mrx, .int .i64 qb] 49)).alloc (.cells #[.int .i64 0, .slice none 0 0, .int .i64 0, .int .i64 0, .slice none 0 0, .bool false, .int .i64 0, .int .i64 0, .bool false, .bool false, .int .i64 0, .slice none 0 0, .int .i64 0, .slice none 0 0] 56) = W0 at *
  obtain ⟨c0, c1, c2, c3, c4, c5, c6, c7, c8, c9⟩ := cells10 ROWC.out
  go_enter Try.func37, Try.ntmps37
  go_wp2_with fail
  clear hW
  go_wp2_with (first
    | (go_at_call 38; (with_reducible refine (HCK.out _).mono ?_); rintro e w1 ⟨rfl, hb1⟩; (have HB1 := Lib.hid (bl_step HB0.out hb1); have ROWC1 := Lib.hid (ROWC.out.later hb1); have ROWZ1 := Lib.hid (ROWZ.out.later hb1); clear hb1 c0 c1 c2 c3 c4 c5 c6 c7 c8 c9; obtain ⟨c0, c1, c2, c3, c4, c5, c6, c7, c8, c9⟩ := cells10 ROWC1.out))
    | (go_at_call 154; (with_reducible refine (HKD.out _ HB1.out).mono ?_); rintro e wx ⟨rfl, rfl⟩; obtain ⟨C0, C1, -⟩ := cells10 (ROWC1.out.more (.cells #[.int .i64 0, .slice none 0 0, .int .i64 0, .int .i64 0, .slice none 0 0, .bool false, .int .i64 0, .int .i64 0, .bool false, .bool false, .int .i64 0, .slice none 0 0, .int .i64 0, .slice none 0 0] 56)))
    | (go_at_call 155; (with_reducible refine (HCAL.out _ (bl_alloc HB1.out _)).mono ?_); rintro e w3 ⟨g, cs, rfl, hrw, hpre, hb3⟩; (have HB3 := Lib.hid (bl_step (bl_alloc HB1.out (.cells #[.int .i64 0, .slice none 0 0, .int .i64 0, .int .i64 0, .slice none 0 0, .bool false, .int .i64 0, .int .i64 0, .bool false, .bool false, .int .i64 0, .slice none 0 0, .int .i64 0, .slice none 0 0] 56)) hb3); have ROWZ3 := Lib.hid ((ROWZ1.out.more (.cells #[.int .i64 0, .slice none 0 0, .int .i64 0, .int .i64 0, .slice none 0 0, .bool false, .int .i64 0, .int .i64 0, .bool false, .bool false, .int .i64 0, .slice none 0 0, .int .i64 0, .slice none 0 0] 56)).later hb3); have ROWQ3 := Lib.hid ((Row.made w1 56 #[.int .i64 0, .slice none 0 0, .int .i64 0, .int .i64 0, .slice none 0 0, .bool false, .int .i64 0, .int .i64 0, .bool false, .bool false, .int .i64 0, .slice none 0 0, .int .i64 0, .slice none 0 0]).later hb3); have hq : w.heap.size + 1 < w1.heap.size := ROWZ1.out.inside; have HRW := Lib.hid hrw; clear hb3 hrw; generalize w1.heap.size = q at *; have RZ4 := Lib.hid (show Row (w3.setCell ⟨q, 1, none⟩ (.slice (some ⟨g, 0, none⟩) n n)) (w.heap.size + 1) 56 #[.int .i64 0, .slice none 0 0, .int .i64 0, .int .i64 0, .slice none 0 0, .bool false, .int .i64 0, .int .i64 0, .bool false, .bool false, .int .i64 0, .slice none 0 0, .int .i64 0, .slice none 0 0] from (ROWZ3.out.elsewhere (p := ⟨q, 1, none⟩) (Nat.ne_of_lt hq) (.slice (some ⟨g, 0, none⟩) n n))); have RQ4 := Lib.hid (show Row (w3.setCell ⟨q, 1, none⟩ (.slice (some ⟨g, 0, none⟩) n n)) q 56 #[.int .i64 0, .slice (some ⟨g, 0, none⟩) n n, .int .i64 0, .int .i64 0, .slice none 0 0, .bool false, .int .i64 0, .int .i64 0, .bool false, .bool false, .int .i64 0, .slice none 0 0, .int .i64 0, .slice none 0 0] from (ROWQ3.out.written 1 (.slice (some ⟨g, 0, none⟩) n n))); have HB4 := Lib.hid (show Below w.heap.size w (w3.setCell ⟨q, 1, none⟩ (.slice (some ⟨g, 0, none⟩) n n)) from (HB3.out.setCell (p := ⟨q, 1, none⟩) (by show w.heap.size ≤ q; omega) (.slice (some ⟨g, 0, none⟩) n n))); obtain ⟨q0, q1, q2, q3, q4, q5, q6, q7, q8, q9, q10, q11, q12, q13⟩ := cells14 ROWQ3.out; obtain ⟨f0, f1, f2, f3, f4, f5, f6, f7, f8, f9, f10, f11, f12, f13⟩ := free14 ROWQ3.out; obtain ⟨r0, r1, r2, r3, r4, r5, r6, r7, r8, r9, r10, r11, r12, r13⟩ := cells14 RQ4.out; obtain ⟨z0, z1, z2, z3, z4, z5, z6, z7, z8, z9, z10, z11, z12, z13⟩ := cells14 RZ4.out; obtain ⟨y0, y1, y2, y3, y4, y5, y6, y7, y8, y9, y10, y11, y12, y13⟩ := free14 RZ4.out)))
  obtain ⟨dd, hdd⟩ := underun_parts
  refine bodyPost_ret (st_results_two rfl _ _ (w.heap.size + 1) 56 #[.int .i64 0, .slice (some ⟨g, 0, none⟩) n n, .int .i64 0, .int .i64 0, .slice none 0 0, .bool false, .int .i64 0, .int .i64 0, .bool false, .bool false, .int .i64 0, .slice none 0 0, .int .i64 0, .slice none 0 0] dd rfl (row_set14 RZ4.out) hdd Try.infoun) rfl ?_
  exact ⟨g, cs, rfl, (((((((((((((((HRW.out.elsewhere (p := ⟨_, 1, none⟩) (fun e => HRW.out.apart ROWQ3.out (by decide) e) _).elsewhere (p := ⟨w.heap.size + 1, 0, none⟩) (fun e => HRW.out.apart ROWZ3.out (by decide) e) _).elsewhere (p := ⟨w.heap.size + 1, 1, none⟩) (fun e => HRW.out.apart ROWZ3.out (by decide) e) _).elsewhere (p := ⟨w.heap.size + 1, 2, none⟩) (fun e => HRW.out.apart ROWZ3.out (by decide) e) _).elsewhere (p := ⟨w.heap.size + 1, 3, none⟩) (fun e => HRW.out.apart ROWZ3.out (by decide) e) _).elsewhere (p := ⟨w.heap.size + 1, 4, none⟩) (fun e => HRW.out.apart ROWZ3.out (by decide) e) _).elsewhere (p := ⟨w.heap.size + 1, 5, none⟩) (fun e => HRW.out.apart ROWZ3.out (by decide) e) _).elsewhere (p := ⟨w.heap.size + 1, 6, none⟩) (fun e => HRW.out.apart ROWZ3.out (by decide) e) _).elsewhere (p := ⟨w.heap.size + 1, 7, none⟩) (fun e => HRW.out.apart ROWZ3.out (by decide) e) _).elsewhere (p := ⟨w.heap.size + 1, 8, none⟩) (fun e => HRW.out.apart ROWZ3.out (by decide) e) _).elsewhere (p := ⟨w.heap.size + 1, 9, none⟩) (fun e => HRW.out.apart ROWZ3.out (by decide) e) _).elsewhere (p := ⟨w.heap.size + 1, 10, none⟩) (fun e => HRW.out.apart ROWZ3.out (by decide) e) _).elsewhere (p := ⟨w.heap.size + 1, 11, none⟩) (fun e => HRW.out.apart ROWZ3.out (by decide) e) _).elsewhere (p := ⟨w.heap.size + 1, 12, none⟩) (fun e => HRW.out.apart ROWZ3.out (by decide) e) _).elsewhere (p := ⟨w.heap.size + 1, 13, none⟩) (fun e => HRW.out.apart ROWZ3.out (by decide) e) _), hpre, below_set14 HB4.out (Nat.le_succ _) _ _ _ _ _ _ _ _ _ _ _ _ _ _⟩
set_option maxRecDepth 100000 in
set_option maxHeartbeats 6400000 in
theorem pread_tm_err {A : Option Addr} (bits win reo prx pro ppd pby mrx qb er : Int) (n cap : Nat) (w : World)
    (hck : checkF ⟨0, bits, win, reo, prx, pro, ppd, pby, mrx, qb⟩ = 0) (hkd : ∀ W, Below w.heap.size w W → Calls Try.prog 154 #[.int .i64 0, .slice A n cap] W fun e w' => e = .returned (.int .i64 0) ∧ W = w')
    (her : er ≠ 0)
    (hcal : ∀ W, Below w.heap.size w W → Calls Try.prog 155 #[.slice A n cap] W fun e w' => e = .returned (.tuple #[.slice none 0 0, .int .i64 er]) ∧ Below W.heap.size W w') :
    Calls Try.prog 37 #[.agg #[.int .i64 0, .int .i64 bits, .int .i64 win, .int .i64 reo, .int .i64 prx, .int .i64 pro, .int .i64 ppd, .int .i64 pby, .int .i64 mrx, .int .i64 qb], .slice A n cap] w fun e w' => e = .returned (.tuple #[.agg #[.int .i64 0, .slice none 0 0, .int .i64 0, .int .i64 0, .slice none 0 0, .bool false, .int .i64 0, .int .i64 0, .bool false, .bool false, .int .i64 0, .slice none 0 0, .int .i64 0, .slice none 0 0], .int .i64 er]) ∧ Below w.heap.size w w' := by
  have ROW := Lib.hid (Row.made w 49 #[.int .i64 0, .int .i64 bits, .int .i64 win, .int .i64 reo, .int .i64 prx, .int .i64 pro, .int .i64 ppd, .int .i64 pby, .int .i64 mrx, .int .i64 qb])
  have ROWZ := Lib.hid (row_at2 (w.alloc (.cells #[.int .i64 0, .int .i64 bits, .int .i64 win, .int .i64 reo, .int .i64 prx, .int .i64 pro, .int .i64 ppd, .int .i64 pby, .int .i64 mrx, .int .i64 qb] 49)) (w.heap.size + 1) 56 #[.int .i64 0, .slice none 0 0, .int .i64 0, .int .i64 0, .slice none 0 0, .bool false, .int .i64 0, .int .i64 0, .bool false, .bool false, .int .i64 0, .slice none 0 0, .int .i64 0, .slice none 0 0] (size_1 _ _))
  have HB0 := Lib.hid (bl_alloc (bl_alloc (Below.refl w.heap.size w) (.cells #[.int .i64 0, .int .i64 bits, .int .i64 win, .int .i64 reo, .int .i64 prx, .int .i64 pro, .int .i64 ppd, .int .i64 pby, .int .i64 mrx, .int .i64 qb] 49)) (.cells #[.int .i64 0, .slice none 0 0, .int .i64 0, .int .i64 0, .slice none 0 0, .bool false, .int .i64 0, .int .i64 0, .bool false, .bool false, .int .i64 0, .slice none 0 0, .int .i64 0, .slice none 0 0] 56))
  have ROWC := Lib.hid (ROW.out.more (.cells #[.int .i64 0, .slice none 0 0, .int .i64 0, .int .i64 0, .slice none 0 0, .bool false, .int .i64 0, .int .i64 0, .bool false, .bool false, .int .i64 0, .slice none 0 0, .int .i64 0, .slice none 0 0] 56))
  have HCK := Lib.hid (fun W => pcheck_any ⟨0, bits, win, reo, prx, pro, ppd, pby, mrx, qb⟩ W)
  rw [hck] at HCK
  unfold Cf.a at HCK
  have HKD := Lib.hid hkd
  have HCAL := Lib.hid hcal
  clear hck hkd hcal
  have hne : (er != 0) = true := by simpa using her
  clear her
  generalize hW : (w.alloc (.cells #[.int .i64 0, .int .i64 bits, .int .i64 win, .int .i64 reo, .int .i64 prx, .int .i64 pro, .int .i64 ppd, .int .i64 pby, .int .i64 mrx, .int .i64 qb] 49)).alloc (.cells #[.int .i64 0, .slice none 0 0, .int .i64 0, .int .i64 0, .slice none 0 0, .bool false, .int .i64 0, .int .i64 0, .bool false, .bool false, .int .i64 0, .slice none 0 0, .int .i64 0, .slice none 0 0] 56) = W0 at *
  obtain ⟨c0, c1, c2, c3, c4, c5, c6, c7, c8, c9⟩ := cells10 ROWC.out
  go_enter Try.func37, Try.ntmps37
  go_wp2_with fail
  clear hW
  go_wp2_with (first
    | (go_at_call 38; (with_reducible refine (HCK.out _).mono ?_); rintro e w1 ⟨rfl, hb1⟩; (have HB1 := Lib.hid (bl_step HB0.out hb1); have ROWC1 := Lib.hid (ROWC.out.later hb1); have ROWZ1 := Lib.hid (ROWZ.out.later hb1); clear hb1 c0 c1 c2 c3 c4 c5 c6 c7 c8 c9; obtain ⟨c0, c1, c2, c3, c4, c5, c6, c7, c8, c9⟩ := cells10 ROWC1.out))
    | (go_at_call 154; (with_reducible refine (HKD.out _ HB1.out).mono ?_); rintro e wx ⟨rfl, rfl⟩; obtain ⟨C0, C1, -⟩ := cells10 (ROWC1.out.more (.cells #[.int .i64 0, .slice none 0 0, .int .i64 0, .int .i64 0, .slice none 0 0, .bool false, .int .i64 0, .int .i64 0, .bool false, .bool false, .int .i64 0, .slice none 0 0, .int .i64 0, .slice none 0 0] 56)))
    | (go_at_call 155; (with_reducible refine (HCAL.out _ (bl_alloc HB1.out _)).mono ?_); rintro e w3 ⟨rfl, hb3⟩; (have HB3 := Lib.hid (bl_step (bl_alloc HB1.out (.cells #[.int .i64 0, .slice none 0 0, .int .i64 0, .int .i64 0, .slice none 0 0, .bool false, .int .i64 0, .int .i64 0, .bool false, .bool false, .int .i64 0, .slice none 0 0, .int .i64 0, .slice none 0 0] 56)) hb3); have ROWZ3 := Lib.hid ((ROWZ1.out.more (.cells #[.int .i64 0, .slice none 0 0, .int .i64 0, .int .i64 0, .slice none 0 0, .bool false, .int .i64 0, .int .i64 0, .bool false, .bool false, .int .i64 0, .slice none 0 0, .int .i64 0, .slice none 0 0] 56)).later hb3); have ROWQ3 := Lib.hid ((Row.made w1 56 #[.int .i64 0, .slice none 0 0, .int .i64 0, .int .i64 0, .slice none 0 0, .bool false, .int .i64 0, .int .i64 0, .bool false, .bool false, .int .i64 0, .slice none 0 0, .int .i64 0, .slice none 0 0]).later hb3); have hq : w.heap.size + 1 < w1.heap.size := ROWZ1.out.inside; clear hb3; generalize w1.heap.size = q at *; have RZ4 := Lib.hid (show Row (w3.setCell ⟨q, 1, none⟩ (.slice none 0 0)) (w.heap.size + 1) 56 #[.int .i64 0, .slice none 0 0, .int .i64 0, .int .i64 0, .slice none 0 0, .bool false, .int .i64 0, .int .i64 0, .bool false, .bool false, .int .i64 0, .slice none 0 0, .int .i64 0, .slice none 0 0] from (ROWZ3.out.elsewhere (p := ⟨q, 1, none⟩) (Nat.ne_of_lt hq) (.slice none 0 0))); have RQ4 := Lib.hid (show Row (w3.setCell ⟨q, 1, none⟩ (.slice none 0 0)) q 56 #[.int .i64 0, .slice none 0 0, .int .i64 0, .int .i64 0, .slice none 0 0, .bool false, .int .i64 0, .int .i64 0, .bool false, .bool false, .int .i64 0, .slice none 0 0, .int .i64 0, .slice none 0 0] from (ROWQ3.out.written 1 (.slice none 0 0))); have HB4 := Lib.hid (show Below w.heap.size w (w3.setCell ⟨q, 1, none⟩ (.slice none 0 0)) from (HB3.out.setCell (p := ⟨q, 1, none⟩) (by show w.heap.size ≤ q; omega) (.slice none 0 0))); obtain ⟨q0, q1, q2, q3, q4, q5, q6, q7, q8, q9, q10, q11, q12, q13⟩ := cells14 ROWQ3.out; obtain ⟨f0, f1, f2, f3, f4, f5, f6, f7, f8, f9, f10, f11, f12, f13⟩ := free14 ROWQ3.out; obtain ⟨r0, r1, r2, r3, r4, r5, r6, r7, r8, r9, r10, r11, r12, r13⟩ := cells14 RQ4.out; obtain ⟨z0, z1, z2, z3, z4, z5, z6, z7, z8, z9, z10, z11, z12, z13⟩ := cells14 RZ4.out; obtain ⟨y0, y1, y2, y3, y4, y5, y6, y7, y8, y9, y10, y11, y12, y13⟩ := free14 RZ4.out)))
  obtain ⟨dd, hdd⟩ := underun_parts
  refine bodyPost_ret (st_results_two rfl _ _ (w.heap.size + 1) 56 #[.int .i64 0, .slice none 0 0, .int .i64 0, .int .i64 0, .slice none 0 0, .bool false, .int .i64 0, .int .i64 0, .bool false, .bool false, .int .i64 0, .slice none 0 0, .int .i64 0, .slice none 0 0] dd rfl (row_set14 RZ4.out) hdd Try.infoun) rfl ?_
  exact ⟨rfl, below_set14 HB4.out (Nat.le_succ _) _ _ _ _ _ _ _ _ _ _ _ _ _ _⟩
end Go.Proofs.Ytfgjlhklioijmaa
namespace Go.Proofs.Ytfgjlhklioijmaa


/-- bytes cut into fields of these lengths, and a last one of what is left -/
def cutF : List Nat → List Nat → Option (List (List Nat))
  | bs, [] => if bs = [] then none else some [bs]
  | bs, m :: r => if m ≤ bs.length then (cutF (bs.drop m) r).map (bs.take m :: ·) else none
/-- behind fields that were cut the rest comes to what all comes to -/
def CInv (bs ls : List Nat) (acc : List (List Nat)) (c : Nat) : Prop := acc.length ≤ ls.length ∧ c ≤ bs.length ∧ cutF bs ls = (cutF (bs.drop c) (ls.drop acc.length)).map (acc ++ ·)
theorem CInv.start (bs ls : List Nat) : CInv bs ls [] 0 := ⟨Nat.zero_le _, Nat.zero_le _, by
  simp only [List.length_nil, List.drop_zero, List.nil_append]
  cases cutF bs ls <;> rfl⟩
section
variable {bs ls : List Nat} {acc : List (List Nat)} {c m : Nat}
theorem CInv.short (h : CInv bs ls acc c) (hm : ls[acc.length]? = some m) (h2 : bs.length - c < m) : cutF bs ls = none := by
  obtain ⟨h0, h1, h⟩ := h
  obtain ⟨hk, rfl⟩ := List.getElem?_eq_some_iff.1 hm
  rw [h, List.drop_eq_getElem_cons hk, cutF, if_neg (by rw [List.length_drop]; omega)]
  rfl
theorem CInv.next (h : CInv bs ls acc c) (hm : ls[acc.length]? = some m) (h2 : m ≤ bs.length - c) : CInv bs ls (acc ++ [(bs.drop c).take m]) (c + m) := by
  obtain ⟨h0, h1, h⟩ := h
  obtain ⟨hk, rfl⟩ := List.getElem?_eq_some_iff.1 hm
  refine ⟨by simp; omega, by omega, ?_⟩
  rw [h, List.drop_eq_getElem_cons hk, cutF, if_pos (by rw [List.length_drop]; omega), List.drop_drop, List.length_append, List.length_singleton]
  cases cutF (bs.drop (c + ls[acc.length])) (ls.drop (acc.length + 1)) <;> simp
theorem CInv.last_short (h : CInv bs ls acc c) (hm : acc.length = ls.length) (h2 : bs.length - c = 0) : cutF bs ls = none := by
  obtain ⟨h0, h1, h⟩ := h
  have h3 : bs.drop c = [] := List.eq_nil_of_length_eq_zero (by rw [List.length_drop]; exact h2)
  rw [h, List.drop_of_length_le (l := ls) (by omega), h3]
  rfl
theorem CInv.last (h : CInv bs ls acc c) (hm : acc.length = ls.length) (h2 : bs.length - c ≠ 0) : cutF bs ls = some (acc ++ [bs.drop c]) := by
  obtain ⟨h0, h1, h⟩ := h
  have h3 : bs.drop c ≠ [] := fun e => h2 (by rw [← List.length_drop, e]; rfl)
  have h4 : cutF (bs.drop c) [] = some [bs.drop c] := by unfold cutF; rw [if_neg h3]
  rw [h, List.drop_of_length_le (l := ls) (by omega), h4]
  rfl
end
theorem cutF_ok : ∀ {ls bs : List Nat} {t : List (List Nat)}, cutF bs ls = some t → t.flatten = bs ∧ t.length = ls.length + 1 ∧ (t.map List.length).take ls.length = ls ∧ ∃ x, t.getLast? = some x ∧ x ≠ []
  | [], bs, t, h => by
    unfold cutF at h
    split at h
    · cases h
    · injection h with h
      subst h
      refine ⟨by simp, by simp, by simp, bs, rfl, by assumption⟩
  | m :: r, bs, t, h => by
    unfold cutF at h
    split at h
    · rename_i hm
      rw [Option.map_eq_some_iff] at h
      obtain ⟨t', h1, rfl⟩ := h
      obtain ⟨a1, a2, a3, x, a4, a5⟩ := cutF_ok h1
      refine ⟨by rw [List.flatten_cons, a1, List.take_append_drop], by simp [a2], ?_, x, ?_, a5⟩
      · rw [List.map_cons, List.length_take, Nat.min_eq_left hm, List.length_cons, List.take_succ_cons, a3]
      · cases t' with
        | nil => simp at a4
        | cons y z => rw [List.getLast?_cons_cons]; exact a4
    · cases h
theorem cutF_back : ∀ (t : List (List Nat)), t ≠ [] → (∀ x, t.getLast? = some x → x ≠ []) → cutF t.flatten ((t.map List.length).take (t.length - 1)) = some t
  | [], h, _ => absurd rfl h
  | [x], _, h => by
    have hx := h x rfl
    simp [cutF, hx]
  | x :: y :: r, _, h => by
    have ih := cutF_back (y :: r) (by simp) (fun z hz => h z (by rw [List.getLast?_cons_cons]; exact hz))
    have e : ((x :: y :: r).map List.length).take ((x :: y :: r).length - 1) = x.length :: ((y :: r).map List.length).take ((y :: r).length - 1) := by simp
    rw [e, cutF, List.flatten_cons, if_pos (by rw [List.length_append]; omega), List.drop_left, List.take_left, ih]
    rfl
/-- .. or why there are none -/
def ansOf : Option (List (List Nat)) → Int × List (List Nat)
  | some t => (0, t)
  | none => (8, [])
/-- the fields behind a head, or why there are none -/
def fldR (bs : List Nat) (more : Bool) (wd : Nat) : Int × List (List Nat) :=
  if more then
    if (readF bs wd).2.2 = 0 then
      if (readF bs wd).1.any (fun x => decide (2047 < x)) then (3, [])
      else ansOf (cutF (bs.drop (readF bs wd).2.1) (readF bs wd).1)
    else ((readF bs wd).2.2, [])
  else ansOf (cutF bs [])
end Go.Proofs.Ytfgjlhklioijmaa
