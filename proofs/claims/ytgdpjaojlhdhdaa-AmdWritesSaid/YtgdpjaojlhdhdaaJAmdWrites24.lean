/-
  A packet's bytes of amd: the document's answer. A packet's bytes of amd: the document's Write walked. A packet's bytes of amd: the document's Write walked. A packet's bytes of amd: the document's Write walked. A packet's bytes of amd: the document's Write walked. A packet's data of amd: the document's answer.
-/
import Derived.Test.YtgdpjaojlhdhdaaJAmdWrites11
import Derived.Test.YtgdpjaojlhdhdaaJAmdWrites15
import Derived.Test.YtgdpjaojlhdhdaaJAmdWrites23
import Derived.Test.YtgdpjaojlhdhdaaJAmdWrites22
namespace Go.Proofs.Ytgdpjaojlhdhdaa
open Go.RowKit

theorem abool_tail {B n c : Nat} {W : World} {A : Option Addr} {bl : List Bool} (b : Bool) (m : Nat) (hm : n + 1 = m) (h : OwnB B W (.slice A n c) bl) (hn : bl.length = n) (hB : B ≤ W.heap.size) (hl : n ≤ 100000) :
    ∃ A' c' W', (Builtin.append_ #[95, 95] 95 #[.slice A n c, .slice (some ⟨W.heap.size, 0, none⟩) 1 1]).run Try.prog (W.alloc (.cells #[.bool b] 4)) = .ok (.slice A' m c') W' ∧ OwnB B W' (.slice A' m c') (bl ++ [b]) ∧ (bl ++ [b]).length = m ∧ Below B W W' := by
  subst hn hm
  obtain ⟨i0, hi, hi0, hi1, hi2⟩ := info_parts Try.info4
  obtain ⟨g, cap, w3, hr3, h2, h3, _, _⟩ := run_append_lies (P := Try.prog) (W.alloc (.cells #[.bool b] 4)) 95 95 B 4 i0 _ 1 1 Try.underlying95 hi hi0 hi1 hi2 rfl (by omega) (.slice A bl.length c) bl.length (bls bl) (h.1.alloc _) ⟨W.heap.size, 0, none⟩ 1 1 [.bool b] rfl
    (World.news_of_block (cs := #[.bool b]) (heap_alloc_new W _)) (by intro u hu; simp at hu; rw [hu]; rfl) (by omega) (by unfold maxLen; omega) (by omega) (by simp; omega) _ rfl
  obtain ⟨h5, h6⟩ := OwnB.more h (Below.refl B W) hB h2 h3
  exact ⟨_, cap, w3, hr3, h5, by simp, h6⟩
theorem abool_tail2 {B n c : Nat} {W : World} {A : Option Addr} {bl : List Bool} (b d : Bool) (m : Nat) (hm : n + 2 = m) (h : OwnB B W (.slice A n c) bl) (hn : bl.length = n) (hB : B ≤ W.heap.size) (hl : n ≤ 100000) :
    ∃ A' c' W', (Builtin.append_ #[95, 95] 95 #[.slice A n c, .slice (some ⟨W.heap.size, 0, none⟩) 2 2]).run Try.prog (W.alloc (.cells #[.bool b, .bool d] 4)) = .ok (.slice A' m c') W' ∧ OwnB B W' (.slice A' m c') (bl ++ [b, d]) ∧ (bl ++ [b, d]).length = m ∧ Below B W W' := by
  subst hn hm
  obtain ⟨i0, hi, hi0, hi1, hi2⟩ := info_parts Try.info4
  obtain ⟨g, cap, w3, hr3, h2, h3, _, _⟩ := run_append_lies (P := Try.prog) (W.alloc (.cells #[.bool b, .bool d] 4)) 95 95 B 4 i0 _ 1 1 Try.underlying95 hi hi0 hi1 hi2 rfl (by omega) (.slice A bl.length c) bl.length (bls bl) (h.1.alloc _) ⟨W.heap.size, 0, none⟩ 2 2 [.bool b, .bool d] rfl
    (World.news_of_block (cs := #[.bool b, .bool d]) (heap_alloc_new W _)) (by intro u hu; simp at hu; rcases hu with rfl | rfl <;> rfl) (by omega) (by unfold maxLen; omega) (by omega) (by simp; omega) _ rfl
  refine ⟨_, cap, w3, hr3, ⟨?_, fun h => by simp at h⟩, by simp, ((Below.refl B W).alloc hB _).grown h3 (by simp; omega) (fun r hr => (h.1.lt r hr).1)⟩
  rw [List.length_append, bls_append]
  exact h2
theorem abits3 (w : World) (a b c : Bool) : OwnB w.heap.size (w.alloc (.cells #[.bool a, .bool b, .bool c] 4)) (.slice (some ⟨w.heap.size, 0, none⟩) 3 3) [a, b, c] :=
  ⟨World.ownsRow_lit w #[.bool a, .bool b, .bool c] 3 (Nat.le_refl _) (by unfold maxLen; omega) rfl, fun h => by simp at h⟩
theorem arefput_at {nn c B : Nat} {w : World} {A : Option Addr} {bl : List Bool} (v n m : Nat) (ni : Int) (e : ni = n) (hm : nn + n = m) (hx : OwnB B w (.slice A nn c) bl) (hnn : bl.length = nn) (hn : n ≤ 64) (h : v < 2 ^ n) (hl : nn ≤ 1000) (hv : v < 18446744073709551616) :
    Calls Try.prog 189 #[.slice A nn c, .int .u64 v, .int .i64 ni] w fun e w' => ∃ A' c', e = .returned (.tuple #[.slice A' m c', .int .i64 0]) ∧ OwnB w.heap.size w' (.slice A' m c') (bl ++ unval v n) ∧ (bl ++ unval v n).length = m ∧ Below w.heap.size w w' := by
  subst e
  refine (refput_ok v n hx hn h (by omega) hv).mono ?_
  rintro e w' ⟨x, rfl, ho, hb⟩
  obtain ⟨A', c', rfl⟩ := ho.form
  have hl2 : (bl ++ unval v n).length = m := by rw [List.length_append, length_unval, hnn, hm]
  rw [hl2] at ho
  exact ⟨A', c', by rw [hl2], ho, hl2, hb⟩
theorem arefbytes_at {B nn c : Nat} {w : World} {A : Option Addr} {bl : List Bool} (hx : OwnB B w (.slice A nn c) bl) (hnn : bl.length = nn) (hl : nn ≤ 1000) :
    Calls Try.prog 191 #[.slice A nn c] w fun e w' => ∃ A' c', e = .returned (.slice A' (packLen nn) c') ∧ OwnY w.heap.size w' (.slice A' (packLen nn) c') (pack bl) ∧ Below w.heap.size w w' := by
  subst hnn
  refine (refbytes_any c hx.src (by omega)).mono ?_
  rintro e w' ⟨x, rfl, ho, hb⟩
  have hoy : OwnY w.heap.size w' x (pack bl) := by unfold OwnY; rw [length_pack]; exact ho
  obtain ⟨A', c', rfl, _⟩ := hoy.form
  rw [length_pack] at hoy ⊢
  exact ⟨A', c', rfl, hoy, hb⟩
end Go.Proofs.Ytgdpjaojlhdhdaa
namespace Go.Proofs.Ytgdpjaojlhdhdaa
open Go.RowKit

set_option maxRecDepth 100000 in
set_option maxHeartbeats 6400000 in
theorem rwr_10t {A : Option Addr} {L : List RowB} (poll last : Bool) (fi sn off n cap : Nat) (w : World) (hL : L.length = n) (hs : RSrc w A L) (h1 : 1 ≤ n) (h24 : n ≤ 24) (hok : okTo (lens L) (lens L).length = true) (hsum : (lens L).sum ≤ 9000) (hfi : fi < 2 ^ 2) (hsn : sn < 2 ^ 10) (hoff : off < 2 ^ 15) :
    Calls Try.prog 48 #[.agg #[.bool poll, .int .i64 fi, .int .i64 sn, .bool true, .bool last, .int .i64 off, .slice A n cap], .int .i64 10] w fun e w' => ∃ v', e = .returned v' ∧ OwnY w.heap.size w' v' (amdBytes poll true last fi sn off L 10) ∧ Below w.heap.size w w' := by
  have HMORE := Lib.hid (show decide ((1 : Int) < (n : Int)) = decide (1 < L.length) by apply decide_eq_decide.2; omega)
  have HT := Lib.hid (fun W A0 n0 c0 l (hb : Below w.heap.size w W) (hz : w.heap.size + 1 ≤ W.heap.size) (hv : OwnY (w.heap.size + 1) W (.slice A0 n0 c0) l) hn0 hn1 => rtail_any (A := A) (A0 := A0) (l := l) (w.heap.size + 1) n cap n0 c0 11 11 W (.inl rfl) rfl hL h1 h24 hok hsum (fun V hV => hs.later (hb.trans (hV.mono (Nat.le_succ _)))) hv hn0 hn1 hz)
  have hfw : IntKind.u64.wrap (fi : Int) = (fi : Int) := by rw [IntKind.wrap_u64]; omega
  have hsw : IntKind.u64.wrap (sn : Int) = (sn : Int) := by rw [IntKind.wrap_u64]; omega
  have how : IntKind.u64.wrap (off : Int) = (off : Int) := by rw [IntKind.wrap_u64]; omega
  have HW := Lib.hid (fun W => show Calls Try.prog 177 #[.int .i64 10] W fun e w' => e = .returned (.tuple #[.int .i64 11, .int .i64 15]) ∧ W = w' from rwidths_any 10 W)
  have HU := Lib.hid (show amdBytes poll true last fi sn off L 10 = pack ((((([true, true, poll] ++ unval fi 2) ++ [(decide (1 < L.length))]) ++ unval sn 10) ++ [last]) ++ unval off 15) ++ tailF (lens L) 11 ++ flat L from by
    unfold amdBytes
    have e : bitsP (putsA poll true last fi sn off (decide (1 < L.length)) 10) = ((((([true, true, poll] ++ unval fi 2) ++ [(decide (1 < L.length))]) ++ unval sn 10) ++ [last]) ++ unval off 15) := by
      unfold putsA
      generalize decide (1 < L.length) = more
      cases more <;> cases last <;> cases poll <;> simp [bitsP, unval]
    rw [e]
    rfl)
  generalize decide (1 < L.length) = more at *
  generalize amdBytes poll true last fi sn off L 10 = out at *
  generalize hv : tailF (lens L) 11 = tl at *
  have HFI := Lib.hid hfi
  have HSN := Lib.hid hsn
  have HOF := Lib.hid hoff
  clear hok hs hL hsum hv hfi hsn hoff
  have ROW0 := Lib.hid (Row.made w 60 #[.bool poll, .int .i64 fi, .int .i64 sn, .bool true, .bool last, .int .i64 off, .slice A n cap])
  have HB0 := Lib.hid (bl_alloc (Below.refl w.heap.size w) (.cells #[.bool poll, .int .i64 fi, .int .i64 sn, .bool true, .bool last, .int .i64 off, .slice A n cap] 60))
  have HBA := Lib.hid (bl_alloc HB0.out (.cells #[.bool true, .bool true, .bool poll] 4))
  have ROWA := Lib.hid (ROW0.out.more (.cells #[.bool true, .bool true, .bool poll] 4))
  have hx0 := abits3 (w.alloc (.cells #[.bool poll, .int .i64 fi, .int .i64 sn, .bool true, .bool last, .int .i64 off, .slice A n cap] 60)) true true poll
  have HX0 := Lib.hid hx0
  have HP0 := Lib.hid (arefput_at (c := 3) (nn := 3) fi 2 5 2 rfl rfl hx0 rfl (by omega) HFI.out (by omega) (by have := HFI.out; omega))
  rw [show (w.alloc (.cells #[.bool poll, .int .i64 fi, .int .i64 sn, .bool true, .bool last, .int .i64 off, .slice A n cap] 60)).heap.size = w.heap.size + 1 by simp] at HP0
  clear hx0
  go_enter Try.func48, Try.ntmps48
  go_wp2_with (first
    | (go_at_call 177; refine (HW.out _).mono ?_; rintro e wx ⟨rfl, rfl⟩)
    | (go_at_call 189; (with_reducible refine HP0.out.mono ?_); rintro e w1 ⟨A1, c1, rfl, ho1, hn1, hb1⟩; (have HB1 := Lib.hid (bl_step HBA.out hb1); have ROW1 := Lib.hid (ROWA.out.later hb1); have HO1 := Lib.hid (show OwnB _ w1 _ ([true, true, poll] ++ unval fi 2) from ho1); have HN1 := Lib.hid (show ([true, true, poll] ++ unval fi 2).length = 5 from hn1); obtain ⟨d0, d1, d2, d3, d4, d5, d6⟩ := (cells_ref10 (ROWA.out.later hb1)).1; have HS1 := Lib.hid hb1.size; clear ho1 hn1 hb1); obtain ⟨B1, e1, u1, hr1, hp1, hq1, hz1⟩ := abool_tail (decide ((1 : Int) < (n : Int))) 6 rfl HO1.out HN1.out HS1.out (by omega); rw [HMORE.out] at hp1 hq1; (have ROWU1 := Lib.hid (ROW1.out.under hz1 ROWA.out.inside); have HBU1 := Lib.hid (HB1.out.trans (hz1.mono (Nat.le_of_lt ROWA.out.inside))); have HPU1 := Lib.hid hp1; have HQU1 := Lib.hid hq1; have HSU1 := Lib.hid (Nat.le_trans HS1.out hz1.size); clear hp1 hq1 hz1); obtain ⟨g0, g1, g2, g3, g4, g5, g6⟩ := (cells_ref10 ROWU1.out).1; have HP2 := Lib.hid (arefput_at sn 10 16 10 rfl rfl HPU1.out HQU1.out (by omega) HSN.out (by omega) (by have := HSN.out; omega)))
    | (at_builtin; refine wpList_run rfl (.tmp 26) (.tmp 31) 95 rfl (.slice A1 5 c1) (.slice (some ⟨w1.heap.size, 0, none⟩) 1 1) (by rfl) (by rfl) hr1 ?_)
    | (go_at_call 189; (with_reducible refine HP2.out.mono ?_); rintro e w3 ⟨A3, c3, rfl, ho3, hn3, hb3⟩; (have HB3 := Lib.hid (bl_step HBU1.out hb3); have ROW3 := Lib.hid (ROWU1.out.later hb3); have HO3 := Lib.hid (show OwnB _ w3 _ ((([true, true, poll] ++ unval fi 2) ++ [more]) ++ unval sn 10) from ho3); have HN3 := Lib.hid (show ((([true, true, poll] ++ unval fi 2) ++ [more]) ++ unval sn 10).length = 16 from hn3); obtain ⟨d0, d1, d2, d3, d4, d5, d6⟩ := (cells_ref10 (ROWU1.out.later hb3)).1; have HS3 := Lib.hid hb3.size; clear ho3 hn3 hb3); obtain ⟨B3, e3, u3, hr3, hp3, hq3, hz3⟩ := abool_tail last 17 rfl HO3.out HN3.out HS3.out (by omega); (have ROWU3 := Lib.hid (ROW3.out.under hz3 ROWU1.out.inside); have HBU3 := Lib.hid (HB3.out.trans (hz3.mono (Nat.le_of_lt ROWU1.out.inside))); have HPU3 := Lib.hid hp3; have HQU3 := Lib.hid hq3; have HSU3 := Lib.hid (Nat.le_trans HS3.out hz3.size); clear hp3 hq3 hz3); obtain ⟨g0, g1, g2, g3, g4, g5, g6⟩ := (cells_ref10 ROWU3.out).1; have HP4 := Lib.hid (arefput_at off 15 32 15 rfl rfl HPU3.out HQU3.out (by omega) HOF.out (by omega) (by have := HOF.out; omega)))
    | (at_builtin; refine wpList_run rfl (.tmp 55) (.tmp 58) 95 rfl (.slice A3 16 c3) (.slice (some ⟨w3.heap.size, 0, none⟩) 1 1) (by rfl) (by rfl) hr3 ?_)
    | (go_at_call 189; (with_reducible refine HP4.out.mono ?_); rintro e w5 ⟨A5, c5, rfl, ho5, hn5, hb5⟩; (have HB5 := Lib.hid (bl_step HBU3.out hb5); have ROW5 := Lib.hid (ROWU3.out.later hb5); have HO5 := Lib.hid (show OwnB _ w5 _ ((((([true, true, poll] ++ unval fi 2) ++ [more]) ++ unval sn 10) ++ [last]) ++ unval off 15) from ho5); have HN5 := Lib.hid (show ((((([true, true, poll] ++ unval fi 2) ++ [more]) ++ unval sn 10) ++ [last]) ++ unval off 15).length = 32 from hn5); obtain ⟨d0, d1, d2, d3, d4, d5, d6⟩ := (cells_ref10 (ROWU3.out.later hb5)).1; have HS5 := Lib.hid hb5.size; clear ho5 hn5 hb5); have HBY := Lib.hid (arefbytes_at (HO5.out.later (bl_drew (Below.refl _ _))) HN5.out (by omega))))
  rw [show packLen 32 = 4 from rfl] at HBY
  have z6 : w5.drew.cell? ⟨w.heap.size, 6, none⟩ = some (.slice A n cap) := ROW5.out.read (i := 6) rfl
  have HPK := Lib.hid (show (pack ((((([true, true, poll] ++ unval fi 2) ++ [more]) ++ unval sn 10) ++ [last]) ++ unval off 15)).length = 4 by rw [length_pack, HN5.out]; rfl)
  go_region_held3 (fun w' => w'.cell? ⟨w.heap.size, 6, none⟩ = some (.slice A n cap)) (first | assumption | go_keep) (first
    | (go_at_call 191; (with_reducible refine HBY.out.mono ?_); rintro e v1 ⟨A4, c4, rfl, ho4, hv1⟩; have HW1 := Lib.hid (HB5.out.trans ((bl_step (bl_drew (Below.refl w5.heap.size w5)) hv1).mono HB5.out.size)); have HT1 := Lib.hid (HT.out v1 A4 4 c4 _ HW1.out (Nat.lt_of_lt_of_le ROW5.out.inside hv1.size) (ho4.down ROW5.out.inside) HPK.out (by omega)); have k1 : v1.cell? ⟨w.heap.size, 6, none⟩ = some (.slice A n cap) := kept_box hv1 z6; clear ho4)
    | (go_at_call 190; (with_reducible refine HT1.out.mono ?_); rintro e v2 ⟨x2, rfl, ho2', hv2⟩; obtain ⟨A2', c2', hx2, _⟩ := ho2'.form; rw [HU.out.symm] at ho2' hx2; generalize out.length = n2 at hx2; subst hx2; have HO2' := Lib.hid (ho2'.down (Nat.le_succ _)); have HW2 := Lib.hid (HW1.out.trans (hv2.mono (Nat.le_succ _))); have k2 : v2.cell? ⟨w.heap.size, 6, none⟩ = some (.slice A n cap) := (hv2.cell (p := ⟨w.heap.size, 6, none⟩) (Nat.lt_succ_self _)).trans k1))
  go_wp2
  go_ret
  exact ⟨_, rfl, HO2'.out, HW2.out⟩
end Go.Proofs.Ytgdpjaojlhdhdaa
namespace Go.Proofs.Ytgdpjaojlhdhdaa
open Go.RowKit

set_option maxRecDepth 100000 in
set_option maxHeartbeats 6400000 in
theorem rwr_10f {A : Option Addr} {L : List RowB} (poll last : Bool) (fi sn off n cap : Nat) (w : World) (hL : L.length = n) (hs : RSrc w A L) (h1 : 1 ≤ n) (h24 : n ≤ 24) (hok : okTo (lens L) (lens L).length = true) (hsum : (lens L).sum ≤ 9000) (hfi : fi < 2 ^ 2) (hsn : sn < 2 ^ 10) (hoff : off < 2 ^ 15) :
    Calls Try.prog 48 #[.agg #[.bool poll, .int .i64 fi, .int .i64 sn, .bool false, .bool last, .int .i64 off, .slice A n cap], .int .i64 10] w fun e w' => ∃ v', e = .returned v' ∧ OwnY w.heap.size w' v' (amdBytes poll false last fi sn off L 10) ∧ Below w.heap.size w w' := by
  have HMORE := Lib.hid (show decide ((1 : Int) < (n : Int)) = decide (1 < L.length) by apply decide_eq_decide.2; omega)
  have HT := Lib.hid (fun W A0 n0 c0 l (hb : Below w.heap.size w W) (hz : w.heap.size + 1 ≤ W.heap.size) (hv : OwnY (w.heap.size + 1) W (.slice A0 n0 c0) l) hn0 hn1 => rtail_any (A := A) (A0 := A0) (l := l) (w.heap.size + 1) n cap n0 c0 11 11 W (.inl rfl) rfl hL h1 h24 hok hsum (fun V hV => hs.later (hb.trans (hV.mono (Nat.le_succ _)))) hv hn0 hn1 hz)
  have hfw : IntKind.u64.wrap (fi : Int) = (fi : Int) := by rw [IntKind.wrap_u64]; omega
  have hsw : IntKind.u64.wrap (sn : Int) = (sn : Int) := by rw [IntKind.wrap_u64]; omega
  have how : IntKind.u64.wrap (off : Int) = (off : Int) := by rw [IntKind.wrap_u64]; omega
  have HW := Lib.hid (fun W => show Calls Try.prog 177 #[.int .i64 10] W fun e w' => e = .returned (.tuple #[.int .i64 11, .int .i64 15]) ∧ W = w' from rwidths_any 10 W)
  have HU := Lib.hid (show amdBytes poll false last fi sn off L 10 = pack ((([true, false, poll] ++ unval fi 2) ++ [(decide (1 < L.length))]) ++ unval sn 10) ++ tailF (lens L) 11 ++ flat L from by
    unfold amdBytes
    have e : bitsP (putsA poll false last fi sn off (decide (1 < L.length)) 10) = ((([true, false, poll] ++ unval fi 2) ++ [(decide (1 < L.length))]) ++ unval sn 10) := by
      unfold putsA
      generalize decide (1 < L.length) = more
      cases more <;> cases last <;> cases poll <;> simp [bitsP, unval]
    rw [e]
    rfl)
  generalize decide (1 < L.length) = more at *
  generalize amdBytes poll false last fi sn off L 10 = out at *
  generalize hv : tailF (lens L) 11 = tl at *
  have HFI := Lib.hid hfi
  have HSN := Lib.hid hsn
  have HOF := Lib.hid hoff
  clear hok hs hL hsum hv hfi hsn hoff
  have ROW0 := Lib.hid (Row.made w 60 #[.bool poll, .int .i64 fi, .int .i64 sn, .bool false, .bool last, .int .i64 off, .slice A n cap])
  have HB0 := Lib.hid (bl_alloc (Below.refl w.heap.size w) (.cells #[.bool poll, .int .i64 fi, .int .i64 sn, .bool false, .bool last, .int .i64 off, .slice A n cap] 60))
  have HBA := Lib.hid (bl_alloc HB0.out (.cells #[.bool true, .bool false, .bool poll] 4))
  have ROWA := Lib.hid (ROW0.out.more (.cells #[.bool true, .bool false, .bool poll] 4))
  have hx0 := abits3 (w.alloc (.cells #[.bool poll, .int .i64 fi, .int .i64 sn, .bool false, .bool last, .int .i64 off, .slice A n cap] 60)) true false poll
  have HX0 := Lib.hid hx0
  have HP0 := Lib.hid (arefput_at (c := 3) (nn := 3) fi 2 5 2 rfl rfl hx0 rfl (by omega) HFI.out (by omega) (by have := HFI.out; omega))
  rw [show (w.alloc (.cells #[.bool poll, .int .i64 fi, .int .i64 sn, .bool false, .bool last, .int .i64 off, .slice A n cap] 60)).heap.size = w.heap.size + 1 by simp] at HP0
  clear hx0
  go_enter Try.func48, Try.ntmps48
  go_wp2_with (first
    | (go_at_call 177; refine (HW.out _).mono ?_; rintro e wx ⟨rfl, rfl⟩)
    | (go_at_call 189; (with_reducible refine HP0.out.mono ?_); rintro e w1 ⟨A1, c1, rfl, ho1, hn1, hb1⟩; (have HB1 := Lib.hid (bl_step HBA.out hb1); have ROW1 := Lib.hid (ROWA.out.later hb1); have HO1 := Lib.hid (show OwnB _ w1 _ ([true, false, poll] ++ unval fi 2) from ho1); have HN1 := Lib.hid (show ([true, false, poll] ++ unval fi 2).length = 5 from hn1); obtain ⟨d0, d1, d2, d3, d4, d5, d6⟩ := (cells_ref10 (ROWA.out.later hb1)).1; have HS1 := Lib.hid hb1.size; clear ho1 hn1 hb1); obtain ⟨B1, e1, u1, hr1, hp1, hq1, hz1⟩ := abool_tail (decide ((1 : Int) < (n : Int))) 6 rfl HO1.out HN1.out HS1.out (by omega); rw [HMORE.out] at hp1 hq1; (have ROWU1 := Lib.hid (ROW1.out.under hz1 ROWA.out.inside); have HBU1 := Lib.hid (HB1.out.trans (hz1.mono (Nat.le_of_lt ROWA.out.inside))); have HPU1 := Lib.hid hp1; have HQU1 := Lib.hid hq1; have HSU1 := Lib.hid (Nat.le_trans HS1.out hz1.size); clear hp1 hq1 hz1); obtain ⟨g0, g1, g2, g3, g4, g5, g6⟩ := (cells_ref10 ROWU1.out).1; have HP2 := Lib.hid (arefput_at sn 10 16 10 rfl rfl HPU1.out HQU1.out (by omega) HSN.out (by omega) (by have := HSN.out; omega)))
    | (at_builtin; refine wpList_run rfl (.tmp 26) (.tmp 31) 95 rfl (.slice A1 5 c1) (.slice (some ⟨w1.heap.size, 0, none⟩) 1 1) (by rfl) (by rfl) hr1 ?_)
    | (go_at_call 189; (with_reducible refine HP2.out.mono ?_); rintro e w3 ⟨A3, c3, rfl, ho3, hn3, hb3⟩; (have HB3 := Lib.hid (bl_step HBU1.out hb3); have ROW3 := Lib.hid (ROWU1.out.later hb3); have HO3 := Lib.hid (show OwnB _ w3 _ ((([true, false, poll] ++ unval fi 2) ++ [more]) ++ unval sn 10) from ho3); have HN3 := Lib.hid (show ((([true, false, poll] ++ unval fi 2) ++ [more]) ++ unval sn 10).length = 16 from hn3); obtain ⟨d0, d1, d2, d3, d4, d5, d6⟩ := (cells_ref10 (ROWU1.out.later hb3)).1; have HS3 := Lib.hid hb3.size; clear ho3 hn3 hb3); have HBY := Lib.hid (arefbytes_at (HO3.out.later (bl_drew (Below.refl _ _))) HN3.out (by omega))))
  rw [show packLen 16 = 2 from rfl] at HBY
  have z6 : w3.drew.cell? ⟨w.heap.size, 6, none⟩ = some (.slice A n cap) := ROW3.out.read (i := 6) rfl
  have HPK := Lib.hid (show (pack ((([true, false, poll] ++ unval fi 2) ++ [more]) ++ unval sn 10)).length = 2 by rw [length_pack, HN3.out]; rfl)
  go_region_held3 (fun w' => w'.cell? ⟨w.heap.size, 6, none⟩ = some (.slice A n cap)) (first | assumption | go_keep) (first
    | (go_at_call 191; (with_reducible refine HBY.out.mono ?_); rintro e v1 ⟨A4, c4, rfl, ho4, hv1⟩; have HW1 := Lib.hid (HB3.out.trans ((bl_step (bl_drew (Below.refl w3.heap.size w3)) hv1).mono HB3.out.size)); have HT1 := Lib.hid (HT.out v1 A4 2 c4 _ HW1.out (Nat.lt_of_lt_of_le ROW3.out.inside hv1.size) (ho4.down ROW3.out.inside) HPK.out (by omega)); have k1 : v1.cell? ⟨w.heap.size, 6, none⟩ = some (.slice A n cap) := kept_box hv1 z6; clear ho4)
    | (go_at_call 190; (with_reducible refine HT1.out.mono ?_); rintro e v2 ⟨x2, rfl, ho2', hv2⟩; obtain ⟨A2', c2', hx2, _⟩ := ho2'.form; rw [HU.out.symm] at ho2' hx2; generalize out.length = n2 at hx2; subst hx2; have HO2' := Lib.hid (ho2'.down (Nat.le_succ _)); have HW2 := Lib.hid (HW1.out.trans (hv2.mono (Nat.le_succ _))); have k2 : v2.cell? ⟨w.heap.size, 6, none⟩ = some (.slice A n cap) := (hv2.cell (p := ⟨w.heap.size, 6, none⟩) (Nat.lt_succ_self _)).trans k1))
  go_wp2
  go_ret
  exact ⟨_, rfl, HO2'.out, HW2.out⟩
end Go.Proofs.Ytgdpjaojlhdhdaa
namespace Go.Proofs.Ytgdpjaojlhdhdaa
open Go.RowKit

set_option maxRecDepth 100000 in
set_option maxHeartbeats 6400000 in
theorem rwr_16t {A : Option Addr} {L : List RowB} (poll last : Bool) (fi sn off n cap : Nat) (w : World) (hL : L.length = n) (hs : RSrc w A L) (h1 : 1 ≤ n) (h24 : n ≤ 24) (hok : okTo (lens L) (lens L).length = true) (hsum : (lens L).sum ≤ 9000) (hfi : fi < 2 ^ 2) (hsn : sn < 2 ^ 16) (hoff : off < 2 ^ 16) :
    Calls Try.prog 48 #[.agg #[.bool poll, .int .i64 fi, .int .i64 sn, .bool true, .bool last, .int .i64 off, .slice A n cap], .int .i64 16] w fun e w' => ∃ v', e = .returned v' ∧ OwnY w.heap.size w' v' (amdBytes poll true last fi sn off L 16) ∧ Below w.heap.size w w' := by
  have HMORE := Lib.hid (show decide ((1 : Int) < (n : Int)) = decide (1 < L.length) by apply decide_eq_decide.2; omega)
  have HT := Lib.hid (fun W A0 n0 c0 l (hb : Below w.heap.size w W) (hz : w.heap.size + 1 ≤ W.heap.size) (hv : OwnY (w.heap.size + 1) W (.slice A0 n0 c0) l) hn0 hn1 => rtail_any (A := A) (A0 := A0) (l := l) (w.heap.size + 1) n cap n0 c0 15 15 W (.inr rfl) rfl hL h1 h24 hok hsum (fun V hV => hs.later (hb.trans (hV.mono (Nat.le_succ _)))) hv hn0 hn1 hz)
  have hfw : IntKind.u64.wrap (fi : Int) = (fi : Int) := by rw [IntKind.wrap_u64]; omega
  have hsw : IntKind.u64.wrap (sn : Int) = (sn : Int) := by rw [IntKind.wrap_u64]; omega
  have how : IntKind.u64.wrap (off : Int) = (off : Int) := by rw [IntKind.wrap_u64]; omega
  have HW := Lib.hid (fun W => show Calls Try.prog 177 #[.int .i64 16] W fun e w' => e = .returned (.tuple #[.int .i64 15, .int .i64 16]) ∧ W = w' from rwidths_any 16 W)
  have HU := Lib.hid (show amdBytes poll true last fi sn off L 16 = pack ((((([true, true, poll] ++ unval fi 2) ++ [(decide (1 < L.length))]) ++ [last, false]) ++ unval sn 16) ++ unval off 16) ++ tailF (lens L) 15 ++ flat L from by
    unfold amdBytes
    have e : bitsP (putsA poll true last fi sn off (decide (1 < L.length)) 16) = ((((([true, true, poll] ++ unval fi 2) ++ [(decide (1 < L.length))]) ++ [last, false]) ++ unval sn 16) ++ unval off 16) := by
      unfold putsA
      generalize decide (1 < L.length) = more
      cases more <;> cases last <;> cases poll <;> simp [bitsP, unval]
    rw [e]
    rfl)
  generalize decide (1 < L.length) = more at *
  generalize amdBytes poll true last fi sn off L 16 = out at *
  generalize hv : tailF (lens L) 15 = tl at *
  have HFI := Lib.hid hfi
  have HSN := Lib.hid hsn
  have HOF := Lib.hid hoff
  clear hok hs hL hsum hv hfi hsn hoff
  have ROW0 := Lib.hid (Row.made w 60 #[.bool poll, .int .i64 fi, .int .i64 sn, .bool true, .bool last, .int .i64 off, .slice A n cap])
  have HB0 := Lib.hid (bl_alloc (Below.refl w.heap.size w) (.cells #[.bool poll, .int .i64 fi, .int .i64 sn, .bool true, .bool last, .int .i64 off, .slice A n cap] 60))
  have HBA := Lib.hid (bl_alloc HB0.out (.cells #[.bool true, .bool true, .bool poll] 4))
  have ROWA := Lib.hid (ROW0.out.more (.cells #[.bool true, .bool true, .bool poll] 4))
  have hx0 := abits3 (w.alloc (.cells #[.bool poll, .int .i64 fi, .int .i64 sn, .bool true, .bool last, .int .i64 off, .slice A n cap] 60)) true true poll
  have HX0 := Lib.hid hx0
  have HP0 := Lib.hid (arefput_at (c := 3) (nn := 3) fi 2 5 2 rfl rfl hx0 rfl (by omega) HFI.out (by omega) (by have := HFI.out; omega))
  rw [show (w.alloc (.cells #[.bool poll, .int .i64 fi, .int .i64 sn, .bool true, .bool last, .int .i64 off, .slice A n cap] 60)).heap.size = w.heap.size + 1 by simp] at HP0
  clear hx0
  go_enter Try.func48, Try.ntmps48
  go_wp2_with (first
    | (go_at_call 177; refine (HW.out _).mono ?_; rintro e wx ⟨rfl, rfl⟩)
    | (go_at_call 189; (with_reducible refine HP0.out.mono ?_); rintro e w1 ⟨A1, c1, rfl, ho1, hn1, hb1⟩; (have HB1 := Lib.hid (bl_step HBA.out hb1); have ROW1 := Lib.hid (ROWA.out.later hb1); have HO1 := Lib.hid (show OwnB _ w1 _ ([true, true, poll] ++ unval fi 2) from ho1); have HN1 := Lib.hid (show ([true, true, poll] ++ unval fi 2).length = 5 from hn1); obtain ⟨d0, d1, d2, d3, d4, d5, d6⟩ := (cells_ref10 (ROWA.out.later hb1)).1; have HS1 := Lib.hid hb1.size; clear ho1 hn1 hb1); obtain ⟨B1, e1, u1, hr1, hp1, hq1, hz1⟩ := abool_tail (decide ((1 : Int) < (n : Int))) 6 rfl HO1.out HN1.out HS1.out (by omega); rw [HMORE.out] at hp1 hq1; (have ROWU1 := Lib.hid (ROW1.out.under hz1 ROWA.out.inside); have HBU1 := Lib.hid (HB1.out.trans (hz1.mono (Nat.le_of_lt ROWA.out.inside))); have HPU1 := Lib.hid hp1; have HQU1 := Lib.hid hq1; have HSU1 := Lib.hid (Nat.le_trans HS1.out hz1.size); clear hp1 hq1 hz1); obtain ⟨g0, g1, g2, g3, g4, g5, g6⟩ := (cells_ref10 ROWU1.out).1; obtain ⟨B2, e2, u2, hr2, hp2, hq2, hz2⟩ := abool_tail2 last false 8 rfl HPU1.out HQU1.out HSU1.out (by omega); (have ROWU2 := Lib.hid (ROWU1.out.under hz2 ROWA.out.inside); have HBU2 := Lib.hid (HBU1.out.trans (hz2.mono (Nat.le_of_lt ROWA.out.inside))); have HPU2 := Lib.hid hp2; have HQU2 := Lib.hid hq2; have HSU2 := Lib.hid (Nat.le_trans HSU1.out hz2.size); clear hp2 hq2 hz2); obtain ⟨g0, g1, g2, g3, g4, g5, g6⟩ := (cells_ref10 ROWU2.out).1; have HP3 := Lib.hid (arefput_at sn 16 24 16 rfl rfl HPU2.out HQU2.out (by omega) HSN.out (by omega) (by have := HSN.out; omega)))
    | (at_builtin; refine wpList_run rfl (.tmp 26) (.tmp 31) 95 rfl (.slice A1 5 c1) (.slice (some ⟨w1.heap.size, 0, none⟩) 1 1) (by rfl) (by rfl) hr1 ?_)
    | (at_builtin; refine wpList_run rfl (.tmp 35) (.tmp 38) 95 rfl (.slice B1 6 e1) (.slice (some ⟨u1.heap.size, 0, none⟩) 2 2) (by rfl) (by rfl) hr2 ?_)
    | (go_at_call 189; (with_reducible refine HP3.out.mono ?_); rintro e w4 ⟨A4, c4, rfl, ho4, hn4, hb4⟩; (have HB4 := Lib.hid (bl_step HBU2.out hb4); have ROW4 := Lib.hid (ROWU2.out.later hb4); have HO4 := Lib.hid (show OwnB _ w4 _ (((([true, true, poll] ++ unval fi 2) ++ [more]) ++ [last, false]) ++ unval sn 16) from ho4); have HN4 := Lib.hid (show (((([true, true, poll] ++ unval fi 2) ++ [more]) ++ [last, false]) ++ unval sn 16).length = 24 from hn4); obtain ⟨d0, d1, d2, d3, d4, d5, d6⟩ := (cells_ref10 (ROWU2.out.later hb4)).1; have HS4 := Lib.hid hb4.size; clear ho4 hn4 hb4); have HP4 := Lib.hid (arefput_at off 16 40 16 rfl rfl HO4.out HN4.out (by omega) HOF.out (by omega) (by have := HOF.out; omega)))
    | (go_at_call 189; (with_reducible refine HP4.out.mono ?_); rintro e w5 ⟨A5, c5, rfl, ho5, hn5, hb5⟩; (have HB5 := Lib.hid (bl_step HB4.out hb5); have ROW5 := Lib.hid (ROW4.out.later hb5); have HO5 := Lib.hid (show OwnB _ w5 _ ((((([true, true, poll] ++ unval fi 2) ++ [more]) ++ [last, false]) ++ unval sn 16) ++ unval off 16) from ho5); have HN5 := Lib.hid (show ((((([true, true, poll] ++ unval fi 2) ++ [more]) ++ [last, false]) ++ unval sn 16) ++ unval off 16).length = 40 from hn5); obtain ⟨d0, d1, d2, d3, d4, d5, d6⟩ := (cells_ref10 (ROW4.out.later hb5)).1; have HS5 := Lib.hid hb5.size; clear ho5 hn5 hb5); have HBY := Lib.hid (arefbytes_at (HO5.out.later (bl_drew (Below.refl _ _))) HN5.out (by omega))))
  rw [show packLen 40 = 5 from rfl] at HBY
  have z6 : w5.drew.cell? ⟨w.heap.size, 6, none⟩ = some (.slice A n cap) := ROW5.out.read (i := 6) rfl
  have HPK := Lib.hid (show (pack ((((([true, true, poll] ++ unval fi 2) ++ [more]) ++ [last, false]) ++ unval sn 16) ++ unval off 16)).length = 5 by rw [length_pack, HN5.out]; rfl)
  go_region_held3 (fun w' => w'.cell? ⟨w.heap.size, 6, none⟩ = some (.slice A n cap)) (first | assumption | go_keep) (first
    | (go_at_call 191; (with_reducible refine HBY.out.mono ?_); rintro e v1 ⟨A4, c4, rfl, ho4, hv1⟩; have HW1 := Lib.hid (HB5.out.trans ((bl_step (bl_drew (Below.refl w5.heap.size w5)) hv1).mono HB5.out.size)); have HT1 := Lib.hid (HT.out v1 A4 5 c4 _ HW1.out (Nat.lt_of_lt_of_le ROW5.out.inside hv1.size) (ho4.down ROW5.out.inside) HPK.out (by omega)); have k1 : v1.cell? ⟨w.heap.size, 6, none⟩ = some (.slice A n cap) := kept_box hv1 z6; clear ho4)
    | (go_at_call 190; (with_reducible refine HT1.out.mono ?_); rintro e v2 ⟨x2, rfl, ho2', hv2⟩; obtain ⟨A2', c2', hx2, _⟩ := ho2'.form; rw [HU.out.symm] at ho2' hx2; generalize out.length = n2 at hx2; subst hx2; have HO2' := Lib.hid (ho2'.down (Nat.le_succ _)); have HW2 := Lib.hid (HW1.out.trans (hv2.mono (Nat.le_succ _))); have k2 : v2.cell? ⟨w.heap.size, 6, none⟩ = some (.slice A n cap) := (hv2.cell (p := ⟨w.heap.size, 6, none⟩) (Nat.lt_succ_self _)).trans k1))
  go_wp2
  go_ret
  exact ⟨_, rfl, HO2'.out, HW2.out⟩
end Go.Proofs.Ytgdpjaojlhdhdaa
namespace Go.Proofs.Ytgdpjaojlhdhdaa
open Go.RowKit

set_option maxRecDepth 100000 in
set_option maxHeartbeats 6400000 in
theorem rwr_16f {A : Option Addr} {L : List RowB} (poll last : Bool) (fi sn off n cap : Nat) (w : World) (hL : L.length = n) (hs : RSrc w A L) (h1 : 1 ≤ n) (h24 : n ≤ 24) (hok : okTo (lens L) (lens L).length = true) (hsum : (lens L).sum ≤ 9000) (hfi : fi < 2 ^ 2) (hsn : sn < 2 ^ 16) (hoff : off < 2 ^ 16) :
    Calls Try.prog 48 #[.agg #[.bool poll, .int .i64 fi, .int .i64 sn, .bool false, .bool last, .int .i64 off, .slice A n cap], .int .i64 16] w fun e w' => ∃ v', e = .returned v' ∧ OwnY w.heap.size w' v' (amdBytes poll false last fi sn off L 16) ∧ Below w.heap.size w w' := by
  have HMORE := Lib.hid (show decide ((1 : Int) < (n : Int)) = decide (1 < L.length) by apply decide_eq_decide.2; omega)
  have HT := Lib.hid (fun W A0 n0 c0 l (hb : Below w.heap.size w W) (hz : w.heap.size + 1 ≤ W.heap.size) (hv : OwnY (w.heap.size + 1) W (.slice A0 n0 c0) l) hn0 hn1 => rtail_any (A := A) (A0 := A0) (l := l) (w.heap.size + 1) n cap n0 c0 15 15 W (.inr rfl) rfl hL h1 h24 hok hsum (fun V hV => hs.later (hb.trans (hV.mono (Nat.le_succ _)))) hv hn0 hn1 hz)
  have hfw : IntKind.u64.wrap (fi : Int) = (fi : Int) := by rw [IntKind.wrap_u64]; omega
  have hsw : IntKind.u64.wrap (sn : Int) = (sn : Int) := by rw [IntKind.wrap_u64]; omega
  have how : IntKind.u64.wrap (off : Int) = (off : Int) := by rw [IntKind.wrap_u64]; omega
  have HW := Lib.hid (fun W => show Calls Try.prog 177 #[.int .i64 16] W fun e w' => e = .returned (.tuple #[.int .i64 15, .int .i64 16]) ∧ W = w' from rwidths_any 16 W)
  have HU := Lib.hid (show amdBytes poll false last fi sn off L 16 = pack (((([true, false, poll] ++ unval fi 2) ++ [(decide (1 < L.length))]) ++ [last, false]) ++ unval sn 16) ++ tailF (lens L) 15 ++ flat L from by
    unfold amdBytes
    have e : bitsP (putsA poll false last fi sn off (decide (1 < L.length)) 16) = (((([true, false, poll] ++ unval fi 2) ++ [(decide (1 < L.length))]) ++ [last, false]) ++ unval sn 16) := by
      unfold putsA
      generalize decide (1 < L.length) = more
      cases more <;> cases last <;> cases poll <;> simp [bitsP, unval]
    rw [e]
    rfl)
  generalize decide (1 < L.length) = more at *
  generalize amdBytes poll false last fi sn off L 16 = out at *
  generalize hv : tailF (lens L) 15 = tl at *
  have HFI := Lib.hid hfi
  have HSN := Lib.hid hsn
  have HOF := Lib.hid hoff
  clear hok hs hL hsum hv hfi hsn hoff
  have ROW0 := Lib.hid (Row.made w 60 #[.bool poll, .int .i64 fi, .int .i64 sn, .bool false, .bool last, .int .i64 off, .slice A n cap])
  have HB0 := Lib.hid (bl_alloc (Below.refl w.heap.size w) (.cells #[.bool poll, .int .i64 fi, .int .i64 sn, .bool false, .bool last, .int .i64 off, .slice A n cap] 60))
  have HBA := Lib.hid (bl_alloc HB0.out (.cells #[.bool true, .bool false, .bool poll] 4))
  have ROWA := Lib.hid (ROW0.out.more (.cells #[.bool true, .bool false, .bool poll] 4))
  have hx0 := abits3 (w.alloc (.cells #[.bool poll, .int .i64 fi, .int .i64 sn, .bool false, .bool last, .int .i64 off, .slice A n cap] 60)) true false poll
  have HX0 := Lib.hid hx0
  have HP0 := Lib.hid (arefput_at (c := 3) (nn := 3) fi 2 5 2 rfl rfl hx0 rfl (by omega) HFI.out (by omega) (by have := HFI.out; omega))
  rw [show (w.alloc (.cells #[.bool poll, .int .i64 fi, .int .i64 sn, .bool false, .bool last, .int .i64 off, .slice A n cap] 60)).heap.size = w.heap.size + 1 by simp] at HP0
  clear hx0
  go_enter Try.func48, Try.ntmps48
  go_wp2_with (first
    | (go_at_call 177; refine (HW.out _).mono ?_; rintro e wx ⟨rfl, rfl⟩)
    | (go_at_call 189; (with_reducible refine HP0.out.mono ?_); rintro e w1 ⟨A1, c1, rfl, ho1, hn1, hb1⟩; (have HB1 := Lib.hid (bl_step HBA.out hb1); have ROW1 := Lib.hid (ROWA.out.later hb1); have HO1 := Lib.hid (show OwnB _ w1 _ ([true, false, poll] ++ unval fi 2) from ho1); have HN1 := Lib.hid (show ([true, false, poll] ++ unval fi 2).length = 5 from hn1); obtain ⟨d0, d1, d2, d3, d4, d5, d6⟩ := (cells_ref10 (ROWA.out.later hb1)).1; have HS1 := Lib.hid hb1.size; clear ho1 hn1 hb1); obtain ⟨B1, e1, u1, hr1, hp1, hq1, hz1⟩ := abool_tail (decide ((1 : Int) < (n : Int))) 6 rfl HO1.out HN1.out HS1.out (by omega); rw [HMORE.out] at hp1 hq1; (have ROWU1 := Lib.hid (ROW1.out.under hz1 ROWA.out.inside); have HBU1 := Lib.hid (HB1.out.trans (hz1.mono (Nat.le_of_lt ROWA.out.inside))); have HPU1 := Lib.hid hp1; have HQU1 := Lib.hid hq1; have HSU1 := Lib.hid (Nat.le_trans HS1.out hz1.size); clear hp1 hq1 hz1); obtain ⟨g0, g1, g2, g3, g4, g5, g6⟩ := (cells_ref10 ROWU1.out).1; obtain ⟨B2, e2, u2, hr2, hp2, hq2, hz2⟩ := abool_tail2 last false 8 rfl HPU1.out HQU1.out HSU1.out (by omega); (have ROWU2 := Lib.hid (ROWU1.out.under hz2 ROWA.out.inside); have HBU2 := Lib.hid (HBU1.out.trans (hz2.mono (Nat.le_of_lt ROWA.out.inside))); have HPU2 := Lib.hid hp2; have HQU2 := Lib.hid hq2; have HSU2 := Lib.hid (Nat.le_trans HSU1.out hz2.size); clear hp2 hq2 hz2); obtain ⟨g0, g1, g2, g3, g4, g5, g6⟩ := (cells_ref10 ROWU2.out).1; have HP3 := Lib.hid (arefput_at sn 16 24 16 rfl rfl HPU2.out HQU2.out (by omega) HSN.out (by omega) (by have := HSN.out; omega)))
    | (at_builtin; refine wpList_run rfl (.tmp 26) (.tmp 31) 95 rfl (.slice A1 5 c1) (.slice (some ⟨w1.heap.size, 0, none⟩) 1 1) (by rfl) (by rfl) hr1 ?_)
    | (at_builtin; refine wpList_run rfl (.tmp 35) (.tmp 38) 95 rfl (.slice B1 6 e1) (.slice (some ⟨u1.heap.size, 0, none⟩) 2 2) (by rfl) (by rfl) hr2 ?_)
    | (go_at_call 189; (with_reducible refine HP3.out.mono ?_); rintro e w4 ⟨A4, c4, rfl, ho4, hn4, hb4⟩; (have HB4 := Lib.hid (bl_step HBU2.out hb4); have ROW4 := Lib.hid (ROWU2.out.later hb4); have HO4 := Lib.hid (show OwnB _ w4 _ (((([true, false, poll] ++ unval fi 2) ++ [more]) ++ [last, false]) ++ unval sn 16) from ho4); have HN4 := Lib.hid (show (((([true, false, poll] ++ unval fi 2) ++ [more]) ++ [last, false]) ++ unval sn 16).length = 24 from hn4); obtain ⟨d0, d1, d2, d3, d4, d5, d6⟩ := (cells_ref10 (ROWU2.out.later hb4)).1; have HS4 := Lib.hid hb4.size; clear ho4 hn4 hb4); have HBY := Lib.hid (arefbytes_at (HO4.out.later (bl_drew (Below.refl _ _))) HN4.out (by omega))))
  rw [show packLen 24 = 3 from rfl] at HBY
  have z6 : w4.drew.cell? ⟨w.heap.size, 6, none⟩ = some (.slice A n cap) := ROW4.out.read (i := 6) rfl
  have HPK := Lib.hid (show (pack (((([true, false, poll] ++ unval fi 2) ++ [more]) ++ [last, false]) ++ unval sn 16)).length = 3 by rw [length_pack, HN4.out]; rfl)
  go_region_held3 (fun w' => w'.cell? ⟨w.heap.size, 6, none⟩ = some (.slice A n cap)) (first | assumption | go_keep) (first
    | (go_at_call 191; (with_reducible refine HBY.out.mono ?_); rintro e v1 ⟨A4, c4, rfl, ho4, hv1⟩; have HW1 := Lib.hid (HB4.out.trans ((bl_step (bl_drew (Below.refl w4.heap.size w4)) hv1).mono HB4.out.size)); have HT1 := Lib.hid (HT.out v1 A4 3 c4 _ HW1.out (Nat.lt_of_lt_of_le ROW4.out.inside hv1.size) (ho4.down ROW4.out.inside) HPK.out (by omega)); have k1 : v1.cell? ⟨w.heap.size, 6, none⟩ = some (.slice A n cap) := kept_box hv1 z6; clear ho4)
    | (go_at_call 190; (with_reducible refine HT1.out.mono ?_); rintro e v2 ⟨x2, rfl, ho2', hv2⟩; obtain ⟨A2', c2', hx2, _⟩ := ho2'.form; rw [HU.out.symm] at ho2' hx2; generalize out.length = n2 at hx2; subst hx2; have HO2' := Lib.hid (ho2'.down (Nat.le_succ _)); have HW2 := Lib.hid (HW1.out.trans (hv2.mono (Nat.le_succ _))); have k2 : v2.cell? ⟨w.heap.size, 6, none⟩ = some (.slice A n cap) := (hv2.cell (p := ⟨w.heap.size, 6, none⟩) (Nat.lt_succ_self _)).trans k1))
  go_wp2
  go_ret
  exact ⟨_, rfl, HO2'.out, HW2.out⟩
end Go.Proofs.Ytgdpjaojlhdhdaa
namespace Go.Proofs.Ytgdpjaojlhdhdaa
open Go.RowKit

set_option maxRecDepth 100000 in
set_option maxHeartbeats 1600000 in
theorem radata_any {A : Option Addr} {L : List RowB} (poll part last : Bool) (fi sn off : Int) (n cap : Nat) (w : World) (hL : L.length = n) (hn : n ≤ 40) (hs : RSrc w A L) (hm : (lens L).sum ≤ 9000) :
    Calls Try.prog 47 #[.agg #[.bool poll, .int .i64 fi, .int .i64 sn, .bool part, .bool last, .int .i64 off, .slice A n cap]] w fun e w' => ∃ v', e = .returned v' ∧ OwnY w.heap.size w' v' (flat L) ∧ Below w.heap.size w w' := by
  have HS := Lib.hid (fun W (hb : Below w.heap.size w W) => hs.later hb)
  have HL := Lib.hid hL
  have HSUM := Lib.hid hm
  have ROW0 := Lib.hid (Row.made w 60 #[.bool poll, .int .i64 fi, .int .i64 sn, .bool part, .bool last, .int .i64 off, .slice A n cap])
  have HB0 := Lib.hid (bl_alloc (Below.refl w.heap.size w) (.cells #[.bool poll, .int .i64 fi, .int .i64 sn, .bool part, .bool last, .int .i64 off, .slice A n cap] 60))
  have hz0 : (w.alloc (.cells #[.bool poll, .int .i64 fi, .int .i64 sn, .bool part, .bool last, .int .i64 off, .slice A n cap] 60)).heap.size = w.heap.size + 1 := by simp
  have HNIL := Lib.hid (show OwnY (w.heap.size + 1) (w.alloc (.cells #[.bool poll, .int .i64 fi, .int .i64 sn, .bool part, .bool last, .int .i64 off, .slice A n cap] 60)) (.slice none 0 0) [] from World.ownsRow_nil _ _ _ _)
  have HZ0 := Lib.hid hz0
  clear hs hm hL hz0
  go_enter Try.func47, Try.ntmps47
  go_wp2
  go_loopw [3, 4] (fun ov iv wr => ∃ (j : Nat) (Ao : Option Addr) (co q : Nat), j ≤ n ∧ iv = .int .i64 j ∧ ov = .slice Ao q co ∧ q ≤ 9000 ∧ Hid (OwnY (w.heap.size + 1) wr (.slice Ao q co) (flatTo L j)) ∧ Hid ((flatTo L j).length = q) ∧ Hid (Below (w.heap.size + 1) (w.alloc (.cells #[.bool poll, .int .i64 fi, .int .i64 sn, .bool part, .bool last, .int .i64 off, .slice A n cap] 60)) wr)) (fun _ iv _ => n - (intOf iv).toNat)
  case atStart => exact ⟨0, none, 0, 0, by omega, rfl, rfl, by omega, Lib.hid (by rw [flatTo_zero]; exact HNIL.out), Lib.hid (by rw [flatTo_zero]; rfl), Lib.hid (Below.refl _ _)⟩
  case round =>
    obtain ⟨j, Ao, co, q, hj, rfl, rfl, hq, HO, HQQ, HBJ⟩ := hrel
    have HBW := Lib.hid (HB0.out.trans (HBJ.out.mono (Nat.le_succ _)))
    have cb : wr.cell? ⟨w.heap.size, 6, none⟩ = some (.slice A n cap) := (ROW0.out.under HBJ.out (Nat.lt_succ_self _)).read rfl
    by_cases hjl : j < n
    · obtain ⟨ad, rfl, hc⟩ := HS.out _ HBW.out (by rw [HL.out]; omega)
      obtain ⟨r, hr⟩ : ∃ r, L[j]? = some r := ⟨_, List.getElem?_eq_getElem (by rw [HL.out]; omega)⟩
      have hcell := (hc j r hr).1
      have hsu := sumTo_succ (lens_at hr)
      have hle := sumTo_le (lens L) (j + 1)
      have hlq := HQQ.out
      rw [length_flatTo] at hlq
      obtain ⟨A6, c6, w6, hr6, ho6, hq6, hb6⟩ := app_bytes2 (c := r.cap) HO.out HQQ.out (by have := HBJ.out.size; rw [HZ0.out] at this; exact this) (hc j r hr).2.1 rfl (by have := HSUM.out; omega)
      have HO6 := Lib.hid (show OwnY (w.heap.size + 1) w6 (.slice A6 (q + r.bs.length) c6) (flatTo L (j + 1)) by rw [flatTo_succ hr]; exact ho6)
      have HQ6 := Lib.hid (show (flatTo L (j + 1)).length = q + r.bs.length by rw [flatTo_succ hr]; exact hq6)
      have HB6 := Lib.hid (HBJ.out.trans hb6)
      have hq10 : q + r.bs.length ≤ 9000 := by have := HSUM.out; omega
      clear hc hr hsu hle ho6 hq6 hb6 hlq
      unfold RowB.v at hcell
      generalize r.bs.length = len at *
      go_wp2_with (at_builtin; refine wpList_run rfl (.tmp 12) (.tmp 17) 30 rfl (.slice Ao q co) (.slice r.A len r.cap) (by rfl) (by rfl) hr6 ?_)
      go_roundw
      case rel => exact ⟨j + 1, _, _, q + len, by omega, by go_num, rfl, hq10, HO6, HQ6, HB6⟩
      case measure => simp [intOf]; omega
    · have hjn : j = n := by omega
      rw [hjn, flatTo_all HL.out] at HO
      have HOO := Lib.hid HO.out
      clear hjn
      go_wp2
      go_ret
      exact ⟨_, rfl, HOO.out.down (Nat.le_succ _), HBW.out⟩
end Go.Proofs.Ytgdpjaojlhdhdaa
