/-
  A packet written: the document.
-/
import Derived.Test.YtdklddpkklodnaaRefPack
import Derived.Test.YtdklddpkklodnaaUmdMath
import Derived.Test.YtdklddpkklodnaaUmdWrite
import Derived.Deep.RegionHeld3
namespace Go.Proofs.Ytdklddpkklodnaa
open Go.RowKit


theorem bool_tail {B n c : Nat} {W : World} {A : Option Addr} {bl : List Bool} (b : Bool) (m : Nat) (hm : n + 1 = m) (h : OwnB B W (.slice A n c) bl) (hn : bl.length = n) (hB : B ≤ W.heap.size) (hl : n ≤ 100000) :
    ∃ A' c' W', (Builtin.append_ #[83, 83] 83 #[.slice A n c, .slice (some ⟨W.heap.size, 0, none⟩) 1 1]).run Try.prog (W.alloc (.cells #[.bool b] 4)) = .ok (.slice A' m c') W' ∧ OwnB B W' (.slice A' m c') (bl ++ [b]) ∧ (bl ++ [b]).length = m ∧ Below B W W' := by
  subst hn hm
  obtain ⟨i0, hi, hi0, hi1, hi2⟩ := info_parts Try.info4
  obtain ⟨g, cap, w3, hr3, h2, h3, _, _⟩ := run_append_lies (P := Try.prog) (W.alloc (.cells #[.bool b] 4)) 83 83 B 4 i0 _ 1 1 Try.underlying83 hi hi0 hi1 hi2 rfl (by omega) (.slice A bl.length c) bl.length (bls bl) (h.1.alloc _) ⟨W.heap.size, 0, none⟩ 1 1 [.bool b] rfl
    (World.news_of_block (cs := #[.bool b]) (heap_alloc_new W _)) (by intro u hu; simp at hu; rw [hu]; rfl) (by omega) (by unfold maxLen; omega) (by omega) (by simp; omega) _ rfl
  obtain ⟨h5, h6⟩ := OwnB.more h (Below.refl B W) hB h2 h3
  exact ⟨_, cap, w3, hr3, h5, by simp, h6⟩
theorem bits3 (w : World) : OwnB w.heap.size (w.alloc (.cells #[.bool false, .bool false, .bool false] 4)) (.slice (some ⟨w.heap.size, 0, none⟩) 3 3) [false, false, false] :=
  ⟨World.ownsRow_lit w #[.bool false, .bool false, .bool false] 3 (Nat.le_refl _) (by unfold maxLen; omega) rfl, fun h => by simp at h⟩
theorem refput_at {B nn c : Nat} {w : World} {A : Option Addr} {bl : List Bool} (v n m : Nat) (ni : Int) (e : ni = n) (hm : nn + n = m) (hx : OwnB B w (.slice A nn c) bl) (hnn : bl.length = nn) (hn : n ≤ 64) (h : v < 2 ^ n) (hl : nn ≤ 1000) (hv : v < 18446744073709551616) :
    Calls Try.prog 50 #[.slice A nn c, .int .u64 v, .int .i64 ni] w fun e w' => ∃ A' c', e = .returned (.tuple #[.slice A' m c', .int .i64 0]) ∧ OwnB w.heap.size w' (.slice A' m c') (bl ++ unval v n) ∧ (bl ++ unval v n).length = m ∧ Below w.heap.size w w' := by
  subst e
  refine (refput_ok v n hx hn h (by omega) hv).mono ?_
  rintro e w' ⟨x, rfl, ho, hb⟩
  obtain ⟨A', c', rfl⟩ := ho.form
  have hl2 : (bl ++ unval v n).length = m := by rw [List.length_append, length_unval, hnn, hm]
  rw [hl2] at ho
  exact ⟨A', c', by rw [hl2], ho, hl2, hb⟩
theorem refbytes_at {B nn c : Nat} {w : World} {A : Option Addr} {bl : List Bool} (hx : OwnB B w (.slice A nn c) bl) (hnn : bl.length = nn) (hl : nn ≤ 1000) :
    Calls Try.prog 52 #[.slice A nn c] w fun e w' => ∃ A' c', e = .returned (.slice A' (packLen nn) c') ∧ OwnY w.heap.size w' (.slice A' (packLen nn) c') (pack bl) ∧ Below w.heap.size w w' := by
  subst hnn
  refine (refbytes_any c hx.src (by omega)).mono ?_
  rintro e w' ⟨x, rfl, ho, hb⟩
  have hoy : OwnY w.heap.size w' x (pack bl) := by unfold OwnY; rw [length_pack]; exact ho
  obtain ⟨A', c', rfl, _⟩ := hoy.form
  rw [length_pack] at hoy ⊢
  exact ⟨A', c', rfl, hoy, hb⟩

set_option maxRecDepth 100000 in
set_option maxHeartbeats 3200000 in
theorem rwrite_5 {A : Option Addr} {L : List RowB} (fi sn n cap : Nat) (w : World) (hL : L.length = n) (hs : RSrc w A L) (h : umdF fi sn (lens L) 5 ≠ 0) :
    Calls Try.prog 20 #[.agg #[.int .i64 fi, .int .i64 sn, .slice A n cap], .int .i64 5] w fun e w' => ∃ v', e = .returned v' ∧ OwnY w.heap.size w' v' (umdBytes fi sn L 5) ∧ Below w.heap.size w w' := by
  obtain ⟨_, _, hfi, hsn, hl1, hl2, hok, hsum⟩ := umdF_pos h
  rw [length_lens, hL] at hl1 hl2
  have hsz : (sn : Int) < 2 ^ 5 := (okn_true hsn).2
  have hsn2 : sn < 2 ^ 5 := by
    have e : ((2 ^ 5 : Nat) : Int) = (2 : Int) ^ 5 := by rw [Int.natCast_pow]; rfl
    omega
  have hsn3 : sn < 1024 := by simp at hsn2; omega
  have hsu : (lens L).sum ≤ 9000 := by have := umdF_big fi sn (lens L) 5; have h9 := sizeF_nonneg (((lens L).length : Int) - 1) 11; omega
  have HB0 := Lib.hid (show headB fi sn (decide (1 < L.length)) 5 = ((([] : List Bool) ++ unval fi 2) ++ [decide (1 < L.length)]) ++ unval sn 5 by
    unfold headB
    cases decide (1 < L.length) <;> rfl)
  have HMORE := Lib.hid (show decide ((1 : Int) < (n : Int)) = decide (1 < L.length) by apply decide_eq_decide.2; omega)
  have HT := Lib.hid (fun W A0 n0 c0 l (hb : Below w.heap.size w W) (hz : w.heap.size + 1 ≤ W.heap.size) (hv : OwnY (w.heap.size + 1) W (.slice A0 n0 c0) l) hn0 hn1 => rtail_any (A := A) (A0 := A0) (l := l) (w.heap.size + 1) n cap n0 c0 11 11 W (.inl rfl) rfl hL hl1 hl2 hok hsu (fun V hV => hs.later (hb.trans (hV.mono (Nat.le_succ _)))) hv hn0 hn1 hz)
  have hfw : IntKind.u64.wrap (fi : Int) = (fi : Int) := by rw [IntKind.wrap_u64]; omega
  have hsw : IntKind.u64.wrap (sn : Int) = (sn : Int) := by rw [IntKind.wrap_u64]; omega
  have HU := Lib.hid (show umdBytes fi sn L 5 = pack (headB fi sn (decide (1 < L.length)) 5) ++ tailF (lens L) 11 ++ flat L from rfl)
  rw [HB0.out] at HU
  generalize decide (1 < L.length) = more at *
  generalize umdBytes fi sn L 5 = out at *
  generalize hv : tailF (lens L) 11 = tl at *
  have HFI := Lib.hid hfi
  have HSN2 := Lib.hid hsn2
  clear h hok hsn hsz hs hL HB0 hsu hsum hv hfi hsn2
  have ROW0 := Lib.hid (Row.made w 28 #[.int .i64 fi, .int .i64 sn, .slice A n cap])
  have HB0 := Lib.hid (bl_alloc (Below.refl w.heap.size w) (.cells #[.int .i64 fi, .int .i64 sn, .slice A n cap] 28))
  have HBA := HB0
  have ROWA := ROW0
  have HP1 := Lib.hid (refput_at (B := w.heap.size) (nn := 0) (c := 0) (A := none) (bl := []) (w := w.alloc (.cells #[.int .i64 fi, .int .i64 sn, .slice A n cap] 28)) fi 2 2 2 rfl rfl (OwnB.nil _ _) rfl (by omega) (by have := HFI.out; omega) (by omega) (by have := HFI.out; omega))
  go_enter Try.func20, Try.ntmps20
  go_wp2_with (first
    | (go_at_call 50; (with_reducible refine HP1.out.mono ?_); rintro e w1 ⟨A1, c1, rfl, ho1, hn1, hb1⟩; (have HB1 := Lib.hid (bl_step HBA.out hb1); have ROW1 := Lib.hid (ROWA.out.later hb1); have d1 := ROW1.out.read (i := 2) rfl; obtain ⟨A2, c2, w2, hr2, ho2, hn2, hb2⟩ := bool_tail (decide ((1 : Int) < (n : Int))) 3 rfl ho1 hn1 hb1.size (by omega)); (have HB2 := Lib.hid (HB1.out.trans (hb2.mono HBA.out.size)); have ROW2 := Lib.hid (ROW1.out.under hb2 ROWA.out.inside); have e1 := ROW2.out.read (i := 1) rfl; rw [HMORE.out] at ho2 hn2; have HP2 := Lib.hid (refput_at sn 5 8 5 rfl rfl ho2 hn2 (by omega) HSN2.out (by omega) (by omega)); clear ho1 hn1 hb1 ho2 hn2 hb2))
    | (at_builtin; refine wpList_run rfl (.tmp 17) (.tmp 22) 83 rfl (.slice A1 2 c1) (.slice (some ⟨w1.heap.size, 0, none⟩) 1 1) (by rfl) (by rfl) hr2 ?_)
    | (go_at_call 50; (with_reducible refine HP2.out.mono ?_); rintro e w3 ⟨A3, c3, rfl, ho3, hn3, hb3⟩; (have HB3 := Lib.hid (bl_step HB2.out hb3); have ROW3 := Lib.hid (ROW2.out.later hb3); have HBY := Lib.hid (refbytes_at (ho3.later (bl_drew (Below.refl _ _))) hn3 (by omega)); have HPK := Lib.hid (show (pack (([] : List Bool) ++ unval fi 2 ++ [more] ++ unval sn 5)).length = 1 by rw [length_pack, hn3]; rfl); clear ho3 hn3 hb3)))
  rw [show packLen 8 = 1 from rfl] at HBY
  have d3 : w3.drew.cell? ⟨w.heap.size, 2, none⟩ = some (.slice A n cap) := ROW3.out.read (i := 2) rfl
  go_region_held3 (fun w' => w'.cell? ⟨w.heap.size, 2, none⟩ = some (.slice A n cap)) (first | assumption | go_keep) (first
    | (go_at_call 52; (with_reducible refine HBY.out.mono ?_); rintro e v1 ⟨A4, c4, rfl, ho4, hv1⟩; have HW1 := Lib.hid (HB3.out.trans ((bl_step (bl_drew (Below.refl w3.heap.size w3)) hv1).mono HB3.out.size)); have HT1 := Lib.hid (HT.out v1 A4 1 c4 _ HW1.out (Nat.lt_of_lt_of_le ROW3.out.inside hv1.size) (ho4.down ROW3.out.inside) HPK.out (by omega)); have k1 : v1.cell? ⟨w.heap.size, 2, none⟩ = some (.slice A n cap) := kept_box hv1 d3; clear ho4)
    | (go_at_call 51; (with_reducible refine HT1.out.mono ?_); rintro e v2 ⟨x2, rfl, ho2, hv2⟩; obtain ⟨A2, c2, hx2, _⟩ := ho2.form; rw [HU.out.symm] at ho2 hx2; generalize out.length = n2 at hx2; subst hx2; have HO2 := Lib.hid (ho2.down (Nat.le_succ _)); have HW2 := Lib.hid (HW1.out.trans (hv2.mono (Nat.le_succ _))); have k2 : v2.cell? ⟨w.heap.size, 2, none⟩ = some (.slice A n cap) := (hv2.cell (p := ⟨w.heap.size, 2, none⟩) (Nat.lt_succ_self _)).trans k1))
  go_wp2
  go_ret
  exact ⟨_, rfl, HO2.out, HW2.out⟩

set_option maxRecDepth 100000 in
set_option maxHeartbeats 3200000 in
theorem rwrite_10 {A : Option Addr} {L : List RowB} (fi sn n cap : Nat) (w : World) (hL : L.length = n) (hs : RSrc w A L) (h : umdF fi sn (lens L) 10 ≠ 0) :
    Calls Try.prog 20 #[.agg #[.int .i64 fi, .int .i64 sn, .slice A n cap], .int .i64 10] w fun e w' => ∃ v', e = .returned v' ∧ OwnY w.heap.size w' v' (umdBytes fi sn L 10) ∧ Below w.heap.size w w' := by
  obtain ⟨_, _, hfi, hsn, hl1, hl2, hok, hsum⟩ := umdF_pos h
  rw [length_lens, hL] at hl1 hl2
  have hsz : (sn : Int) < 2 ^ 10 := (okn_true hsn).2
  have hsn2 : sn < 2 ^ 10 := by
    have e : ((2 ^ 10 : Nat) : Int) = (2 : Int) ^ 10 := by rw [Int.natCast_pow]; rfl
    omega
  have hsn3 : sn < 1024 := by simp at hsn2; omega
  have hsu : (lens L).sum ≤ 9000 := by have := umdF_big fi sn (lens L) 10; have h9 := sizeF_nonneg (((lens L).length : Int) - 1) 11; omega
  have HB0 := Lib.hid (show headB fi sn (decide (1 < L.length)) 10 = (([false, false, false] ++ unval fi 2) ++ [decide (1 < L.length)]) ++ unval sn 10 by
    unfold headB
    cases decide (1 < L.length) <;> rfl)
  have HMORE := Lib.hid (show decide ((1 : Int) < (n : Int)) = decide (1 < L.length) by apply decide_eq_decide.2; omega)
  have HT := Lib.hid (fun W A0 n0 c0 l (hb : Below w.heap.size w W) (hz : w.heap.size + 1 ≤ W.heap.size) (hv : OwnY (w.heap.size + 1) W (.slice A0 n0 c0) l) hn0 hn1 => rtail_any (A := A) (A0 := A0) (l := l) (w.heap.size + 1) n cap n0 c0 11 11 W (.inl rfl) rfl hL hl1 hl2 hok hsu (fun V hV => hs.later (hb.trans (hV.mono (Nat.le_succ _)))) hv hn0 hn1 hz)
  have hfw : IntKind.u64.wrap (fi : Int) = (fi : Int) := by rw [IntKind.wrap_u64]; omega
  have hsw : IntKind.u64.wrap (sn : Int) = (sn : Int) := by rw [IntKind.wrap_u64]; omega
  have HU := Lib.hid (show umdBytes fi sn L 10 = pack (headB fi sn (decide (1 < L.length)) 10) ++ tailF (lens L) 11 ++ flat L from rfl)
  rw [HB0.out] at HU
  generalize decide (1 < L.length) = more at *
  generalize umdBytes fi sn L 10 = out at *
  generalize hv : tailF (lens L) 11 = tl at *
  have HFI := Lib.hid hfi
  have HSN2 := Lib.hid hsn2
  clear h hok hsn hsz hs hL HB0 hsu hsum hv hfi hsn2
  have ROW0 := Lib.hid (Row.made w 28 #[.int .i64 fi, .int .i64 sn, .slice A n cap])
  have HB0 := Lib.hid (bl_alloc (Below.refl w.heap.size w) (.cells #[.int .i64 fi, .int .i64 sn, .slice A n cap] 28))
  have HBA := Lib.hid (bl_alloc HB0.out (.cells #[.bool false, .bool false, .bool false] 4))
  have ROWA := Lib.hid (ROW0.out.more (.cells #[.bool false, .bool false, .bool false] 4))
  have HP1 := Lib.hid (refput_at (c := 3) (nn := 3) fi 2 5 2 rfl rfl (bits3 (w.alloc (.cells #[.int .i64 fi, .int .i64 sn, .slice A n cap] 28))) rfl (by omega) (by have := HFI.out; omega) (by omega) (by have := HFI.out; omega))
  rw [show (w.alloc (.cells #[.int .i64 fi, .int .i64 sn, .slice A n cap] 28)).heap.size = w.heap.size + 1 by simp] at HP1
  go_enter Try.func20, Try.ntmps20
  go_wp2_with (first
    | (go_at_call 50; (with_reducible refine HP1.out.mono ?_); rintro e w1 ⟨A1, c1, rfl, ho1, hn1, hb1⟩; (have HB1 := Lib.hid (bl_step HBA.out hb1); have ROW1 := Lib.hid (ROWA.out.later hb1); have d1 := ROW1.out.read (i := 2) rfl; obtain ⟨A2, c2, w2, hr2, ho2, hn2, hb2⟩ := bool_tail (decide ((1 : Int) < (n : Int))) 6 rfl ho1 hn1 hb1.size (by omega)); (have HB2 := Lib.hid (HB1.out.trans (hb2.mono HBA.out.size)); have ROW2 := Lib.hid (ROW1.out.under hb2 ROWA.out.inside); have e1 := ROW2.out.read (i := 1) rfl; rw [HMORE.out] at ho2 hn2; have HP2 := Lib.hid (refput_at sn 10 16 10 rfl rfl ho2 hn2 (by omega) HSN2.out (by omega) (by omega)); clear ho1 hn1 hb1 ho2 hn2 hb2))
    | (at_builtin; refine wpList_run rfl (.tmp 17) (.tmp 22) 83 rfl (.slice A1 5 c1) (.slice (some ⟨w1.heap.size, 0, none⟩) 1 1) (by rfl) (by rfl) hr2 ?_)
    | (go_at_call 50; (with_reducible refine HP2.out.mono ?_); rintro e w3 ⟨A3, c3, rfl, ho3, hn3, hb3⟩; (have HB3 := Lib.hid (bl_step HB2.out hb3); have ROW3 := Lib.hid (ROW2.out.later hb3); have HBY := Lib.hid (refbytes_at (ho3.later (bl_drew (Below.refl _ _))) hn3 (by omega)); have HPK := Lib.hid (show (pack ([false, false, false] ++ unval fi 2 ++ [more] ++ unval sn 10)).length = 2 by rw [length_pack, hn3]; rfl); clear ho3 hn3 hb3)))
  rw [show packLen 16 = 2 from rfl] at HBY
  have d3 : w3.drew.cell? ⟨w.heap.size, 2, none⟩ = some (.slice A n cap) := ROW3.out.read (i := 2) rfl
  go_region_held3 (fun w' => w'.cell? ⟨w.heap.size, 2, none⟩ = some (.slice A n cap)) (first | assumption | go_keep) (first
    | (go_at_call 52; (with_reducible refine HBY.out.mono ?_); rintro e v1 ⟨A4, c4, rfl, ho4, hv1⟩; have HW1 := Lib.hid (HB3.out.trans ((bl_step (bl_drew (Below.refl w3.heap.size w3)) hv1).mono HB3.out.size)); have HT1 := Lib.hid (HT.out v1 A4 2 c4 _ HW1.out (Nat.lt_of_lt_of_le ROW3.out.inside hv1.size) (ho4.down ROW3.out.inside) HPK.out (by omega)); have k1 : v1.cell? ⟨w.heap.size, 2, none⟩ = some (.slice A n cap) := kept_box hv1 d3; clear ho4)
    | (go_at_call 51; (with_reducible refine HT1.out.mono ?_); rintro e v2 ⟨x2, rfl, ho2, hv2⟩; obtain ⟨A2, c2, hx2, _⟩ := ho2.form; rw [HU.out.symm] at ho2 hx2; generalize out.length = n2 at hx2; subst hx2; have HO2 := Lib.hid (ho2.down (Nat.le_succ _)); have HW2 := Lib.hid (HW1.out.trans (hv2.mono (Nat.le_succ _))); have k2 : v2.cell? ⟨w.heap.size, 2, none⟩ = some (.slice A n cap) := (hv2.cell (p := ⟨w.heap.size, 2, none⟩) (Nat.lt_succ_self _)).trans k1))
  go_wp2
  go_ret
  exact ⟨_, rfl, HO2.out, HW2.out⟩
end Go.Proofs.Ytdklddpkklodnaa
