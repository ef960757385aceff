/-
  A packet written: the document. UmdWrites: what the walk wants. umtx: the sender and the document's one together: what is built; all reset. umtx: of none; the statement's same. What pdu answers to fixed calls. pdu: the document's Check.
-/
import Derived.Test.YtjonkpdjhjobfaaJUmtxLives23
import Derived.Test.YtjonkpdjhjobfaaJUmtxLives10
import Derived.Deep.RegionHeld3
import Derived.Test.YtjonkpdjhjobfaaJUmtxLives18
import Derived.Test.YtjonkpdjhjobfaaJUmtxLives06
import Derived.Test.YtjonkpdjhjobfaaJUmtxLives03
namespace Go.Proofs.Ytjonkpdjhjobfaa
open Go.RowKit


theorem bool_tail {B n c : Nat} {W : World} {A : Option Addr} {bl : List Bool} (b : Bool) (m : Nat) (hm : n + 1 = m) (h : OwnB B W (.slice A n c) bl) (hn : bl.length = n) (hB : B ≤ W.heap.size) (hl : n ≤ 100000) :
    ∃ A' c' W', (Builtin.append_ #[50, 50] 50 #[.slice A n c, .slice (some ⟨W.heap.size, 0, none⟩) 1 1]).run Try.prog (W.alloc (.cells #[.bool b] 4)) = .ok (.slice A' m c') W' ∧ OwnB B W' (.slice A' m c') (bl ++ [b]) ∧ (bl ++ [b]).length = m ∧ Below B W W' := by
  subst hn hm
  obtain ⟨i0, hi, hi0, hi1, hi2⟩ := info_parts Try.info4
  obtain ⟨g, cap, w3, hr3, h2, h3, _, _⟩ := run_append_lies (P := Try.prog) (W.alloc (.cells #[.bool b] 4)) 50 50 B 4 i0 _ 1 1 Try.underlying50 hi hi0 hi1 hi2 rfl (by omega) (.slice A bl.length c) bl.length (bls bl) (h.1.alloc _) ⟨W.heap.size, 0, none⟩ 1 1 [.bool b] rfl
    (World.news_of_block (cs := #[.bool b]) (heap_alloc_new W _)) (by intro u hu; simp at hu; rw [hu]; rfl) (by omega) (by unfold maxLen; omega) (by omega) (by simp; omega) _ rfl
  obtain ⟨h5, h6⟩ := OwnB.more h (Below.refl B W) hB h2 h3
  exact ⟨_, cap, w3, hr3, h5, by simp, h6⟩
theorem bits3 (w : World) : OwnB w.heap.size (w.alloc (.cells #[.bool false, .bool false, .bool false] 4)) (.slice (some ⟨w.heap.size, 0, none⟩) 3 3) [false, false, false] :=
  ⟨World.ownsRow_lit w #[.bool false, .bool false, .bool false] 3 (Nat.le_refl _) (by unfold maxLen; omega) rfl, fun h => by simp at h⟩
theorem refput_at {B nn c : Nat} {w : World} {A : Option Addr} {bl : List Bool} (v n m : Nat) (ni : Int) (e : ni = n) (hm : nn + n = m) (hx : OwnB B w (.slice A nn c) bl) (hnn : bl.length = nn) (hn : n ≤ 64) (h : v < 2 ^ n) (hl : nn ≤ 1000) (hv : v < 18446744073709551616) :
    Calls Try.prog 95 #[.slice A nn c, .int .u64 v, .int .i64 ni] w fun e w' => ∃ A' c', e = .returned (.tuple #[.slice A' m c', .int .i64 0]) ∧ OwnB w.heap.size w' (.slice A' m c') (bl ++ unval v n) ∧ (bl ++ unval v n).length = m ∧ Below w.heap.size w w' := by
  subst e
  refine (refput_ok v n hx hn h (by omega) hv).mono ?_
  rintro e w' ⟨x, rfl, ho, hb⟩
  obtain ⟨A', c', rfl⟩ := ho.form
  have hl2 : (bl ++ unval v n).length = m := by rw [List.length_append, length_unval, hnn, hm]
  rw [hl2] at ho
  exact ⟨A', c', by rw [hl2], ho, hl2, hb⟩
theorem refbytes_at {B nn c : Nat} {w : World} {A : Option Addr} {bl : List Bool} (hx : OwnB B w (.slice A nn c) bl) (hnn : bl.length = nn) (hl : nn ≤ 1000) :
    Calls Try.prog 97 #[.slice A nn c] w fun e w' => ∃ A' c', e = .returned (.slice A' (packLen nn) c') ∧ OwnY w.heap.size w' (.slice A' (packLen nn) c') (pack bl) ∧ Below w.heap.size w w' := by
  subst hnn
  refine (refbytes_any c hx.src (by omega)).mono ?_
  rintro e w' ⟨x, rfl, ho, hb⟩
  have hoy : OwnY w.heap.size w' x (pack bl) := by unfold OwnY; rw [length_pack]; exact ho
  obtain ⟨A', c', rfl, _⟩ := hoy.form
  rw [length_pack] at hoy ⊢
  exact ⟨A', c', rfl, hoy, hb⟩

set_option maxRecDepth 100000 in
set_option maxHeartbeats 3200000 in
theorem rwrite_5 {A : Option Addr} {L : List RowB} (fi sn n cap : Nat) (w : World) (hL : L.length = n) (hs : RSrc w A L) (h : umdF fi sn (lens L) 5 ≠ 0) :
    Calls Try.prog 23 #[.agg #[.int .i64 fi, .int .i64 sn, .slice A n cap], .int .i64 5] w fun e w' => ∃ v', e = .returned v' ∧ OwnY w.heap.size w' v' (umdBytes fi sn L 5) ∧ Below w.heap.size w w' := by
  obtain ⟨_, _, hfi, hsn, hl1, hl2, hok, hsum⟩ := umdF_pos h
  rw [length_lens, hL] at hl1 hl2
  have hsz : (sn : Int) < 2 ^ 5 := (okn_true hsn).2
  have hsn2 : sn < 2 ^ 5 := by
    have e : ((2 ^ 5 : Nat) : Int) = (2 : Int) ^ 5 := by rw [Int.natCast_pow]; rfl
    omega
  have hsn3 : sn < 1024 := by simp at hsn2; omega
  have hsu : (lens L).sum ≤ 9000 := by have := umdF_big fi sn (lens L) 5; have h9 := sizeF_nonneg (((lens L).length : Int) - 1) 11; omega
  have HB0 := Lib.hid (show headB fi sn (decide (1 < L.length)) 5 = ((([] : List Bool) ++ unval fi 2) ++ [decide (1 < L.length)]) ++ unval sn 5 by
    unfold headB
    cases decide (1 < L.length) <;> rfl)
  have HMORE := Lib.hid (show decide ((1 : Int) < (n : Int)) = decide (1 < L.length) by apply decide_eq_decide.2; omega)
  have HT := Lib.hid (fun W A0 n0 c0 l (hb : Below w.heap.size w W) (hz : w.heap.size + 1 ≤ W.heap.size) (hv : OwnY (w.heap.size + 1) W (.slice A0 n0 c0) l) hn0 hn1 => rtail_any (A := A) (A0 := A0) (l := l) (w.heap.size + 1) n cap n0 c0 11 11 W (.inl rfl) rfl hL hl1 hl2 hok hsu (fun V hV => hs.later (hb.trans (hV.mono (Nat.le_succ _)))) hv hn0 hn1 hz)
  have hfw : IntKind.u64.wrap (fi : Int) = (fi : Int) := by rw [IntKind.wrap_u64]; omega
  have hsw : IntKind.u64.wrap (sn : Int) = (sn : Int) := by rw [IntKind.wrap_u64]; omega
  have HU := Lib.hid (show umdBytes fi sn L 5 = pack (headB fi sn (decide (1 < L.length)) 5) ++ tailF (lens L) 11 ++ flat L from rfl)
  rw [HB0.out] at HU
  generalize decide (1 < L.length) = more at *
  generalize umdBytes fi sn L 5 = out at *
  generalize hv : tailF (lens L) 11 = tl at *
  have HFI := Lib.hid hfi
  have HSN2 := Lib.hid hsn2
  clear h hok hsn hsz hs hL HB0 hsu hsum hv hfi hsn2
  have ROW0 := Lib.hid (Row.made w 58 #[.int .i64 fi, .int .i64 sn, .slice A n cap])
  have HB0 := Lib.hid (bl_alloc (Below.refl w.heap.size w) (.cells #[.int .i64 fi, .int .i64 sn, .slice A n cap] 58))
  have HBA := HB0
  have ROWA := ROW0
  have HP1 := Lib.hid (refput_at (B := w.heap.size) (nn := 0) (c := 0) (A := none) (bl := []) (w := w.alloc (.cells #[.int .i64 fi, .int .i64 sn, .slice A n cap] 58)) fi 2 2 2 rfl rfl (OwnB.nil _ _) rfl (by omega) (by have := HFI.out; omega) (by omega) (by have := HFI.out; omega))
  go_enter Try.func23, Try.ntmps23
  go_wp2_with (first
    | (go_at_call 95; (with_reducible refine HP1.out.mono ?_); rintro e w1 ⟨A1, c1, rfl, ho1, hn1, hb1⟩; (have HB1 := Lib.hid (bl_step HBA.out hb1); have ROW1 := Lib.hid (ROWA.out.later hb1); have d1 := ROW1.out.read (i := 2) rfl; obtain ⟨A2, c2, w2, hr2, ho2, hn2, hb2⟩ := bool_tail (decide ((1 : Int) < (n : Int))) 3 rfl ho1 hn1 hb1.size (by omega)); (have HB2 := Lib.hid (HB1.out.trans (hb2.mono HBA.out.size)); have ROW2 := Lib.hid (ROW1.out.under hb2 ROWA.out.inside); have e1 := ROW2.out.read (i := 1) rfl; rw [HMORE.out] at ho2 hn2; have HP2 := Lib.hid (refput_at sn 5 8 5 rfl rfl ho2 hn2 (by omega) HSN2.out (by omega) (by omega)); clear ho1 hn1 hb1 ho2 hn2 hb2))
    | (at_builtin; refine wpList_run rfl (.tmp 17) (.tmp 22) 50 rfl (.slice A1 2 c1) (.slice (some ⟨w1.heap.size, 0, none⟩) 1 1) (by rfl) (by rfl) hr2 ?_)
    | (go_at_call 95; (with_reducible refine HP2.out.mono ?_); rintro e w3 ⟨A3, c3, rfl, ho3, hn3, hb3⟩; (have HB3 := Lib.hid (bl_step HB2.out hb3); have ROW3 := Lib.hid (ROW2.out.later hb3); have HBY := Lib.hid (refbytes_at (ho3.later (bl_drew (Below.refl _ _))) hn3 (by omega)); have HPK := Lib.hid (show (pack (([] : List Bool) ++ unval fi 2 ++ [more] ++ unval sn 5)).length = 1 by rw [length_pack, hn3]; rfl); clear ho3 hn3 hb3)))
  rw [show packLen 8 = 1 from rfl] at HBY
  have d3 : w3.drew.cell? ⟨w.heap.size, 2, none⟩ = some (.slice A n cap) := ROW3.out.read (i := 2) rfl
  go_region_held3 (fun w' => w'.cell? ⟨w.heap.size, 2, none⟩ = some (.slice A n cap)) (first | assumption | go_keep) (first
    | (go_at_call 97; (with_reducible refine HBY.out.mono ?_); rintro e v1 ⟨A4, c4, rfl, ho4, hv1⟩; have HW1 := Lib.hid (HB3.out.trans ((bl_step (bl_drew (Below.refl w3.heap.size w3)) hv1).mono HB3.out.size)); have HT1 := Lib.hid (HT.out v1 A4 1 c4 _ HW1.out (Nat.lt_of_lt_of_le ROW3.out.inside hv1.size) (ho4.down ROW3.out.inside) HPK.out (by omega)); have k1 : v1.cell? ⟨w.heap.size, 2, none⟩ = some (.slice A n cap) := kept_box hv1 d3; clear ho4)
    | (go_at_call 96; (with_reducible refine HT1.out.mono ?_); rintro e v2 ⟨x2, rfl, ho2, hv2⟩; obtain ⟨A2, c2, hx2, _⟩ := ho2.form; rw [HU.out.symm] at ho2 hx2; generalize out.length = n2 at hx2; subst hx2; have HO2 := Lib.hid (ho2.down (Nat.le_succ _)); have HW2 := Lib.hid (HW1.out.trans (hv2.mono (Nat.le_succ _))); have k2 : v2.cell? ⟨w.heap.size, 2, none⟩ = some (.slice A n cap) := (hv2.cell (p := ⟨w.heap.size, 2, none⟩) (Nat.lt_succ_self _)).trans k1))
  go_wp2
  go_ret
  exact ⟨_, rfl, HO2.out, HW2.out⟩

set_option maxRecDepth 100000 in
set_option maxHeartbeats 3200000 in
theorem rwrite_10 {A : Option Addr} {L : List RowB} (fi sn n cap : Nat) (w : World) (hL : L.length = n) (hs : RSrc w A L) (h : umdF fi sn (lens L) 10 ≠ 0) :
    Calls Try.prog 23 #[.agg #[.int .i64 fi, .int .i64 sn, .slice A n cap], .int .i64 10] w fun e w' => ∃ v', e = .returned v' ∧ OwnY w.heap.size w' v' (umdBytes fi sn L 10) ∧ Below w.heap.size w w' := by
  obtain ⟨_, _, hfi, hsn, hl1, hl2, hok, hsum⟩ := umdF_pos h
  rw [length_lens, hL] at hl1 hl2
  have hsz : (sn : Int) < 2 ^ 10 := (okn_true hsn).2
  have hsn2 : sn < 2 ^ 10 := by
    have e : ((2 ^ 10 : Nat) : Int) = (2 : Int) ^ 10 := by rw [Int.natCast_pow]; rfl
    omega
  have hsn3 : sn < 1024 := by simp at hsn2; omega
  have hsu : (lens L).sum ≤ 9000 := by have := umdF_big fi sn (lens L) 10; have h9 := sizeF_nonneg (((lens L).length : Int) - 1) 11; omega
  have HB0 := Lib.hid (show headB fi sn (decide (1 < L.length)) 10 = (([false, false, false] ++ unval fi 2) ++ [decide (1 < L.length)]) ++ unval sn 10 by
    unfold headB
    cases decide (1 < L.length) <;> rfl)
  have HMORE := Lib.hid (show decide ((1 : Int) < (n : Int)) = decide (1 < L.length) by apply decide_eq_decide.2; omega)
  have HT := Lib.hid (fun W A0 n0 c0 l (hb : Below w.heap.size w W) (hz : w.heap.size + 1 ≤ W.heap.size) (hv : OwnY (w.heap.size + 1) W (.slice A0 n0 c0) l) hn0 hn1 => rtail_any (A := A) (A0 := A0) (l := l) (w.heap.size + 1) n cap n0 c0 11 11 W (.inl rfl) rfl hL hl1 hl2 hok hsu (fun V hV => hs.later (hb.trans (hV.mono (Nat.le_succ _)))) hv hn0 hn1 hz)
  have hfw : IntKind.u64.wrap (fi : Int) = (fi : Int) := by rw [IntKind.wrap_u64]; omega
  have hsw : IntKind.u64.wrap (sn : Int) = (sn : Int) := by rw [IntKind.wrap_u64]; omega
  have HU := Lib.hid (show umdBytes fi sn L 10 = pack (headB fi sn (decide (1 < L.length)) 10) ++ tailF (lens L) 11 ++ flat L from rfl)
  rw [HB0.out] at HU
  generalize decide (1 < L.length) = more at *
  generalize umdBytes fi sn L 10 = out at *
  generalize hv : tailF (lens L) 11 = tl at *
  have HFI := Lib.hid hfi
  have HSN2 := Lib.hid hsn2
  clear h hok hsn hsz hs hL HB0 hsu hsum hv hfi hsn2
  have ROW0 := Lib.hid (Row.made w 58 #[.int .i64 fi, .int .i64 sn, .slice A n cap])
  have HB0 := Lib.hid (bl_alloc (Below.refl w.heap.size w) (.cells #[.int .i64 fi, .int .i64 sn, .slice A n cap] 58))
  have HBA := Lib.hid (bl_alloc HB0.out (.cells #[.bool false, .bool false, .bool false] 4))
  have ROWA := Lib.hid (ROW0.out.more (.cells #[.bool false, .bool false, .bool false] 4))
  have HP1 := Lib.hid (refput_at (c := 3) (nn := 3) fi 2 5 2 rfl rfl (bits3 (w.alloc (.cells #[.int .i64 fi, .int .i64 sn, .slice A n cap] 58))) rfl (by omega) (by have := HFI.out; omega) (by omega) (by have := HFI.out; omega))
  rw [show (w.alloc (.cells #[.int .i64 fi, .int .i64 sn, .slice A n cap] 58)).heap.size = w.heap.size + 1 by simp] at HP1
  go_enter Try.func23, Try.ntmps23
  go_wp2_with (first
    | (go_at_call 95; (with_reducible refine HP1.out.mono ?_); rintro e w1 ⟨A1, c1, rfl, ho1, hn1, hb1⟩; (have HB1 := Lib.hid (bl_step HBA.out hb1); have ROW1 := Lib.hid (ROWA.out.later hb1); have d1 := ROW1.out.read (i := 2) rfl; obtain ⟨A2, c2, w2, hr2, ho2, hn2, hb2⟩ := bool_tail (decide ((1 : Int) < (n : Int))) 6 rfl ho1 hn1 hb1.size (by omega)); (have HB2 := Lib.hid (HB1.out.trans (hb2.mono HBA.out.size)); have ROW2 := Lib.hid (ROW1.out.under hb2 ROWA.out.inside); have e1 := ROW2.out.read (i := 1) rfl; rw [HMORE.out] at ho2 hn2; have HP2 := Lib.hid (refput_at sn 10 16 10 rfl rfl ho2 hn2 (by omega) HSN2.out (by omega) (by omega)); clear ho1 hn1 hb1 ho2 hn2 hb2))
    | (at_builtin; refine wpList_run rfl (.tmp 17) (.tmp 22) 50 rfl (.slice A1 5 c1) (.slice (some ⟨w1.heap.size, 0, none⟩) 1 1) (by rfl) (by rfl) hr2 ?_)
    | (go_at_call 95; (with_reducible refine HP2.out.mono ?_); rintro e w3 ⟨A3, c3, rfl, ho3, hn3, hb3⟩; (have HB3 := Lib.hid (bl_step HB2.out hb3); have ROW3 := Lib.hid (ROW2.out.later hb3); have HBY := Lib.hid (refbytes_at (ho3.later (bl_drew (Below.refl _ _))) hn3 (by omega)); have HPK := Lib.hid (show (pack ([false, false, false] ++ unval fi 2 ++ [more] ++ unval sn 10)).length = 2 by rw [length_pack, hn3]; rfl); clear ho3 hn3 hb3)))
  rw [show packLen 16 = 2 from rfl] at HBY
  have d3 : w3.drew.cell? ⟨w.heap.size, 2, none⟩ = some (.slice A n cap) := ROW3.out.read (i := 2) rfl
  go_region_held3 (fun w' => w'.cell? ⟨w.heap.size, 2, none⟩ = some (.slice A n cap)) (first | assumption | go_keep) (first
    | (go_at_call 97; (with_reducible refine HBY.out.mono ?_); rintro e v1 ⟨A4, c4, rfl, ho4, hv1⟩; have HW1 := Lib.hid (HB3.out.trans ((bl_step (bl_drew (Below.refl w3.heap.size w3)) hv1).mono HB3.out.size)); have HT1 := Lib.hid (HT.out v1 A4 2 c4 _ HW1.out (Nat.lt_of_lt_of_le ROW3.out.inside hv1.size) (ho4.down ROW3.out.inside) HPK.out (by omega)); have k1 : v1.cell? ⟨w.heap.size, 2, none⟩ = some (.slice A n cap) := kept_box hv1 d3; clear ho4)
    | (go_at_call 96; (with_reducible refine HT1.out.mono ?_); rintro e v2 ⟨x2, rfl, ho2, hv2⟩; obtain ⟨A2, c2, hx2, _⟩ := ho2.form; rw [HU.out.symm] at ho2 hx2; generalize out.length = n2 at hx2; subst hx2; have HO2 := Lib.hid (ho2.down (Nat.le_succ _)); have HW2 := Lib.hid (HW1.out.trans (hv2.mono (Nat.le_succ _))); have k2 : v2.cell? ⟨w.heap.size, 2, none⟩ = some (.slice A n cap) := (hv2.cell (p := ⟨w.heap.size, 2, none⟩) (Nat.lt_succ_self _)).trans k1))
  go_wp2
  go_ret
  exact ⟨_, rfl, HO2.out, HW2.out⟩
end Go.Proofs.Ytjonkpdjhjobfaa
namespace Go.Proofs.Ytjonkpdjhjobfaa
open Go.RowKit


theorem uw_nats {fi sn wd : Int} {L : List RowB} (hw : umdF fi sn (lens L) wd ≠ 0) : ∃ a b d : Nat, fi = a ∧ sn = b ∧ wd = d := by
  obtain ⟨h1, h2, _, h3, _, _, _, _⟩ := umdF_pos hw
  have h4 := (of_decide_eq_true h3).1
  exact ⟨fi.toNat, sn.toNat, wd.toNat, by omega, by omega, by omega⟩
theorem rwrite_un {A : Option Addr} {L : List RowB} (fi sn wd : Int) (n cap : Nat) (w : World) (hL : L.length = n) (hs : RSrc w A L) (hw : umdF fi sn (lens L) wd ≠ 0) :
    Calls Try.prog 23 #[.agg #[.int .i64 fi, .int .i64 sn, .slice A n cap], .int .i64 wd] w fun e w' => ∃ v', e = .returned v' ∧ OwnY w.heap.size w' v' (umdBytes fi.toNat sn.toNat L wd.toNat) ∧ Below w.heap.size w w' := by
  obtain ⟨a, b, d, rfl, rfl, rfl⟩ := uw_nats hw
  obtain ⟨h1, _⟩ := umdF_pos hw
  have hd : d = 5 ∨ d = 10 := by omega
  rcases hd with rfl | rfl
  · exact rwrite_5 a b n cap w hL hs hw
  · exact rwrite_10 a b n cap w hL hs hw
end Go.Proofs.Ytjonkpdjhjobfaa
namespace Go.Proofs.Ytjonkpdjhjobfaa
open Go.RowKit

/-- both values read as one string -/
def ReadsU (w : World) (a : Value) (l : List Nat) : Prop := (convert 38 9 a).run Try.prog w = .ok (.string (strOf l)) w
theorem umdBytes_texts {L M : List RowB} (h : texts L = texts M) (fi sn wd : Nat) : umdBytes fi sn L wd = umdBytes fi sn M wd := by
  have h1 : lens L = lens M := by rw [lens_texts, lens_texts, h]
  have h2 : L.length = M.length := by
    have := congrArg List.length h
    rw [length_texts, length_texts] at this
    exact this
  unfold umdBytes flat
  rw [h1, h2, h]
section
variable {W w v u : World} {x q ys y sn wd : Nat} {c : Cf} {ts : List Txt} {E : List Ent}
theorem rub_no (g : Int) (h : UB W w x q ys y c sn wd ts E) (hf : faultU g (bytesF ts : Nat) c.bits ≠ 0) : Calls Try.prog 21 #[.pointer (some ⟨ys, 0, none⟩), .int .i64 g] w fun e w' => e = .returned (.tuple #[.agg #[.int .i64 0, .int .i64 0, .slice none 0 0], .slice none 0 0, .int .i64 (faultU g (bytesF ts : Nat) c.bits)]) ∧ Below w.heap.size w w' := by
  have hby := byk_ts h.link
  have hrs := h.rs
  have hr := h.r
  rcases h.us.bits with hb | hb
  · rw [hb] at hrs hf ⊢
    unfold faultU at hf ⊢
    by_cases h0 : g < 0
    · rw [if_pos (.inl h0)]; exact rub_neg_5 g hrs hr h0
    · by_cases h1 : 4096 < g
      · rw [if_pos (.inr h1)]; exact rub_big_5 g hrs hr h1
      · rw [if_neg (by omega)] at hf ⊢
        by_cases h2 : (bytesF ts : Nat) = 0
        · rw [if_pos (by omega)]; exact rub_none_5 g hrs hr (by omega) (by omega) (by omega)
        · rw [if_neg (by omega)] at hf ⊢
          by_cases h3 : g ≤ 5 / 5
          · rw [if_pos h3]; exact rub_grant_5 g hrs hr (by omega) (by omega) (by omega) (by omega)
          · rw [if_neg h3] at hf; exact absurd rfl hf
  · rw [hb] at hrs hf ⊢
    unfold faultU at hf ⊢
    by_cases h0 : g < 0
    · rw [if_pos (.inl h0)]; exact rub_neg_10 g hrs hr h0
    · by_cases h1 : 4096 < g
      · rw [if_pos (.inr h1)]; exact rub_big_10 g hrs hr h1
      · rw [if_neg (by omega)] at hf ⊢
        by_cases h2 : (bytesF ts : Nat) = 0
        · rw [if_pos (by omega)]; exact rub_none_10 g hrs hr (by omega) (by omega) (by omega)
        · rw [if_neg (by omega)] at hf ⊢
          by_cases h3 : g ≤ 10 / 5
          · rw [if_pos h3]; exact rub_grant_10 g hrs hr (by omega) (by omega) (by omega) (by omega)
          · rw [if_neg h3] at hf; exact absurd rfl hf
theorem ub_build_no (g : Int) (h : UB W w x q ys y c sn wd ts E) (hf : faultU g (bytesF ts : Nat) c.bits ≠ 0) : Calls Try.prog 13 #[.pointer (some ⟨x, 0, none⟩), .int .i64 g] w fun e w1 => e = .returned (.tuple #[.slice none 0 0, .slice none 0 0, .int .i64 (faultU g (bytesF ts : Nat) c.bits)]) ∧ Below w.heap.size w w1 ∧
    ∀ u, Below w1.heap.size w1 u → Calls Try.prog 21 #[.pointer (some ⟨ys, 0, none⟩), .int .i64 g] u fun e w3 => e = .returned (.tuple #[.agg #[.int .i64 0, .int .i64 0, .slice none 0 0], .slice none 0 0, .int .i64 (faultU g (bytesF ts : Nat) c.bits)]) ∧ Below u.heap.size u w3 :=
  (h.us.build_no g hf).mono fun _ _ ⟨h1, _, h3⟩ => ⟨h1, h3, fun _ hb => rub_no g ((h.later h3).later hb) hf⟩
theorem rub_all (g : Int) {sn m : Nat} {bits B : Nat} {R : Int} (hwd : bits = 5 ∨ bits = 10) (hrs : Row w ys 54 #[.pointer (some ⟨y, 0, none⟩), .int .i64 bits, .int .i64 sn]) (hr : RQ w y B R E) (hl : tx ts = live 0 E) (hB : B ≤ w.heap.size) (h8 : ∀ e ∈ E, ∀ b ∈ e.bs, b < 256) (hys : B ≤ ys) (hsn : sn < 2 ^ bits) (hp : ∀ t ∈ ts, 0 < t.bs.length) (hf : faultU g (bytesF ts : Nat) bits = 0) (hm : E.length = m) :
    Calls Try.prog 21 #[.pointer (some ⟨ys, 0, none⟩), .int .i64 g] w (RSent B y R ys bits sn ts m (min g 4000 - (bits : Int) / 5) w) := by
  subst hm
  rcases hwd with rfl | rfl
  · exact rub_ok_5 g hrs hr hl hB h8 hys hsn hp hf
  · exact rub_ok_10 g hrs hr hl hB h8 hys hsn hp hf
theorem ub_build_ok (g : Int) (h : UB W w x q ys y c sn wd ts E) (hf : faultU g (bytesF ts : Nat) c.bits = 0) : Calls Try.prog 13 #[.pointer (some ⟨x, 0, none⟩), .int .i64 g] w fun e w1 => ∃ (Av : Option Addr) (nv cv : Nat) (D : Option Addr) (k : Nat), e = .returned (.tuple #[.slice Av nv cv, .slice D k k, .int .i64 0]) ∧ KR XS W.heap.size w w1 ∧
    ∀ u, Below w1.heap.size w1 u → Calls Try.prog 21 #[.pointer (some ⟨ys, 0, none⟩), .int .i64 g] u fun e w3 => ∃ (f : Int) (A : Option Addr) (n cc : Nat) (D2 : Option Addr) (dc : Nat), e = .returned (.tuple #[.agg #[.int .i64 f, .int .i64 sn, .slice A n cc], .slice D2 k dc, .int .i64 0]) ∧ KR XU W.heap.size u w3 ∧
      (∃ ts' E', UB W w3 x q ys y c ((sn + 1) % 2 ^ wd) wd ts' E' ∧ E'.length = E.length) ∧ (∃ l : List Nat, l.length = k ∧ k ≤ 1000 ∧ SlAt 0 35 w3 D (u64v l) ∧ SlAt 0 35 w3 D2 (u64v l)) ∧
      ∃ bl : List Nat, (∀ V, Below w3.heap.size w3 V → ReadsU V (.slice Av nv cv) bl) ∧ ∀ V, Below w3.heap.size w3 V → Calls Try.prog 23 #[.agg #[.int .i64 f, .int .i64 sn, .slice A n cc], .int .i64 c.bits] V fun e w' => ∃ v2, e = .returned v2 ∧ (∀ V', Below w'.heap.size w' V' → ReadsU V' v2 bl) ∧ Below V.heap.size V w' := by
  have hp := fun t ht => (h.us.qs.bytes t ht).1
  have hcb := h.us.hcb
  have hwd := h.us.hwd
  refine (h.us.build g hf).mono ?_
  rintro e w1 ⟨k, f, n, ts', D, L, v, rfl, hfi, hoY, hu0, _, htx, hB1, hR1, hkn, hus1, ⟨cc1, hid1⟩, ho1⟩
  obtain ⟨hr1, hrs1⟩ := h.byU ho1
  have hBB := Nat.le_trans h.hB ho1.size
  obtain ⟨Av, cv, rfl, _, _⟩ := hoY.form
  refine ⟨Av, _, cv, D, k, rfl, h.kru ho1, fun u hb => ?_⟩
  have hBu := Nat.le_trans hBB hb.size
  have hrsu := hrs1.later hb
  rw [hcb] at hrsu hf hB1
  have hsz : ∀ {t : Nat}, t = wd → t = 5 ∨ t = 10 := fun e => by omega
  refine (rub_all (bits := wd) g hwd hrsu (hr1.later hb) h.link hBu h.b8 h.hys h.us.hsn hp hf rfl).mono ?_
  rintro e w3 ⟨k', n', E', A, cc, D2, dc, M, hB3, hkn3, hr3, hm3, h83, hl3, rfl, htx3, hs3, hM, hid3, hrow3, hk3⟩
  obtain ⟨rfl, rfl⟩ := hB1.only hB3 (lenT_pos hp)
  have htt : texts L = texts M := htx.trans htx3.symm
  have hk3u : KR XU W.heap.size u w3 := hk3.weaker (fun t e => by rcases e with e | e; exact .inl (by unfold X34 at e; unfold XQ; rcases e with e | e <;> simp [e]); exact .inr (.inr e))
  have hn1 : ¬ XRS 214 ∧ ¬ XRS 217 ∧ ¬ XRS 5 ∧ ¬ XRS 34 ∧ ¬ XRS 35 := by unfold XRS X34; decide
  have hil : ((ts.take k).map Txt.id).length = k := by
    have := hB1.le
    rw [length_lenT] at this
    rw [List.length_map, List.length_take]
    omega
  have hk64 : k ≤ 1000 := by have := hB1.le; rw [length_lenT] at this; have := h.us.qs.many; omega
  have h256 : ∀ t ∈ texts L, ∀ b ∈ t, b < 256 := by
    rw [htx]
    exact fieldsT_small (fun t ht => (h.us.qs.bytes t ht).2.2)
  have hoY3 : OwnY w.heap.size w3 (.slice Av (umdBytes f sn L wd).length cv) (umdBytes f sn L wd) := hk3.own (hoY.later hb) hn1.2.2.1
  refine ⟨fiT ts n, A, M.length, cc, D2, dc, rfl, hk3u, ⟨ts', E', ⟨?_, ?_, hr3, by rw [restT_tx hR1, hl3], h83, h.hy, h.hys⟩, hm3⟩, ⟨(ts.take k).map Txt.id, hil, hk64, ?_, newids_at hid3 hil⟩, umdBytes f sn L wd, ?_, ?_⟩
  · rw [hm3]
    exact (hus1.later hb).krs hk3 hn1.1 hn1.2.1 hn1.2.2.1 hn1.2.2.2.1
  · rw [hcb]; exact hrow3
  · exact newids_at (m := w.heap.size) (c := cc1) (hk3.own (hid1.later hb) hn1.2.2.2.2) hil
  · intro V hV
    exact (hoY3.later hV).conv (ub_small h256 f sn wd)
  · intro V hV
    have hent : ∀ r ∈ M, REnt V r := fun r hr => (hs3.2 r hr).only (S := fun _ => False) (.of_below hV) (fun _ _ _ h => h)
    have hsrc : RSrc V A M := rsrc_ent (own_after hs3.1 hV) hent
    have hl9 : lens M = lens L := by rw [lens_texts, lens_texts, htt]
    rw [hcb, hfi]
    refine (rwrite_un (f : Int) (sn : Int) (wd : Int) M.length cc V rfl hsrc (by rw [hl9]; exact hu0)).mono ?_
    rintro e w' ⟨v2, rfl, ho2, hb2⟩
    simp only [Int.toNat_natCast] at ho2
    rw [umdBytes_texts htt.symm] at ho2
    exact ⟨v2, rfl, fun V' hV' => (ho2.later hV').conv (ub_small h256 f sn wd), hb2⟩
theorem ub_reset (h : UB W w x q ys y c sn wd ts E) : ∃ wr, wr = w.setCell ⟨ys, 2, none⟩ (.int .i64 0) ∧ ∀ u0, Below wr.heap.size wr u0 → Calls Try.prog 17 #[.pointer (some ⟨x, 0, none⟩)] u0 fun e w1 => ∃ A, e = .returned (.slice A ts.length ts.length) ∧ SlAt 0 35 w1 A (idv ts) ∧ KR XU W.heap.size w w1 ∧ Row w1 ys 54 #[.pointer (some ⟨y, 0, none⟩), .int .i64 c.bits, .int .i64 0] ∧
    ∀ u, Below w1.heap.size w1 u → Calls Try.prog 24 #[.pointer (some ⟨y, 0, none⟩)] u fun e w3 => ∃ A2 c2, e = .returned (.slice A2 ts.length c2) ∧ SlAt 0 35 w3 A2 (idv ts) ∧ SlAt 0 35 w3 A (idv ts) ∧ KR XU W.heap.size u w3 ∧ ∃ ts' E', UB W w3 x q ys y c 0 wd ts' E' ∧ E'.length = E.length := by
  refine ⟨_, rfl, fun u0 hb0 => ?_⟩
  have ho : Only (fun k => k = ys) w (w.setCell ⟨ys, 2, none⟩ (.int .i64 0)) := (Only.refl (fun k => k = ys) w).set (p := ⟨ys, 2, none⟩) (.inl rfl) _
  have hk0 : KR (fun t => t = 54) W.heap.size w (w.setCell ⟨ys, 2, none⟩ (.int .i64 0)) := KR.set (X := fun t => t = 54) h.rs rfl h.hys h.hB _
  obtain ⟨AL, cL, AT, cT, AG, cG, hrow, _⟩ := h.r.row
  have hr0 : RQ (w.setCell ⟨ys, 2, none⟩ (.int .i64 0)) y W.heap.size c.qb E := h.r.only ho (fun e => by subst e; exact absurd (qlrow_same hrow h.rs) (by decide)) (fun g t cs hr ht e => by subst e; have e9 := qlrow_same hr h.rs; subst e9; rcases ht with ht | ht | ht | ht <;> exact absurd ht (by decide))
  have h0 : UB W u0 x q ys y c sn wd ts E → True := fun _ => trivial
  have hus0 : US W u0 x q c sn wd E.length ts := (h.us.krs hk0 (by decide) (by decide) (by decide) (by decide)).later hb0
  have hrs0 : Row u0 ys 54 #[.pointer (some ⟨y, 0, none⟩), .int .i64 c.bits, .int .i64 0] := (h.rs.written 2 _).later hb0
  have hr00 := hr0.later hb0
  have hB0 : W.heap.size ≤ u0.heap.size := hus0.bl.size
  have hku0 : KR XU W.heap.size w u0 := (hk0.weaker (fun t e => .inr (.inr e))).trans (KR.of_below (Nat.le_trans h.hB hk0.size) hb0)
  have hids : (idk E E.length).length = ts.length := by rw [ids_live, ← h.link, List.length_map, tx_len]
  have hidv : u64v (idk E E.length) = idv ts := by
    rw [ids_live, ← h.link]
    unfold u64v tx idv
    simp [List.map_map, Function.comp_def]
  refine hus0.reset.mono ?_
  rintro e w1 ⟨g, rfl, hg, hrw, hus1, ho1⟩
  have hno : ∀ g t cs, Row u0 g t cs → t ≠ 214 → t ≠ 217 → t ≠ 34 → ¬ (QT W.heap.size u0 g ∨ g = x) := by
    rintro g t cs hr h1 h2 h3 (⟨_, t', cs', e1, e2⟩ | rfl)
    · have e := qlrow_same hr e1
      subst e
      rcases e2 with e2 | e2
      · exact h1 e2
      · exact h2 e2
    · exact h3 (qlrow_same hr hus0.snd)
  obtain ⟨AL', cL', AT', cT', AG', cG', hrow', _⟩ := hr00.row
  have hr1 : RQ w1 y W.heap.size c.qb E := hr00.only ho1 (hno _ _ _ hrow' (by decide) (by decide) (by decide)) (fun g t cs hr ht => by rcases ht with rfl | rfl | rfl | rfl <;> exact hno _ _ _ hr (by decide) (by decide) (by decide))
  have hrs1 : Row w1 ys 54 #[.pointer (some ⟨y, 0, none⟩), .int .i64 c.bits, .int .i64 0] := hrs0.only ho1 (hno _ _ _ hrs0 (by decide) (by decide) (by decide))
  have hk1 : KR XU W.heap.size u0 w1 := ⟨hB0, ho1.below hB0 hus0.hx, ho1.size, fun g t cs hr hx => ho1.row hr (fun e => hx (.inl (by unfold XQ; simp [e]))) (fun e => hx (.inl (by unfold XQ; simp [e]))) (fun e => by
    subst e
    exact hx (.inr (.inl (qlrow_same hr hus0.snd))))⟩
  refine ⟨_, rfl, row_slat (Nat.zero_le g) hrw, hku0.trans hk1, hrs1, fun u hb => ?_⟩
  have hBu := Nat.le_trans hus1.bl.size hb.size
  refine (rq_clear (hr1.later hb)).mono ?_
  rintro e w3 ⟨A2, c2, rfl, hs3, hr3, ho3⟩
  have hk3 : KR X34 W.heap.size u w3 := KR.of34 ho3 hBu
  rw [hidv] at hs3
  rw [hids]
  refine ⟨A2, c2, rfl, fun hne => ?_, row_slat (Nat.zero_le g) (hk3.rows _ _ _ (hrw.later hb) (by unfold X34; decide)), kr_xu hk3, [], allGone E E.length, ⟨?_, hk3.rows _ _ _ (hrs1.later hb) (by unfold X34; decide), hr3, ?_, ?_, h.hy, h.hys⟩, allGone_len E _⟩
  · obtain ⟨g3, cs, e1, e2, e3, e4⟩ := hs3 hne
    exact ⟨g3, cs, e1, Nat.zero_le _, e3, e4⟩
  · rw [allGone_len]
    exact (hus1.later hb).krs hk3 (by unfold X34; decide) (by unfold X34; decide) (by unfold X34; decide) (by unfold X34; decide)
  · rw [live_all]; rfl
  · intro e he
    unfold allGone at he
    rw [List.take_length, List.drop_length, List.append_nil] at he
    obtain ⟨e', he', rfl⟩ := List.mem_map.1 he
    exact h.b8 e' he'
end
end Go.Proofs.Ytjonkpdjhjobfaa
namespace Go.Proofs.Ytjonkpdjhjobfaa
open Go.RowKit

set_option maxRecDepth 100000 in
set_option maxHeartbeats 1600000 in
theorem qsame16_any {A1 A2 : Option Addr} {B1 B2 n : Nat} (c1 c2 : Nat) (xs : List Nat) (w : World) (hn : xs.length = n) (hb : n ≤ 100000) (h1 : SlAt B1 35 w A1 (u64v xs)) (h2 : SlAt B2 35 w A2 (u64v xs)) :
    Calls Try.prog 22 #[.slice A1 n c1, .slice A2 n c2] w fun e w' => e = .returned (.bool true) ∧ Below w.heap.size w w' := by
  have H1 := Lib.hid h1
  have H2 := Lib.hid h2
  have HN := Lib.hid hn
  clear h1 h2 hn
  go_enter Try.func22, Try.ntmps22
  go_wp2
  go_loopw [5] (fun s5 wr => ∃ i : Nat, i ≤ n ∧ s5 = .int .i64 i ∧ Hid (Below w.heap.size w wr)) (fun s5 _ => n - (intOf s5).toNat)
  case atStart => exact ⟨0, by omega, rfl, Lib.hid (Below.refl _ _)⟩
  case round =>
    obtain ⟨i, hi, rfl, HB⟩ := hrel
    by_cases hlt : i < n
    · have h1 : (i : Int) < n := by omega
      have h0 : (0 : Int) ≤ i := by omega
      obtain ⟨v, hv⟩ : ∃ v, xs[i]? = some v := ⟨_, List.getElem?_eq_getElem (by rw [HN.out]; exact hlt)⟩
      have hvv : (u64v xs)[i]? = some (.int .u64 (v : Int)) := by unfold u64v; rw [List.getElem?_map, hv]; rfl
      obtain ⟨g1, rfl, z1⟩ := (H1.out.later HB.out).cell hvv
      obtain ⟨g2, rfl, z2⟩ := (H2.out.later HB.out).cell hvv
      have HLT := Lib.hid hlt
      clear hv hvv hlt
      go_wp2
      go_quiet (fail)
      go_wp2
      go_roundw
      case rel => exact ⟨i + 1, by have := HLT.out; omega, by go_num, Lib.hid (below_drewN HB.out _)⟩
      case measure => have := HLT.out; simp [intOf]; omega
    · have h1 : ¬ (i : Int) < n := by omega
      clear hlt
      go_wp2
      go_ret
      exact ⟨rfl, HB.out⟩
section
variable {w : World}
theorem upush_nil9 (S : Value) (w : World) : Calls Try.prog 12 #[.pointer none, S] w fun e w' => e = .returned (.tuple #[.int .u64 0, .int .i64 6]) ∧ Below w.heap.size w w' := by
  refine (via_upush (P := fun u a b w1 => a = 0 ∧ b = 6 ∧ u = w1) (usource_nil w) (fun u _ => ⟨0, 6, (push_nil S u).mono (fun e w1 h => ⟨h.1, rfl, rfl, h.2⟩)⟩)).mono ?_
  rintro e w' ⟨u, a, b, rfl, hb, rfl, rfl, rfl⟩
  exact ⟨rfl, hb⟩
theorem udisc_zero9 {x : Nat} {c : Cf} {nx : Int} (h : Row w x 34 (SCells c (.pointer none) nx)) : Calls Try.prog 14 #[.pointer (some ⟨x, 0, none⟩), .int .u64 1] w fun e w' => e = .returned (.int .i64 6) ∧ Below w.heap.size w w' := by
  refine (via_udisc (P := fun u a w1 => a = 6 ∧ u = w1) (usource_any h) (fun u _ => ⟨6, (discard_nil 1 u).mono (fun e w1 h => ⟨h.1, rfl, h.2⟩)⟩)).mono ?_
  rintro e w' ⟨u, a, rfl, hb, rfl, rfl⟩
  exact ⟨rfl, hb⟩
theorem ubytes_nil9 (w : World) : Calls Try.prog 15 #[.pointer none] w fun e w' => e = .returned (.int .i64 0) ∧ Below w.heap.size w w' := by
  refine (via_ubytes (P := fun u a w1 => a = 0 ∧ u = w1) (usource_nil w) (fun u _ => ⟨0, (qbytes_nil u).mono (fun e w1 h => ⟨h.1, rfl, h.2⟩)⟩)).mono ?_
  rintro e w' ⟨u, a, rfl, hb, rfl, rfl⟩
  exact ⟨rfl, hb⟩
theorem ureset_zero9 {w0 : World} {x : Nat} {c : Cf} (h : Row w x 34 (SCells c (.pointer none) 0)) (hx : w0.heap.size ≤ x) (hb : Below w0.heap.size w0 w) : Calls Try.prog 17 #[.pointer (some ⟨x, 0, none⟩)] w fun e w' => e = .returned (.slice none 0 0) ∧ Below w0.heap.size w0 w' := by
  refine (ureset_zero h).mono ?_
  rintro e w' ⟨rfl, rfl⟩
  refine ⟨rfl, hb.trans (((Only.refl (fun k => k = x) w).set (p := ⟨x, 11, none⟩) (.inl rfl) _).below hb.size (fun k hk e => by omega))⟩
end
end Go.Proofs.Ytjonkpdjhjobfaa
namespace Go.Proofs.Ytjonkpdjhjobfaa
open Go.RowKit

end Go.Proofs.Ytjonkpdjhjobfaa
namespace Go.Proofs.Ytjonkpdjhjobfaa
open Go.RowKit

theorem rpis_any (n l m : Int) (w : World) : Calls Try.prog 79 #[.int .i64 n, .int .i64 l, .int .i64 m] w fun e w' => e = .returned (.bool (inB n l m)) ∧ w = w' := by
  by_cases h1 : l ≤ n
  · by_cases h2 : n ≤ m
    · have HX := Lib.hid (show inB n l m = true by simp [inB, h1, h2])
      go_enter Try.func79, Try.ntmps79
      go_wp2
      go_ret
      exact ⟨by rw [HX.out]; rfl, rfl⟩
    · have HX := Lib.hid (show inB n l m = false by simp [inB, h2])
      have h2' : decide (n ≤ m) = false := decide_eq_false h2
      go_enter Try.func79, Try.ntmps79
      go_wp2
      go_ret
      exact ⟨by rw [HX.out]; rfl, rfl⟩
  · have HX := Lib.hid (show inB n l m = false by simp [inB, h1])
    have h2' : decide (l ≤ n) = false := decide_eq_false h1
    go_enter Try.func79, Try.ntmps79
    go_wp2
    go_ret
    exact ⟨by rw [HX.out]; rfl, rfl⟩
set_option maxRecDepth 100000 in
set_option maxHeartbeats 12800000 in
theorem rcheck0 (bits win reo prx pro ppd pby mrx qb : Int) (w : World) :
    Calls Try.prog 11 #[.agg #[.int .i64 0, .int .i64 bits, .int .i64 win, .int .i64 reo, .int .i64 prx, .int .i64 pro, .int .i64 ppd, .int .i64 pby, .int .i64 mrx, .int .i64 qb]] w fun e w' => e = .returned (.int .i64 (checkF ⟨0, bits, win, reo, prx, pro, ppd, pby, mrx, qb⟩)) ∧ Below w.heap.size w w' := by
  have ROW := Lib.hid (Row.made w 23 #[.int .i64 0, .int .i64 bits, .int .i64 win, .int .i64 reo, .int .i64 prx, .int .i64 pro, .int .i64 ppd, .int .i64 pby, .int .i64 mrx, .int .i64 qb])
  have HB0 := Lib.hid (bl_alloc (Below.refl w.heap.size w) (.cells #[.int .i64 0, .int .i64 bits, .int .i64 win, .int .i64 reo, .int .i64 prx, .int .i64 pro, .int .i64 ppd, .int .i64 pby, .int .i64 mrx, .int .i64 qb] 23))
  have HSZ := Lib.hid (fun W => rsize_any bits W)
  have hsz := sz_bd bits
  have HF := Lib.hid (show checkF ⟨0, bits, win, reo, prx, pro, ppd, pby, mrx, qb⟩ = if inB qb 1 20000 && z8 ⟨0, bits, win, reo, prx, pro, ppd, pby, mrx, qb⟩ then 0 else 1 from rfl)
  have HI0 := Lib.hid (fun W => rpis_any qb 1 20000 W)
  generalize sz bits = sb at *
  cases hq0 : inB qb 1 20000
  · rw [hq0] at HI0 HF
    clear hq0
    go_enter Try.func11, Try.ntmps11
    obtain ⟨c0, c1, c2, c3, c4, c5, c6, c7, c8, c9⟩ := cells10 ROW.out
    go_wp2_with (first
      | (go_at_call 79; (with_reducible refine (HI0.out _).mono ?_); rintro e wx ⟨rfl, rfl⟩)
      | (go_at_call 80; (with_reducible refine (HSZ.out _).mono ?_); rintro e wx ⟨rfl, rfl⟩))
    all_goals
      go_ret
      refine ⟨?_, bl_alloc (Below.refl _ _) _⟩
      rw [HF.out]
      first | rfl | simp_all [z8, z5, in2]
  · rw [hq0] at HI0 HF
    clear hq0
    go_enter Try.func11, Try.ntmps11
    obtain ⟨c0, c1, c2, c3, c4, c5, c6, c7, c8, c9⟩ := cells10 ROW.out
    go_wp2_with (first
      | (go_at_call 79; (with_reducible refine (HI0.out _).mono ?_); rintro e wx ⟨rfl, rfl⟩)
      | (go_at_call 80; (with_reducible refine (HSZ.out _).mono ?_); rintro e wx ⟨rfl, rfl⟩))
    all_goals
      go_ret
      refine ⟨?_, bl_alloc (Below.refl _ _) _⟩
      rw [HF.out]
      first | rfl | simp_all [z8, z5]
set_option maxRecDepth 100000 in
set_option maxHeartbeats 12800000 in
theorem rcheck9 (mode bits win reo prx pro ppd pby mrx qb : Int) (w : World) (g0 : mode ≠ 0) (g1 : mode ≠ 1) (g2 : mode ≠ 2) :
    Calls Try.prog 11 #[.agg #[.int .i64 mode, .int .i64 bits, .int .i64 win, .int .i64 reo, .int .i64 prx, .int .i64 pro, .int .i64 ppd, .int .i64 pby, .int .i64 mrx, .int .i64 qb]] w fun e w' => e = .returned (.int .i64 (checkF ⟨mode, bits, win, reo, prx, pro, ppd, pby, mrx, qb⟩)) ∧ Below w.heap.size w w' := by
  have ROW := Lib.hid (Row.made w 23 #[.int .i64 mode, .int .i64 bits, .int .i64 win, .int .i64 reo, .int .i64 prx, .int .i64 pro, .int .i64 ppd, .int .i64 pby, .int .i64 mrx, .int .i64 qb])
  have HB0 := Lib.hid (bl_alloc (Below.refl w.heap.size w) (.cells #[.int .i64 mode, .int .i64 bits, .int .i64 win, .int .i64 reo, .int .i64 prx, .int .i64 pro, .int .i64 ppd, .int .i64 pby, .int .i64 mrx, .int .i64 qb] 23))
  have HSZ := Lib.hid (fun W => rsize_any bits W)
  have hsz := sz_bd bits
  have HF := Lib.hid (show checkF ⟨mode, bits, win, reo, prx, pro, ppd, pby, mrx, qb⟩ = 9 by unfold checkF; rw [if_neg g0, if_neg g1, if_neg g2])
  have g0' : (mode == 0) = false := by simpa using g0
  have g1' : (mode == 1) = false := by simpa using g1
  have g2' : (mode == 2) = false := by simpa using g2
  clear g0 g1 g2
  have HI0 := Lib.hid (fun W => rpis_any qb 1 20000 W)
  generalize sz bits = sb at *
  cases hq0 : inB qb 1 20000
  · rw [hq0] at HI0
    clear hq0
    go_enter Try.func11, Try.ntmps11
    obtain ⟨c0, c1, c2, c3, c4, c5, c6, c7, c8, c9⟩ := cells10 ROW.out
    go_wp2_with (first
      | (go_at_call 79; (with_reducible refine (HI0.out _).mono ?_); rintro e wx ⟨rfl, rfl⟩)
      | (go_at_call 80; (with_reducible refine (HSZ.out _).mono ?_); rintro e wx ⟨rfl, rfl⟩))
    all_goals
      go_ret
      refine ⟨?_, bl_alloc (Below.refl _ _) _⟩
      rw [HF.out]
      first | rfl | simp_all [z8, z5, in2]
  · rw [hq0] at HI0
    clear hq0
    go_enter Try.func11, Try.ntmps11
    obtain ⟨c0, c1, c2, c3, c4, c5, c6, c7, c8, c9⟩ := cells10 ROW.out
    go_wp2_with (first
      | (go_at_call 79; (with_reducible refine (HI0.out _).mono ?_); rintro e wx ⟨rfl, rfl⟩)
      | (go_at_call 80; (with_reducible refine (HSZ.out _).mono ?_); rintro e wx ⟨rfl, rfl⟩))
    all_goals
      go_ret
      refine ⟨?_, bl_alloc (Below.refl _ _) _⟩
      rw [HF.out]
      first | rfl | simp_all [z8, z5, in2]
end Go.Proofs.Ytjonkpdjhjobfaa
