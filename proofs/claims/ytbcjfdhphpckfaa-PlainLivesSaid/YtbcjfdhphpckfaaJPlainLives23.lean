/-
  A packet's bytes. The packet that bytes are. cut: a piece while it is built, and what Build does.
-/
import Derived.Test.YtbcjfdhphpckfaaJPlainLives22
import Derived.Deep.RegionHeld3
import Derived.Laws.ResultCell
import Derived.Test.YtbcjfdhphpckfaaJPlainLives21
namespace Go.Proofs.Ytbcjfdhphpckfaa
open Go.RowKit


theorem okn_true {b n : Int} (h : okn b n = true) : 0 ≤ n ∧ n < sz b := of_decide_eq_true h
theorem fwrite_at {A A0 : Option Addr} {L : List RowB} {lh : List Nat} (n cap n0 c0 wd : Nat) (wi : Int) (w : World) (e : wi = wd) (h : wd = 11 ∨ wd = 15) (hL : L.length = n) (hcap : n ≤ cap) (hcm : cap ≤ 9223372036854775807) (h1 : 1 ≤ n) (h24 : n ≤ 24) (hok : okTo (lens L) (lens L).length = true) (hs : RSrc w A L) (hh : Src w A0 (bts lh)) (hn0 : lh.length = n0) (hn1 : n0 ≤ 10) :
    Calls Try.prog 200 #[.slice A0 n0 c0, .slice A n cap, .int .i64 wi] w fun e w' => ∃ v', e = .returned v' ∧ OwnY w.heap.size w' v' (lh ++ tailF (lens L) wd ++ flat L) ∧ Below w.heap.size w w' := by
  subst e
  exact fwrite_any n cap n0 c0 wd w h hL hcap hcm h1 h24 hok hs hh hn0 hn1
theorem Row.under {w v : World} {B g : Nat} {t : TypeId} {cs : Array Value} (h : Row w g t cs) (hb : Below B w v) (hg : g < B) : Row v g t cs := (hb.block g hg).trans h
theorem put_step {B p : Nat} {bl : List Bool} {w : World} (v n : Nat) (vi ni : Int) (h : ∃ sv, WRep B w p sv bl) (e1 : vi = v) (e2 : ni = n) (hn : n ≤ 64) (hv : v < 2 ^ n) (hv2 : v < 18446744073709551616) (hl : bl.length + n ≤ 65536) :
    Calls Try.prog 198 #[.pointer (some ⟨p, 0, none⟩), .int .u64 vi, .int .i64 ni] w fun e w' => e = .returned (.int .i64 0) ∧ (∃ sv, WRep B w' p sv (bl ++ unval v n)) ∧ Below B w w' := by
  subst e1 e2
  obtain ⟨sv, h⟩ := h
  refine (put_any v n w h hn hv hl hv2).mono ?_
  rintro e w' ⟨rfl, sv', h1, _, h3⟩
  exact ⟨rfl, ⟨sv', h1⟩, wrote_below h h3⟩
set_option maxHeartbeats 400000 in
theorem ufollows_any (b : Bool) (w : World) : Calls Try.prog 199 #[.bool b] w fun e w' => e = .returned (.int .u64 b.toNat) ∧ w = w' := by
  cases b
  · go_enter Try.func199, Try.ntmps199
    go_wp2
    go_ret
    exact ⟨rfl, rfl⟩
  · go_enter Try.func199, Try.ntmps199
    go_wp2
    go_ret
    exact ⟨rfl, rfl⟩
/-- a head's bits -/
def headB (fi sn : Nat) (more : Bool) (wd : Nat) : List Bool := ((unval 0 (if wd = 10 then 3 else 0) ++ unval fi 2) ++ unval more.toNat 1) ++ unval sn wd
def umdBytes (fi sn : Nat) (L : List RowB) (wd : Nat) : List Nat := pack (headB fi sn (decide (1 < L.length)) wd) ++ tailF (lens L) 11 ++ flat L
theorem length_headB (fi sn : Nat) (more : Bool) (wd : Nat) : (headB fi sn more wd).length = (if wd = 10 then 3 else 0) + 3 + wd := by
  unfold headB
  rw [List.length_append, List.length_append, List.length_append, length_unval, length_unval, length_unval, length_unval]

set_option maxRecDepth 100000 in
set_option maxHeartbeats 800000 in
theorem uwrite_bad {A : Option Addr} {L : List RowB} (fi sn wd : Int) (n cap : Nat) (w : World) (hL : L.length = n) (hn : n ≤ 9223372036854775807) (hs : RSrc w A L) (hm : ∀ m ∈ lens L, m ≤ 9223372036854775807) (h : umdF fi sn (lens L) wd = 0) :
    Calls Try.prog 144 #[.agg #[.int .i64 fi, .int .i64 sn, .slice A n cap], .int .i64 wd] w fun e w' => e = .returned (.tuple #[.slice none 0 0, .int .i64 (if wd = 5 ∨ wd = 10 then 3 else 9)]) ∧ Below w.heap.size w w' := by
  have HSH := Lib.hid (fun W => shape_any wd W)
  have HR := Lib.hid (fun W (hb : Below w.heap.size w W) => (show Calls Try.prog 196 #[.agg #[.int .i64 fi, .int .i64 sn, .slice A n cap], .int .i64 wd] W fun e w' => e = .returned (.bool false) ∧ Below W.heap.size W w' from by
    have h1 := uright_any (A := A) fi sn wd n cap W hL hn (hs.later hb) hm
    rw [h] at h1
    exact h1))
  clear hs hm hL h
  by_cases hw : wd = 5 ∨ wd = 10
  · have hd : 1 ≤ (headN wd).1 := by rcases hw with rfl | rfl <;> decide
    have h0 : ((headN wd).1 == 0) = false := by simp; omega
    generalize (headN wd).1 = hd at *
    generalize (headN wd).2 = nz at *
    rw [if_pos hw]
    clear hw
    go_enter Try.func144, Try.ntmps144
    go_wp2_with (first
      | (go_at_call 195; refine (HSH.out _).mono ?_; rintro e w1 ⟨rfl, rfl⟩)
      | (go_at_call 196; refine (HR.out _ (bl_alloc (Below.refl _ _) _)).mono ?_; rintro e w2 ⟨rfl, hb2⟩))
    go_ret2
    exact ⟨rfl, (bl_alloc (Below.refl w.heap.size w) _).trans (hb2.mono (by simp))⟩
  · have hh : headN wd = (0, 0) := by unfold headN; rw [if_neg (fun h => hw (.inl h)), if_neg (fun h => hw (.inr h))]
    rw [hh] at HSH
    rw [if_neg hw]
    clear hw hh
    go_enter Try.func144, Try.ntmps144
    go_wp2_with (go_at_call 195; refine (HSH.out _).mono ?_; rintro e w1 ⟨rfl, rfl⟩)
    go_ret2
    exact ⟨rfl, bl_alloc (Below.refl w.heap.size w) _⟩

set_option maxRecDepth 100000 in
set_option maxHeartbeats 3200000 in
theorem uwrite_ok {A : Option Addr} {L : List RowB} (fi sn wd n cap : Nat) (w : World) (hL : L.length = n) (hcap : n ≤ cap) (hcm : cap ≤ 9223372036854775807) (hs : RSrc w A L) (hm : ∀ m ∈ lens L, m ≤ 9223372036854775807) (h : umdF fi sn (lens L) wd ≠ 0) :
    Calls Try.prog 144 #[.agg #[.int .i64 fi, .int .i64 sn, .slice A n cap], .int .i64 wd] w fun e w' => ∃ v', e = .returned (.tuple #[v', .int .i64 0]) ∧ OwnY w.heap.size w' v' (umdBytes fi sn L wd) ∧ Below w.heap.size w w' := by
  obtain ⟨hw, _, hfi, hsn, hl1, hl2, hok, _⟩ := umdF_pos h
  rw [length_lens, hL] at hl1 hl2
  have hsz : (sn : Int) < 2 ^ wd := by
    have h1 := (okn_true hsn).2
    unfold sz at h1
    rcases hw with h9 | h9
    · obtain rfl : wd = 5 := by omega
      exact h1
    · obtain rfl : wd = 10 := by omega
      exact h1
  have hsn2 : sn < 2 ^ wd := by
    have e : ((2 ^ wd : Nat) : Int) = (2 : Int) ^ wd := by rw [Int.natCast_pow]; rfl
    omega
  have hwd : wd = 5 ∨ wd = 10 := by omega
  have hsn3 : sn < 1024 := by rcases hwd with rfl | rfl <;> omega
  have HSH := Lib.hid (fun W => shape_any wd W)
  have hnz : (headN wd).2 = ((if wd = 10 then 3 else 0 : Nat) : Int) := by rcases hwd with rfl | rfl <;> rfl
  have hhd : 1 ≤ (headN wd).1 := by rcases hwd with rfl | rfl <;> decide
  have h0 : ((headN wd).1 == 0) = false := by simp; omega
  have HR := Lib.hid (fun W (hb : Below w.heap.size w W) => (show Calls Try.prog 196 #[.agg #[.int .i64 fi, .int .i64 sn, .slice A n cap], .int .i64 wd] W fun e w' => e = .returned (.bool true) ∧ Below W.heap.size W w' from by
    have h1 := uright_any (A := A) fi sn wd n cap W hL (by omega) (hs.later hb) hm
    rw [decide_eq_true (show 0 < umdF fi sn (lens L) wd by have := umdF_nonneg fi sn (lens L) wd; omega)] at h1
    exact h1))
  have HNEW := Lib.hid (fun W (hB : w.heap.size + 1 ≤ W.heap.size) => new_any (w.heap.size + 1) W hB)
  generalize hnzz : (if wd = 10 then 3 else 0 : Nat) = nz at *
  have hnz3 : nz ≤ 3 := by rw [← hnzz]; split <;> omega
  have hlen := length_headB fi sn (decide (1 < L.length)) wd
  rw [hnzz] at hlen
  have hpl : packLen (headB fi sn (decide (1 < L.length)) wd).length ≤ 10 := by rw [hlen]; unfold packLen; omega
  have HHB := Lib.hid (show ((unval 0 nz ++ unval fi 2) ++ unval (decide (1 < L.length)).toNat 1) ++ unval sn wd = headB fi sn (decide (1 < L.length)) wd by unfold headB; rw [hnzz])
  have HFW := Lib.hid (fun W A0 n0 c0 (hb : Below w.heap.size w W) hh hn0 => fwrite_at (A := A) (A0 := A0) (lh := pack (headB fi sn (decide (1 < L.length)) wd)) n cap n0 c0 11 11 W rfl (.inl rfl) hL hcap hcm hl1 hl2 hok (hs.later hb) hh hn0 (by rw [← hn0, length_pack]; exact hpl))
  have HP1 := Lib.hid (fun W p (hr : ∃ sv, WRep (w.heap.size + 1) W p sv []) => put_step (bl := []) 0 nz 0 nz hr rfl rfl (by omega) (Nat.two_pow_pos _) (by omega) (by simp; omega))
  have HP2 := Lib.hid (fun W p (hr : ∃ sv, WRep (w.heap.size + 1) W p sv ([] ++ unval 0 nz)) => put_step (bl := [] ++ unval 0 nz) fi 2 fi 2 hr rfl rfl (by omega) (by omega) (by omega) (by simp [length_unval]; omega))
  have HP3 := Lib.hid (fun W p (hr : ∃ sv, WRep (w.heap.size + 1) W p sv (([] ++ unval 0 nz) ++ unval fi 2)) => put_step (bl := ([] ++ unval 0 nz) ++ unval fi 2) (decide (1 < L.length)).toNat 1 (decide (1 < L.length)).toNat 1 hr rfl rfl (by omega) (by cases decide (1 < L.length) <;> decide) (by cases decide (1 < L.length) <;> decide) (by simp [length_unval]; omega))
  have HP4 := Lib.hid (fun W p (hr : ∃ sv, WRep (w.heap.size + 1) W p sv ((([] ++ unval 0 nz) ++ unval fi 2) ++ unval (decide (1 < L.length)).toNat 1)) => put_step (bl := (([] ++ unval 0 nz) ++ unval fi 2) ++ unval (decide (1 < L.length)).toNat 1) sn wd sn wd hr rfl rfl (by omega) hsn2 (by omega) (by simp [length_unval]; omega))
  have HMORE := Lib.hid (show decide ((1 : Int) < (n : Int)) = decide (1 < L.length) by apply decide_eq_decide.2; omega)
  have HBY := Lib.hid (fun W p (hr : ∃ sv, WRep (w.heap.size + 1) W p sv (headB fi sn (decide (1 < L.length)) wd)) => by
    obtain ⟨sv, hr⟩ := hr
    exact bytes_any hr (by rw [hlen]; omega))
  have hfw : IntKind.u64.wrap (fi : Int) = (fi : Int) := by rw [IntKind.wrap_u64]; omega
  have hsw : IntKind.u64.wrap (sn : Int) = (sn : Int) := by rw [IntKind.wrap_u64]; omega
  have HU := Lib.hid (show umdBytes fi sn L wd = pack (headB fi sn (decide (1 < L.length)) wd) ++ tailF (lens L) 11 ++ flat L from rfl)
  rw [hnz] at HSH
  generalize (headN wd).1 = hd at *
  generalize decide (1 < L.length) = more at *
  generalize hHB : headB fi sn more wd = bits at *
  generalize umdBytes fi sn L wd = out at *
  clear h hw hok hs hm hL hlen hnz hnzz hwd hsn hsz hsn2 hHB
  go_enter Try.func144, Try.ntmps144
  go_wp2_with (first
    | (go_at_call 195; refine (HSH.out _).mono ?_; rintro e w1 ⟨rfl, rfl⟩)
    | (go_at_call 196; refine (HR.out _ (bl_alloc (Below.refl _ _) _)).mono ?_; rintro e w2 ⟨rfl, hb2⟩; (have HROW := Lib.hid ((Row.made w 198 #[.int .i64 fi, .int .i64 sn, .slice A n cap]).later hb2); have HB2 := Lib.hid ((bl_alloc (Below.refl w.heap.size w) _).trans (hb2.mono (by simp))); have HZ2 := Lib.hid (show w.heap.size + 1 ≤ w2.heap.size by have := hb2.size; simp at this; omega); clear hb2))
    | (go_at_call 197; refine (HNEW.out w2 HZ2.out).mono ?_; rintro e w3 ⟨rfl, hr3, hb3⟩; (have HROW3 := Lib.hid (HROW.out.later hb3); have HR3 := Lib.hid (show ∃ sv, WRep (w.heap.size + 1) w3 w2.heap.size sv [] from ⟨_, hr3⟩); have HB3 := Lib.hid (HB2.out.trans (hb3.mono HB2.out.size)); clear hr3 hb3))
    | (go_at_call 198; (with_reducible refine (HP1.out w3 _ HR3.out).mono ?_); rintro e w4 ⟨rfl, hr4, hb4⟩; (have HROW4 := Lib.hid (HROW3.out.under hb4 (by omega)); have c4 := HROW4.out.read (i := 0) rfl; have HR4 := Lib.hid hr4; have HB4 := Lib.hid (HB3.out.trans (hb4.mono (by omega))); clear hr4 hb4))
    | (go_at_call 198; (with_reducible refine (HP2.out w4 _ HR4.out).mono ?_); rintro e w5 ⟨rfl, hr5, hb5⟩; (have HROW5 := Lib.hid (HROW4.out.under hb5 (by omega)); have c5 := HROW5.out.read (i := 2) rfl; have HR5 := Lib.hid hr5; have HB5 := Lib.hid (HB4.out.trans (hb5.mono (by omega))); clear hr5 hb5))
    | (go_at_call 199; (with_reducible refine (ufollows_any _ _).mono ?_); rintro e w6 ⟨rfl, rfl⟩; rw [HMORE.out])
    | (go_at_call 198; (with_reducible refine (HP3.out w5 _ HR5.out).mono ?_); rintro e w7 ⟨rfl, hr7, hb7⟩; (have HROW7 := Lib.hid (HROW5.out.under hb7 (by omega)); have c7 := HROW7.out.read (i := 1) rfl; have HR7 := Lib.hid hr7; have HB7 := Lib.hid (HB5.out.trans (hb7.mono (by omega))); clear hr7 hb7))
    | (go_at_call 198; (with_reducible refine (HP4.out w7 _ HR7.out).mono ?_); rintro e w8 ⟨rfl, hr8, hb8⟩; (have HROW8 := Lib.hid (HROW7.out.under hb8 (by omega)); have c8 := HROW8.out.read (i := 2) rfl; have HR8 := Lib.hid hr8; have HB8 := Lib.hid (HB7.out.trans (hb8.mono (by omega))); clear hr8 hb8)))
  have d8 : w8.drew.cell? ⟨w.heap.size, 2, none⟩ = some (.slice A n cap) := c8
  have HBY8 := Lib.hid (HBY.out w8.drew _ (by rw [← HHB.out]; obtain ⟨sv, h9⟩ := HR8.out; exact ⟨sv, h9.later (bl_drew (Below.refl _ _))⟩))
  have hpk := length_pack bits
  generalize packLen bits.length = k8 at *
  have HPK := Lib.hid hpk
  clear hpk
  go_region_held3 (fun w' => w'.cell? ⟨w.heap.size, 2, none⟩ = some (.slice A n cap)) (first | assumption | go_keep) (first
    | (go_at_call 201; (with_reducible refine HBY8.out.mono ?_); rintro e v1 ⟨g1, rfl, hg1, hr1, hv1⟩; have HW1 := Lib.hid (HB8.out.trans ((bl_step (bl_drew (Below.refl w8.heap.size w8)) hv1).mono HB8.out.size)); have HR1 := Lib.hid hr1; have k1 : v1.cell? ⟨w.heap.size, 2, none⟩ = some (.slice A n cap) := kept_box hv1 d8)
    | (go_at_call 200; (with_reducible refine (HFW.out _ _ _ _ HW1.out (row_src HR1.out) HPK.out).mono ?_); rintro e v2 ⟨x2, rfl, ho2, hv2⟩; obtain ⟨A2, c2, hx2, _⟩ := ho2.form; generalize (pack bits ++ tailF (lens L) 11 ++ flat L).length = n2 at hx2; subst hx2; have k2 : v2.cell? ⟨w.heap.size, 2, none⟩ = some (.slice A n cap) := kept_box hv2 k1; (have HO2 := Lib.hid ho2; have HW2 := Lib.hid (HW1.out.trans (hv2.mono HW1.out.size)))))
  go_wp2
  go_ret2
  exact ⟨_, rfl, by rw [HU.out]; exact HO2.out.down HW1.out.size, HW2.out⟩
end Go.Proofs.Ytbcjfdhphpckfaa
namespace Go.Proofs.Ytbcjfdhphpckfaa
open Go.RowKit


theorem get54 {pr p g : Nat} {bs : List Nat} {i : Nat} (n : Nat) (ni : Int) (w : World) (e : ni = n) (hp : Row w pr 299 #[.pointer (some ⟨p, 0, none⟩)]) (hr : RRep w p g bs i) (hn : n ≤ 40) (h : i + n ≤ 8 * bs.length) :
    Calls Try.prog 230 #[.int .i64 ni, .pointer (some ⟨pr, 0, none⟩)] w fun e w' => e = .returned (.int .i64 (val (seg bs i n))) ∧ RRep w' p g bs (i + n) ∧ Only (fun k => k = p) w w' := by
  subst e
  have HG := Lib.hid (get_any n w hr (by omega) h)
  have hc : w.cell? ⟨pr, 0, none⟩ = some (.pointer (some ⟨p, 0, none⟩)) := hp.read rfl
  have hv : val (seg bs i n) < 9223372036854775808 := val_small (by rw [length_seg h]; omega)
  generalize val (seg bs i n) = v at *
  have hw : IntKind.i64.wrap (v : Int) = (v : Int) := by rw [IntKind.wrap_i64]; omega
  clear hr hp
  go_enter Try.func230, Try.ntmps230
  go_wp2_with (go_at_call 231; refine HG.out.mono ?_; rintro e w1 ⟨rfl, h1, h2⟩)
  go_ret
  exact ⟨ret_int (by first | rfl | exact hw), h1, h2⟩
/-- what a packet's bytes tell: why they are none, FI, the number, the fields -/
def umdRd (bs : List Nat) (wd : Nat) : Int × Nat × Nat × List (List Nat) :=
  if wd = 5 ∨ wd = 10 then
    if 4000 < bs.length then (2, 0, 0, [])
    else if bs.length < wd / 5 then (8, 0, 0, [])
    else if val (seg (bs.take (wd / 5)) 0 (if wd = 10 then 3 else 0)) ≠ 0 then (3, 0, 0, [])
    else if (fldR (bs.drop (wd / 5)) (bitAt (bs.take (wd / 5)) ((if wd = 10 then 3 else 0) + 2)) 11).1 = 0 then
      (0, val (seg (bs.take (wd / 5)) (if wd = 10 then 3 else 0) 2), val (seg (bs.take (wd / 5)) ((if wd = 10 then 3 else 0) + 2 + 1) wd), (fldR (bs.drop (wd / 5)) (bitAt (bs.take (wd / 5)) ((if wd = 10 then 3 else 0) + 2)) 11).2)
    else ((fldR (bs.drop (wd / 5)) (bitAt (bs.take (wd / 5)) ((if wd = 10 then 3 else 0) + 2)) 11).1, 0, 0, [])
  else (9, 0, 0, [])
def UrdAns (B : Nat) (w : World) (r : Int × Nat × Nat × List (List Nat)) (e : Ending) (w' : World) : Prop :=
  ((r.1 = 0 ∧ ∃ v L, r.2.2.2 = texts L ∧ e = .returned (.tuple #[.agg #[.int .i64 r.2.1, .int .i64 r.2.2.1, v], .int .i64 0]) ∧ OwnR B w' v L) ∨ (r.1 ≠ 0 ∧ e = .returned (.tuple #[.agg #[.int .i64 0, .int .i64 0, .slice none 0 0], .int .i64 r.1]))) ∧ Below B w w'
theorem urd_bad {B : Nat} {w w' : World} {er : Int} {r : Int × Nat × Nat × List (List Nat)} (h : r.1 = er) (h0 : er ≠ 0) (hb : Below B w w') : UrdAns B w r (.returned (.tuple #[.agg #[.int .i64 0, .int .i64 0, .slice none 0 0], .int .i64 er])) w' := by
  subst h
  exact ⟨.inr ⟨h0, rfl⟩, hb⟩
theorem fread_any {A : Option Addr} {bs : List Nat} (more : Bool) (wd n cap : Nat) (wi : Int) (w : World) (hw : wd = 11 ∨ wd = 15) (e : wi = wd) (hn : bs.length = n) (hm : n ≤ 8192) (hc : n ≤ cap) (hcm : cap ≤ 9223372036854775807) (hs : Src w A (bts bs)) (hb : ∀ b ∈ bs, b < 256) :
    Calls Try.prog 232 #[.slice A n cap, .bool more, .int .i64 wi] w (FldAns w.heap.size w (fldR bs more wd)) := by
  cases more
  · exact fread_no wd n cap wi w hn hm hc hcm hs hb
  · exact fread_yes wd n cap wi w hw e hn hm hc hcm hs hb
theorem OwnR.down {B B' : Nat} {w : World} {v : Value} {L : List RowB} (h : OwnR B w v L) (hb : B' ≤ B) : OwnR B' w v L := ⟨own_down h.own hb, fun r hr => (h.mine r hr).down hb⟩
/-- a reader while a head is read -/
structure RdSt (B : Nat) (w0 : World) (pr p g : Nat) (hd : List Nat) (i : Nat) (w : World) : Prop where
  rd : RRep w p g hd i
  cell : Row w pr 299 #[.pointer (some ⟨p, 0, none⟩)]
  below : Below B w0 w
  above : B ≤ p
  size : B ≤ w.heap.size
theorem RdSt.get {B pr p g i : Nat} {w0 w : World} {hd : List Nat} (h : RdSt B w0 pr p g hd i w) (n : Nat) (ni : Int) (e : ni = n) (hn : n ≤ 40) (h2 : i + n ≤ 8 * hd.length) :
    Calls Try.prog 230 #[.int .i64 ni, .pointer (some ⟨pr, 0, none⟩)] w fun e w' => e = .returned (.int .i64 (val (seg hd i n))) ∧ RdSt B w0 pr p g hd (i + n) w' := by
  refine (get54 n ni w e h.cell h.rd hn h2).mono ?_
  rintro e w' ⟨rfl, h3, h4⟩
  exact ⟨rfl, h3, h.cell.only h4 (h.cell.apart h.rd.1 (by decide)), h.below.trans (get_below h4 h.above h.size), h.above, Nat.le_trans h.size h4.size⟩
theorem one_bit {bs : List Nat} {i : Nat} (h : i < 8 * bs.length) : ((val (seg bs i 1) : Nat) : Int) = ((bitAt bs i).toNat : Int) := by rw [val_one h]
theorem bit_eq (b : Bool) : (((b.toNat : Nat) : Int) == 1) = b := by cases b <;> rfl

theorem Try.info198s : (Try.prog.info? 198).map (·.size) = some 3 := by kernel_rfl
theorem Try.under198s : (Try.prog.underlying 198).map (fun d => match d with | .struct _ => true | _ => false) = some true := by kernel_rfl
theorem under198_parts : ∃ fs, Try.prog.underlying 198 = some (.struct fs) := by
  obtain ⟨d, hd, h⟩ := Option.map_eq_some_iff.1 Try.under198s
  cases d with
  | struct fs => exact ⟨fs, hd⟩
  | _ => simp at h
theorem results_two {fn : Func} {p u : Tmp} {ty : TypeId} (h : fn.results = #[.cell p ty, .tmp u]) (tmps : Array Value) (w : World) (g : Nat) (t : TypeId) (cs : Array Value) (fs : Array Field)
    (hp : tmps.getD p undef = .pointer (some ⟨g, 0, none⟩)) (hg : Row w g t cs)
    (hu : Try.prog.underlying ty = some (.struct fs)) (hi : (Try.prog.info? ty).map (·.size) = some cs.size) :
    (results fn tmps).run Try.prog w = .ok (.tuple #[.agg cs, tmps.getD u undef]) w := by
  rw [results_cell_tmp h, hp]
  simp only [asAddr, Sem.run_pure, Result.andThen_ok, run_loadVar_row w g t ty cs (0, 0) (.struct fs) hg hu rfl hi]

set_option maxRecDepth 100000 in
set_option maxHeartbeats 1600000 in
theorem uread_kind {A : Option Addr} {bs : List Nat} (n cap : Nat) (wd : Int) (w : World) (h5 : wd ≠ 5) (h10 : wd ≠ 10) :
    Calls Try.prog 191 #[.slice A n cap, .int .i64 wd] w fun e w' => e = .returned (.tuple #[.agg #[.int .i64 0, .int .i64 0, .slice none 0 0], .int .i64 9]) ∧ Below w.heap.size w w' := by
  have hh : headN wd = (0, 0) := by unfold headN; rw [if_neg h5, if_neg h10]
  have HSH := Lib.hid (fun W => shape_any wd W)
  rw [hh] at HSH
  clear hh h5 h10
  go_enter Try.func191, Try.ntmps191
  go_wp2_with (go_at_call 195; refine (HSH.out _).mono ?_; rintro e w1 ⟨rfl, rfl⟩)
  exact bodyPost_ret (v := .tuple #[.agg #[.int .i64 0, .int .i64 0, .slice none 0 0], .int .i64 9]) (by simp [results, Try.results191, go_sem]) rfl ⟨rfl, by first | exact bl_alloc (Below.refl _ _) _ | exact (bl_alloc (Below.refl _ _) _).setCell (by simp) _⟩
end Go.Proofs.Ytbcjfdhphpckfaa
namespace Go.Proofs.Ytbcjfdhphpckfaa
open Go.RowKit

/-- k texts go whole, and of the next one n bytes, if n is positive -/
structure Bld (room x : Int) (ls : List Nat) (k : Nat) (n : Int) : Prop where
  le : k ≤ ls.length
  whole : ∀ i l, i < k → ls[i]? = some l → nextF l (ls.take i) room x = l
  next : n = nextF (ls.getD k 0) (ls.take k) room x
  stop : n ≤ 0 ∨ (k < ls.length ∧ n < (ls.getD k 0 : Nat))
def lenT (ts : List Txt) : List Nat := ts.map fun t => t.bs.length
theorem length_lenT (ts : List Txt) : (lenT ts).length = ts.length := by simp [lenT]
theorem lenT_at {ts : List Txt} {k : Nat} {t : Txt} (h : ts[k]? = some t) : (lenT ts)[k]? = some t.bs.length := by simp [lenT, h]
theorem lenT_take (ts : List Txt) (k : Nat) : (lenT ts).take k = lenT (ts.take k) := by simp [lenT, List.map_take]
def headBg (ts : List Txt) : Bool := match ts with
  | [] => false
  | t :: _ => t.bg
def fiT (ts : List Txt) (n : Int) : Int := (if headBg ts then 2 else 0) + (if n ≤ 0 then 0 else 1)
theorem fiT_pos {ts : List Txt} {b : Bool} {n : Int} (h : headBg ts = b) (hn : 0 < n) : fiT ts n = (if b then 2 else 0) + 1 := by
  unfold fiT
  rw [h, if_neg (show ¬ n ≤ 0 by omega)]
theorem fiT_zero {ts : List Txt} {b : Bool} {n : Int} (h : headBg ts = b) (hn : n ≤ 0) : fiT ts n = (if b then 2 else 0) := by
  unfold fiT
  rw [h, if_pos hn]
  omega
def fieldsT (bss : List (List Nat)) (k : Nat) (n : Int) : List (List Nat) := bss.take k ++ (if n ≤ 0 then [] else [(bss.getD k []).take n.toNat])
/-- what waits behind it -/
def RestT (ts : List Txt) (k : Nat) (n : Int) (ts' : List Txt) : Prop :=
  (n ≤ 0 ∧ ts' = ts.drop k) ∨ (0 < n ∧ ∃ t t' : Txt, ts[k]? = some t ∧ t'.id = t.id ∧ t'.bs = t.bs.drop n.toNat ∧ (t'.bg = true ∧ t'.g = t.g) ∧ ts' = t' :: ts.drop (k + 1))
/-- what Build does that is not refused -/
def CutDone (B p last : Nat) (R : Int) (ts : List Txt) (room x : Int) (w : World) (e : Ending) (w' : World) : Prop :=
  ∃ k n ts', Bld room x (lenT ts) k n ∧ RestT ts k n ts' ∧ QRep B w' p R last ts' ∧ QOnly B w w' ∧
    ((k = 0 ∧ n ≤ 0 ∧ e = .returned (.tuple #[.agg #[.int .i64 0, .slice none 0 0, .slice none 0 0], .int .i64 4])) ∨
     ((0 < k ∨ 0 < n) ∧ ∃ A D L, e = .returned (.tuple #[.agg #[.int .i64 (fiT ts n), .slice A L.length L.length, .slice D k k], .int .i64 0]) ∧ texts L = fieldsT (ts.map Txt.bs) k n ∧
        (∃ c, NewRows w.heap.size w' (.slice A L.length c) L) ∧ ∃ c, NewIds w.heap.size w' (.slice D k c) ((ts.take k).map Txt.id)))
/-- a piece while it is built -/
structure CutI (B p last : Nat) (R : Int) (w0 : World) (p9 : Nat) (fi : Int) (F D : Value) (L : List RowB) (ids : List Nat) (rs : List Txt) (w : World) : Prop where
  q : QRep B w p R last rs
  only : QOnly B w0 w
  rows : NewRows w0.heap.size w F L
  ids : NewIds w0.heap.size w D ids
  res : Row w w0.heap.size 58 #[.int .i64 0, .slice none 0 0, .slice none 0 0]
  prow : Row w p9 58 #[.int .i64 fi, F, D]
  above : w0.heap.size < p9
section
variable {B p last p9 : Nat} {R : Int} {w0 w v : World} {fi : Int} {F D : Value} {L : List RowB} {ids : List Nat} {rs : List Txt}
theorem CutI.later (h : CutI B p last R w0 p9 fi F D L ids rs w) (hb : Below w.heap.size w v) : CutI B p last R w0 p9 fi F D L ids rs v :=
  ⟨h.q.later hb, h.only.trans (QOnly.of_below hb), h.rows.later hb, h.ids.later hb, h.res.later hb, h.prow.later hb, h.above⟩
/-- a step of the queue -/
theorem CutI.step {rs' : List Txt} (h : CutI B p last R w0 p9 fi F D L ids rs w) (ho : QOnly B w v) (hq : QRep B v p R last rs') : CutI B p last R w0 p9 fi F D L ids rs' v :=
  ⟨hq, h.only.trans ho, h.rows.q ho, h.ids.q ho, ho.row h.res (by decide) (by decide), ho.row h.prow (by decide) (by decide), h.above⟩
theorem QOnly.fresh {B g : Nat} {w0 w v : World} (h : QOnly B w0 w) (hg : w0.heap.size ≤ g) (ho : Only (fun k => k = g) w v) : QOnly B w0 v :=
  Only.andThen h ho (fun k hk e => by omega)
theorem CutI.store (h : CutI B p last R w0 p9 fi F D L ids rs w) (i : Nat) (u : Value) : QRep B (w.setCell ⟨p9, i, none⟩ u) p R last rs ∧ QOnly B w0 (w.setCell ⟨p9, i, none⟩ u) ∧ NewRows w0.heap.size (w.setCell ⟨p9, i, none⟩ u) F L ∧ NewIds w0.heap.size (w.setCell ⟨p9, i, none⟩ u) D ids ∧ Row (w.setCell ⟨p9, i, none⟩ u) w0.heap.size 58 #[.int .i64 0, .slice none 0 0, .slice none 0 0] := by
  have ho : Only (fun k => k = p9) w (w.setCell ⟨p9, i, none⟩ u) := (Only.refl (fun k => k = p9) w).set (p := ⟨p9, i, none⟩) (.inl rfl) _
  refine ⟨h.q.apart ho (fun k hk t cs hr => ?_), h.only.fresh (by have := h.above; omega) ho, h.rows.at h.prow (by decide) (by decide) ho, h.ids.at h.prow (by decide) ho, h.res.only ho (by have := h.above; omega)⟩
  subst hk
  have e := qrow_same h.prow hr
  subst e
  exact ⟨by decide, by decide, by decide⟩
theorem CutI.setfi (h : CutI B p last R w0 p9 fi F D L ids rs w) (z : Int) : CutI B p last R w0 p9 z F D L ids rs (w.setCell ⟨p9, 0, none⟩ (.int .i64 z)) := by
  obtain ⟨h1, h2, h3, h4, h5⟩ := h.store 0 (.int .i64 z)
  exact ⟨h1, h2, h3, h4, h5, h.prow.written 0 _, h.above⟩
/-- a list of fields grows -/
theorem CutI.grow {e : TypeId} {x : Value} {n : Nat} {xs : List Value} (h : CutI B p last R w0 p9 fi F D L ids rs w) (hx : w.ownsRow w0.heap.size e 1 x n xs) (he : e ≠ 58) (he2 : e ≠ 51) (he3 : e ≠ 177) (he4 : e ≠ 5) (ho : Only (fun k => x.ownBlock = some k) w v) :
    QRep B v p R last rs ∧ QOnly B w0 v ∧ Row v w0.heap.size 58 #[.int .i64 0, .slice none 0 0, .slice none 0 0] ∧ Row v p9 58 #[.int .i64 fi, F, D] := by
  refine ⟨h.q.apart ho (fun k hk t cs hr => ?_), Only.andThen h.only ho (fun k hk hk2 => ?_), h.res.only ho (own_apart hx h.res he), h.prow.only ho (own_apart hx h.prow he)⟩
  · have key : ∀ t : TypeId, e ≠ t → ∀ cs, ¬ Row w k t cs := fun t hne cs hr => own_apart hx hr hne hk
    refine ⟨fun e => ?_, fun e => ?_, fun e => ?_⟩ <;> (subst e; exact key _ (by assumption) _ hr)
  · have := (own_block hx k hk2).1
    omega
theorem CutI.addRow (h : CutI B p last R w0 p9 fi F D L ids rs w) (r : RowB) (hL : L.length ≤ 1000) (hr : RowNew w0.heap.size w r) :
    ∃ A' c' w2, (Builtin.append_ #[29, 29] 29 #[F, .slice (some ⟨w.heap.size, 0, none⟩) 1 1]).run Try.prog (w.alloc (.cells #[r.v] 34)) = .ok (.slice A' (L.length + 1) c') w2 ∧
      Row w2 p9 58 #[.int .i64 fi, F, D] ∧ CutI B p last R w0 p9 fi (.slice A' (L.length + 1) c') D (L ++ [r]) ids rs (w2.setCell ⟨p9, 1, none⟩ (.slice A' (L.length + 1) c')) := by
  obtain ⟨A', c', w2, h1, h2, h3⟩ := h.rows.next r h.only.size hL hr
  obtain ⟨k1, k2, k3, k4⟩ := h.grow h.rows.1 (by decide) (by decide) (by decide) (by decide) h3
  have k5 : NewIds w0.heap.size w2 D ids := h.ids.only h3 (fun g cs hr _ hg => own_apart h.rows.1 hr (by decide) hg)
  have hI : CutI B p last R w0 p9 fi F D L ids rs w2 → True := fun _ => trivial
  have ho : Only (fun k => k = p9) w2 (w2.setCell ⟨p9, 1, none⟩ (.slice A' (L.length + 1) c')) := (Only.refl (fun k => k = p9) w2).set (p := ⟨p9, 1, none⟩) (.inl rfl) _
  refine ⟨A', c', w2, h1, k4, ?_, k2.fresh (by have := h.above; omega) ho, h2.at k4 (by decide) (by decide) ho, k5.at k4 (by decide) ho, k3.only ho (by have := h.above; omega), k4.written 1 _, h.above⟩
  refine k1.apart ho (fun k hk t cs hr => ?_)
  subst hk
  have e := qrow_same k4 hr
  subst e
  exact ⟨by decide, by decide, by decide⟩
theorem CutI.addId (h : CutI B p last R w0 p9 fi F D L ids rs w) (i : Nat) (hL : ids.length ≤ 1000) :
    ∃ A' c' w2, (Builtin.append_ #[44, 44] 44 #[D, .slice (some ⟨w.heap.size, 0, none⟩) 1 1]).run Try.prog (w.alloc (.cells #[.int .u64 i] 37)) = .ok (.slice A' (ids.length + 1) c') w2 ∧
      Row w2 p9 58 #[.int .i64 fi, F, D] ∧ CutI B p last R w0 p9 fi F (.slice A' (ids.length + 1) c') L (ids ++ [i]) rs (w2.setCell ⟨p9, 2, none⟩ (.slice A' (ids.length + 1) c')) := by
  obtain ⟨A', c', w2, h1, h2, h3⟩ := h.ids.next i h.only.size hL
  obtain ⟨k1, k2, k3, k4⟩ := h.grow h.ids (by decide) (by decide) (by decide) (by decide) h3
  have k5 : NewRows w0.heap.size w2 F L := h.rows.only h3 (fun g t cs hr ht _ hg => by
    rcases ht with rfl | rfl
    · exact own_apart h.ids hr (by decide) hg
    · exact own_apart h.ids hr (by decide) hg)
  have ho : Only (fun k => k = p9) w2 (w2.setCell ⟨p9, 2, none⟩ (.slice A' (ids.length + 1) c')) := (Only.refl (fun k => k = p9) w2).set (p := ⟨p9, 2, none⟩) (.inl rfl) _
  refine ⟨A', c', w2, h1, k4, ?_, k2.fresh (by have := h.above; omega) ho, k5.at k4 (by decide) (by decide) ho, h2.at k4 (by decide) ho, k3.only ho (by have := h.above; omega), k4.written 2 _, h.above⟩
  refine k1.apart ho (fun k hk t cs hr => ?_)
  subst hk
  have e := qrow_same k4 hr
  subst e
  exact ⟨by decide, by decide, by decide⟩
end

/-- the first text whole -/
def TakeAll (B p last : Nat) (R : Int) (t : Txt) (r : List Txt) (w : World) (e : Ending) (w' : World) : Prop :=
  ∃ g, e = .returned (.tuple #[.slice (some ⟨g, 0, none⟩) t.bs.length t.bs.length, .bool true, .int .i64 0]) ∧ w.heap.size ≤ g ∧ QBytes w' g t.bs ∧ QOnly B w w' ∧ QRep B w' p R last r
theorem take_whole {B p last : Nat} {R : Int} {t : Txt} {r : List Txt} {w : World} (h : QRep B w p R last (t :: r)) (hr : 0 < R) (h0 : 0 < t.bs.length) (hlen : t.bs.length ≤ 100000) (hrl : r.length ≤ 900) :
    Calls Try.prog 17 #[.pointer (some ⟨p, 0, none⟩), .int .i64 t.bs.length] w (TakeAll B p last R t r w) := by
  refine (take_ok t.bs.length h hr h0 (Nat.le_refl _) hlen hrl).mono ?_
  rintro e w' ⟨g, rfl, h1, h2, h3, t', _, _, _, h4⟩
  rw [if_pos rfl] at h4
  rw [List.take_length] at h2
  exact ⟨g, by simp, h1, h2, h3, h4⟩
/-- some of the first text -/
def TakeSome (B p last : Nat) (R : Int) (t : Txt) (r : List Txt) (n : Nat) (w : World) (e : Ending) (w' : World) : Prop :=
  ∃ g, e = .returned (.tuple #[.slice (some ⟨g, 0, none⟩) n n, .bool false, .int .i64 0]) ∧ w.heap.size ≤ g ∧ QBytes w' g (t.bs.take n) ∧ QOnly B w w' ∧ ∃ t' : Txt, t'.id = t.id ∧ t'.bs = t.bs.drop n ∧ (t'.bg = true ∧ t'.g = t.g) ∧ QRep B w' p R last (t' :: r)
theorem take_some {B p last : Nat} {R : Int} {t : Txt} {r : List Txt} {w : World} (n : Nat) (h : QRep B w p R last (t :: r)) (hr : 0 < R) (h0 : 1 ≤ n) (h1 : n < t.bs.length) (hlen : t.bs.length ≤ 100000) (hrl : r.length ≤ 900) :
    Calls Try.prog 17 #[.pointer (some ⟨p, 0, none⟩), .int .i64 n] w (TakeSome B p last R t r n w) := by
  refine (take_okg n h hr h0 (by omega) hlen hrl).mono ?_
  rintro e w' ⟨g, rfl, h1, h2, h3, t', k1, k2, k3, h4⟩
  rw [if_neg (by omega)] at h4
  have e : (n == t.bs.length) = false := by simp; omega
  exact ⟨g, by rw [e], h1, h2, h3, t', k1, k2, k3, h4⟩
section
variable {B p last p9 k a b c dc : Nat} {R room x n : Int} {w0 w : World} {fi : Int} {A DA : Option Addr} {L : List RowB} {ids : List Nat} {rs ts : List Txt}
/-- what holds whatever becomes of the result's own memory -/
structure CutEnd (B p last : Nat) (R : Int) (w0 : World) (F D : Value) (L : List RowB) (ids : List Nat) (rs : List Txt) (v : World) : Prop where
  q : QRep B v p R last rs
  only : QOnly B w0 v
  rows : NewRows w0.heap.size v F L
  ids : NewIds w0.heap.size v D ids
theorem CutI.close (h : CutI B p last R w0 p9 fi (.slice A a c) (.slice DA b dc) L ids rs w) :
    Row ((w.setCell ⟨p9, 1, none⟩ (.slice A a a)).setCell ⟨p9, 2, none⟩ (.slice DA b b)).drew p9 58 #[.int .i64 fi, .slice A a a, .slice DA b b] ∧
      Row ((w.setCell ⟨p9, 1, none⟩ (.slice A a a)).setCell ⟨p9, 2, none⟩ (.slice DA b b)).drew w0.heap.size 58 #[.int .i64 0, .slice none 0 0, .slice none 0 0] ∧
      ∀ v, Only (fun k => k = w0.heap.size) ((w.setCell ⟨p9, 1, none⟩ (.slice A a a)).setCell ⟨p9, 2, none⟩ (.slice DA b b)).drew v → CutEnd B p last R w0 (.slice A a c) (.slice DA b dc) L ids rs v := by
  have hne : w0.heap.size ≠ p9 := by have := h.above; omega
  refine ⟨(h.prow.written 1 _).written 2 _, (h.res.elsewhere (p := ⟨p9, 1, none⟩) hne _).elsewhere (p := ⟨p9, 2, none⟩) hne _, fun v hv => ?_⟩
  have ho1 : Only (fun k => k = p9) w (w.setCell ⟨p9, 1, none⟩ (.slice A a a)) := (Only.refl (fun k => k = p9) w).set (p := ⟨p9, 1, none⟩) (.inl rfl) _
  have ho2 : Only (fun k => k = p9) w ((w.setCell ⟨p9, 1, none⟩ (.slice A a a)).setCell ⟨p9, 2, none⟩ (.slice DA b b)).drew := (ho1.set (p := ⟨p9, 2, none⟩) (.inl rfl) _).drew
  have ho : Only (fun k => k = p9 ∨ k = w0.heap.size) w v := (ho2.weaker (T := fun k => k = p9 ∨ k = w0.heap.size) (fun k _ hk => .inl hk)).andThen hv (fun k _ hk => .inr hk)
  have key : ∀ k t cs, (k = p9 ∨ k = w0.heap.size) → Row w k t cs → t = 58 := by
    rintro k t cs (rfl | rfl) hr
    · exact (qrow_same h.prow hr).symm
    · exact (qrow_same h.res hr).symm
  refine ⟨h.q.apart ho (fun k hk t cs hr => ?_), Only.andThen h.only ho (fun k hk hk2 => by have := h.above; omega), h.rows.only ho (fun g t cs hr ht _ hg => ?_), h.ids.only ho (fun g cs hr _ hg => ?_)⟩
  · have e := key k t cs hk hr
    subst e
    exact ⟨by decide, by decide, by decide⟩
  · have e := key g t cs hg hr
    subst e
    rcases ht with ht | ht <;> revert ht <;> decide
  · have e := key g _ cs hg hr
    revert e
    decide
theorem cutdone_ok (hB : Bld room x (lenT ts) k n) (hR : RestT ts k n rs) (hkn : 0 < k ∨ 0 < n) (hfi : fi = fiT ts n) (hL : L.length = a) (htx : texts L = fieldsT (ts.map Txt.bs) k n) (hE : CutEnd B p last R w0 (.slice A a c) (.slice DA k dc) L ((ts.take k).map Txt.id) rs w) :
    CutDone B p last R ts room x w0 (.returned (.tuple #[.agg #[.int .i64 fi, .slice A a a, .slice DA k k], .int .i64 0])) w := by
  subst hL hfi
  exact ⟨k, n, rs, hB, hR, hE.q, hE.only, .inr ⟨hkn, A, DA, L, rfl, htx, ⟨c, hE.rows⟩, dc, hE.ids⟩⟩
end
theorem cutdone_none {B p last p9 : Nat} {R room x n fi : Int} {w0 w : World} {F D : Value} {L : List RowB} {ids : List Nat} {ts : List Txt} (hB : Bld room x (lenT ts) 0 n) (hn : n ≤ 0) (h : CutI B p last R w0 p9 fi F D L ids (ts.drop 0) w) (u0 u1 u2 : Value) :
    CutDone B p last R ts room x w0 (.returned (.tuple #[.agg #[.int .i64 0, .slice none 0 0, .slice none 0 0], .int .i64 4])) (((w.setCell ⟨w0.heap.size, 0, none⟩ u0).setCell ⟨w0.heap.size, 1, none⟩ u1).setCell ⟨w0.heap.size, 2, none⟩ u2) := by
  have ho : Only (fun k => k = w0.heap.size) w (((w.setCell ⟨w0.heap.size, 0, none⟩ u0).setCell ⟨w0.heap.size, 1, none⟩ u1).setCell ⟨w0.heap.size, 2, none⟩ u2) := (((Only.refl (fun k => k = w0.heap.size) w).set (p := ⟨w0.heap.size, 0, none⟩) (.inl rfl) _).set (p := ⟨w0.heap.size, 1, none⟩) (.inl rfl) _).set (p := ⟨w0.heap.size, 2, none⟩) (.inl rfl) _
  refine ⟨0, n, ts.drop 0, hB, .inl ⟨hn, rfl⟩, h.q.apart ho (fun k hk t cs hr => ?_), h.only.fresh (Nat.le_refl _) ho, .inl ⟨rfl, hn, rfl⟩⟩
  subst hk
  have e := qrow_same h.res hr
  subst e
  exact ⟨by decide, by decide, by decide⟩
end Go.Proofs.Ytbcjfdhphpckfaa
