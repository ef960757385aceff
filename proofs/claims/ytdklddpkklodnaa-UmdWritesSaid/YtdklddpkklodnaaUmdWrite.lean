/-
  A packet's bytes.
-/
import Derived.Test.YtdklddpkklodnaaUmdSize
import Derived.Deep.RegionHeld3
namespace Go.Proofs.Ytdklddpkklodnaa
open Go.RowKit


theorem okn_true {b n : Int} (h : okn b n = true) : 0 ≤ n ∧ n < sz b := of_decide_eq_true h
theorem fwrite_at {A A0 : Option Addr} {L : List RowB} {lh : List Nat} (n cap n0 c0 wd : Nat) (wi : Int) (w : World) (e : wi = wd) (h : wd = 11 ∨ wd = 15) (hL : L.length = n) (hcap : n ≤ cap) (hcm : cap ≤ 9223372036854775807) (h1 : 1 ≤ n) (h24 : n ≤ 24) (hok : okTo (lens L) (lens L).length = true) (hs : RSrc w A L) (hh : Src w A0 (bts lh)) (hn0 : lh.length = n0) (hn1 : n0 ≤ 10) :
    Calls Try.prog 44 #[.slice A0 n0 c0, .slice A n cap, .int .i64 wi] w fun e w' => ∃ v', e = .returned v' ∧ OwnY w.heap.size w' v' (lh ++ tailF (lens L) wd ++ flat L) ∧ Below w.heap.size w w' := by
  subst e
  exact fwrite_any n cap n0 c0 wd w h hL hcap hcm h1 h24 hok hs hh hn0 hn1
theorem Row.under {w v : World} {B g : Nat} {t : TypeId} {cs : Array Value} (h : Row w g t cs) (hb : Below B w v) (hg : g < B) : Row v g t cs := (hb.block g hg).trans h
theorem put_step {B p : Nat} {bl : List Bool} {w : World} (v n : Nat) (vi ni : Int) (h : ∃ sv, WRep B w p sv bl) (e1 : vi = v) (e2 : ni = n) (hn : n ≤ 64) (hv : v < 2 ^ n) (hv2 : v < 18446744073709551616) (hl : bl.length + n ≤ 65536) :
    Calls Try.prog 42 #[.pointer (some ⟨p, 0, none⟩), .int .u64 vi, .int .i64 ni] w fun e w' => e = .returned (.int .i64 0) ∧ (∃ sv, WRep B w' p sv (bl ++ unval v n)) ∧ Below B w w' := by
  subst e1 e2
  obtain ⟨sv, h⟩ := h
  refine (put_any v n w h hn hv hl hv2).mono ?_
  rintro e w' ⟨rfl, sv', h1, _, h3⟩
  exact ⟨rfl, ⟨sv', h1⟩, wrote_below h h3⟩
set_option maxHeartbeats 400000 in
theorem ufollows_any (b : Bool) (w : World) : Calls Try.prog 43 #[.bool b] w fun e w' => e = .returned (.int .u64 b.toNat) ∧ w = w' := by
  cases b
  · go_enter Try.func43, Try.ntmps43
    go_wp2
    go_ret
    exact ⟨rfl, rfl⟩
  · go_enter Try.func43, Try.ntmps43
    go_wp2
    go_ret
    exact ⟨rfl, rfl⟩
/-- a head's bits -/
def headB (fi sn : Nat) (more : Bool) (wd : Nat) : List Bool := ((unval 0 (if wd = 10 then 3 else 0) ++ unval fi 2) ++ unval more.toNat 1) ++ unval sn wd
def umdBytes (fi sn : Nat) (L : List RowB) (wd : Nat) : List Nat := pack (headB fi sn (decide (1 < L.length)) wd) ++ tailF (lens L) 11 ++ flat L
theorem length_headB (fi sn : Nat) (more : Bool) (wd : Nat) : (headB fi sn more wd).length = (if wd = 10 then 3 else 0) + 3 + wd := by
  unfold headB
  rw [List.length_append, List.length_append, List.length_append, length_unval, length_unval, length_unval, length_unval]

set_option maxRecDepth 100000 in
set_option maxHeartbeats 800000 in
theorem uwrite_bad {A : Option Addr} {L : List RowB} (fi sn wd : Int) (n cap : Nat) (w : World) (hL : L.length = n) (hn : n ≤ 9223372036854775807) (hs : RSrc w A L) (hm : ∀ m ∈ lens L, m ≤ 9223372036854775807) (h : umdF fi sn (lens L) wd = 0) :
    Calls Try.prog 15 #[.agg #[.int .i64 fi, .int .i64 sn, .slice A n cap], .int .i64 wd] w fun e w' => e = .returned (.tuple #[.slice none 0 0, .int .i64 (if wd = 5 ∨ wd = 10 then 3 else 9)]) ∧ Below w.heap.size w w' := by
  have HSH := Lib.hid (fun W => shape_any wd W)
  have HR := Lib.hid (fun W (hb : Below w.heap.size w W) => (show Calls Try.prog 17 #[.agg #[.int .i64 fi, .int .i64 sn, .slice A n cap], .int .i64 wd] W fun e w' => e = .returned (.bool false) ∧ Below W.heap.size W w' from by
    have h1 := uright_any (A := A) fi sn wd n cap W hL hn (hs.later hb) hm
    rw [h] at h1
    exact h1))
  clear hs hm hL h
  by_cases hw : wd = 5 ∨ wd = 10
  · have hd : 1 ≤ (headN wd).1 := by rcases hw with rfl | rfl <;> decide
    have h0 : ((headN wd).1 == 0) = false := by simp; omega
    generalize (headN wd).1 = hd at *
    generalize (headN wd).2 = nz at *
    rw [if_pos hw]
    clear hw
    go_enter Try.func15, Try.ntmps15
    go_wp2_with (first
      | (go_at_call 40; refine (HSH.out _).mono ?_; rintro e w1 ⟨rfl, rfl⟩)
      | (go_at_call 17; refine (HR.out _ (bl_alloc (Below.refl _ _) _)).mono ?_; rintro e w2 ⟨rfl, hb2⟩))
    go_ret2
    exact ⟨rfl, (bl_alloc (Below.refl w.heap.size w) _).trans (hb2.mono (by simp))⟩
  · have hh : headN wd = (0, 0) := by unfold headN; rw [if_neg (fun h => hw (.inl h)), if_neg (fun h => hw (.inr h))]
    rw [hh] at HSH
    rw [if_neg hw]
    clear hw hh
    go_enter Try.func15, Try.ntmps15
    go_wp2_with (go_at_call 40; refine (HSH.out _).mono ?_; rintro e w1 ⟨rfl, rfl⟩)
    go_ret2
    exact ⟨rfl, bl_alloc (Below.refl w.heap.size w) _⟩

set_option maxRecDepth 100000 in
set_option maxHeartbeats 3200000 in
theorem uwrite_ok {A : Option Addr} {L : List RowB} (fi sn wd n cap : Nat) (w : World) (hL : L.length = n) (hcap : n ≤ cap) (hcm : cap ≤ 9223372036854775807) (hs : RSrc w A L) (hm : ∀ m ∈ lens L, m ≤ 9223372036854775807) (h : umdF fi sn (lens L) wd ≠ 0) :
    Calls Try.prog 15 #[.agg #[.int .i64 fi, .int .i64 sn, .slice A n cap], .int .i64 wd] w fun e w' => ∃ v', e = .returned (.tuple #[v', .int .i64 0]) ∧ OwnY w.heap.size w' v' (umdBytes fi sn L wd) ∧ Below w.heap.size w w' := by
  obtain ⟨hw, _, hfi, hsn, hl1, hl2, hok, _⟩ := umdF_pos h
  rw [length_lens, hL] at hl1 hl2
  have hsz : (sn : Int) < 2 ^ wd := by
    have h1 := (okn_true hsn).2
    unfold sz at h1
    rcases hw with h9 | h9
    · obtain rfl : wd = 5 := by omega
      exact h1
    · obtain rfl : wd = 10 := by omega
      exact h1
  have hsn2 : sn < 2 ^ wd := by
    have e : ((2 ^ wd : Nat) : Int) = (2 : Int) ^ wd := by rw [Int.natCast_pow]; rfl
    omega
  have hwd : wd = 5 ∨ wd = 10 := by omega
  have hsn3 : sn < 1024 := by rcases hwd with rfl | rfl <;> omega
  have HSH := Lib.hid (fun W => shape_any wd W)
  have hnz : (headN wd).2 = ((if wd = 10 then 3 else 0 : Nat) : Int) := by rcases hwd with rfl | rfl <;> rfl
  have hhd : 1 ≤ (headN wd).1 := by rcases hwd with rfl | rfl <;> decide
  have h0 : ((headN wd).1 == 0) = false := by simp; omega
  have HR := Lib.hid (fun W (hb : Below w.heap.size w W) => (show Calls Try.prog 17 #[.agg #[.int .i64 fi, .int .i64 sn, .slice A n cap], .int .i64 wd] W fun e w' => e = .returned (.bool true) ∧ Below W.heap.size W w' from by
    have h1 := uright_any (A := A) fi sn wd n cap W hL (by omega) (hs.later hb) hm
    rw [decide_eq_true (show 0 < umdF fi sn (lens L) wd by have := umdF_nonneg fi sn (lens L) wd; omega)] at h1
    exact h1))
  have HNEW := Lib.hid (fun W (hB : w.heap.size + 1 ≤ W.heap.size) => new_any (w.heap.size + 1) W hB)
  generalize hnzz : (if wd = 10 then 3 else 0 : Nat) = nz at *
  have hnz3 : nz ≤ 3 := by rw [← hnzz]; split <;> omega
  have hlen := length_headB fi sn (decide (1 < L.length)) wd
  rw [hnzz] at hlen
  have hpl : packLen (headB fi sn (decide (1 < L.length)) wd).length ≤ 10 := by rw [hlen]; unfold packLen; omega
  have HHB := Lib.hid (show ((unval 0 nz ++ unval fi 2) ++ unval (decide (1 < L.length)).toNat 1) ++ unval sn wd = headB fi sn (decide (1 < L.length)) wd by unfold headB; rw [hnzz])
  have HFW := Lib.hid (fun W A0 n0 c0 (hb : Below w.heap.size w W) hh hn0 => fwrite_at (A := A) (A0 := A0) (lh := pack (headB fi sn (decide (1 < L.length)) wd)) n cap n0 c0 11 11 W rfl (.inl rfl) hL hcap hcm hl1 hl2 hok (hs.later hb) hh hn0 (by rw [← hn0, length_pack]; exact hpl))
  have HP1 := Lib.hid (fun W p (hr : ∃ sv, WRep (w.heap.size + 1) W p sv []) => put_step (bl := []) 0 nz 0 nz hr rfl rfl (by omega) (Nat.two_pow_pos _) (by omega) (by simp; omega))
  have HP2 := Lib.hid (fun W p (hr : ∃ sv, WRep (w.heap.size + 1) W p sv ([] ++ unval 0 nz)) => put_step (bl := [] ++ unval 0 nz) fi 2 fi 2 hr rfl rfl (by omega) (by omega) (by omega) (by simp [length_unval]; omega))
  have HP3 := Lib.hid (fun W p (hr : ∃ sv, WRep (w.heap.size + 1) W p sv (([] ++ unval 0 nz) ++ unval fi 2)) => put_step (bl := ([] ++ unval 0 nz) ++ unval fi 2) (decide (1 < L.length)).toNat 1 (decide (1 < L.length)).toNat 1 hr rfl rfl (by omega) (by cases decide (1 < L.length) <;> decide) (by cases decide (1 < L.length) <;> decide) (by simp [length_unval]; omega))
  have HP4 := Lib.hid (fun W p (hr : ∃ sv, WRep (w.heap.size + 1) W p sv ((([] ++ unval 0 nz) ++ unval fi 2) ++ unval (decide (1 < L.length)).toNat 1)) => put_step (bl := (([] ++ unval 0 nz) ++ unval fi 2) ++ unval (decide (1 < L.length)).toNat 1) sn wd sn wd hr rfl rfl (by omega) hsn2 (by omega) (by simp [length_unval]; omega))
  have HMORE := Lib.hid (show decide ((1 : Int) < (n : Int)) = decide (1 < L.length) by apply decide_eq_decide.2; omega)
  have HBY := Lib.hid (fun W p (hr : ∃ sv, WRep (w.heap.size + 1) W p sv (headB fi sn (decide (1 < L.length)) wd)) => by
    obtain ⟨sv, hr⟩ := hr
    exact bytes_any hr (by rw [hlen]; omega))
  have hfw : IntKind.u64.wrap (fi : Int) = (fi : Int) := by rw [IntKind.wrap_u64]; omega
  have hsw : IntKind.u64.wrap (sn : Int) = (sn : Int) := by rw [IntKind.wrap_u64]; omega
  have HU := Lib.hid (show umdBytes fi sn L wd = pack (headB fi sn (decide (1 < L.length)) wd) ++ tailF (lens L) 11 ++ flat L from rfl)
  rw [hnz] at HSH
  generalize (headN wd).1 = hd at *
  generalize decide (1 < L.length) = more at *
  generalize hHB : headB fi sn more wd = bits at *
  generalize umdBytes fi sn L wd = out at *
  clear h hw hok hs hm hL hlen hnz hnzz hwd hsn hsz hsn2 hHB
  go_enter Try.func15, Try.ntmps15
  go_wp2_with (first
    | (go_at_call 40; refine (HSH.out _).mono ?_; rintro e w1 ⟨rfl, rfl⟩)
    | (go_at_call 17; refine (HR.out _ (bl_alloc (Below.refl _ _) _)).mono ?_; rintro e w2 ⟨rfl, hb2⟩; (have HROW := Lib.hid ((Row.made w 24 #[.int .i64 fi, .int .i64 sn, .slice A n cap]).later hb2); have HB2 := Lib.hid ((bl_alloc (Below.refl w.heap.size w) _).trans (hb2.mono (by simp))); have HZ2 := Lib.hid (show w.heap.size + 1 ≤ w2.heap.size by have := hb2.size; simp at this; omega); clear hb2))
    | (go_at_call 41; refine (HNEW.out w2 HZ2.out).mono ?_; rintro e w3 ⟨rfl, hr3, hb3⟩; (have HROW3 := Lib.hid (HROW.out.later hb3); have HR3 := Lib.hid (show ∃ sv, WRep (w.heap.size + 1) w3 w2.heap.size sv [] from ⟨_, hr3⟩); have HB3 := Lib.hid (HB2.out.trans (hb3.mono HB2.out.size)); clear hr3 hb3))
    | (go_at_call 42; (with_reducible refine (HP1.out w3 _ HR3.out).mono ?_); rintro e w4 ⟨rfl, hr4, hb4⟩; (have HROW4 := Lib.hid (HROW3.out.under hb4 (by omega)); have c4 := HROW4.out.read (i := 0) rfl; have HR4 := Lib.hid hr4; have HB4 := Lib.hid (HB3.out.trans (hb4.mono (by omega))); clear hr4 hb4))
    | (go_at_call 42; (with_reducible refine (HP2.out w4 _ HR4.out).mono ?_); rintro e w5 ⟨rfl, hr5, hb5⟩; (have HROW5 := Lib.hid (HROW4.out.under hb5 (by omega)); have c5 := HROW5.out.read (i := 2) rfl; have HR5 := Lib.hid hr5; have HB5 := Lib.hid (HB4.out.trans (hb5.mono (by omega))); clear hr5 hb5))
    | (go_at_call 43; (with_reducible refine (ufollows_any _ _).mono ?_); rintro e w6 ⟨rfl, rfl⟩; rw [HMORE.out])
    | (go_at_call 42; (with_reducible refine (HP3.out w5 _ HR5.out).mono ?_); rintro e w7 ⟨rfl, hr7, hb7⟩; (have HROW7 := Lib.hid (HROW5.out.under hb7 (by omega)); have c7 := HROW7.out.read (i := 1) rfl; have HR7 := Lib.hid hr7; have HB7 := Lib.hid (HB5.out.trans (hb7.mono (by omega))); clear hr7 hb7))
    | (go_at_call 42; (with_reducible refine (HP4.out w7 _ HR7.out).mono ?_); rintro e w8 ⟨rfl, hr8, hb8⟩; (have HROW8 := Lib.hid (HROW7.out.under hb8 (by omega)); have c8 := HROW8.out.read (i := 2) rfl; have HR8 := Lib.hid hr8; have HB8 := Lib.hid (HB7.out.trans (hb8.mono (by omega))); clear hr8 hb8)))
  have d8 : w8.drew.cell? ⟨w.heap.size, 2, none⟩ = some (.slice A n cap) := c8
  have HBY8 := Lib.hid (HBY.out w8.drew _ (by rw [← HHB.out]; obtain ⟨sv, h9⟩ := HR8.out; exact ⟨sv, h9.later (bl_drew (Below.refl _ _))⟩))
  have hpk := length_pack bits
  generalize packLen bits.length = k8 at *
  have HPK := Lib.hid hpk
  clear hpk
  go_region_held3 (fun w' => w'.cell? ⟨w.heap.size, 2, none⟩ = some (.slice A n cap)) (first | assumption | go_keep) (first
    | (go_at_call 45; (with_reducible refine HBY8.out.mono ?_); rintro e v1 ⟨g1, rfl, hg1, hr1, hv1⟩; have HW1 := Lib.hid (HB8.out.trans ((bl_step (bl_drew (Below.refl w8.heap.size w8)) hv1).mono HB8.out.size)); have HR1 := Lib.hid hr1; have k1 : v1.cell? ⟨w.heap.size, 2, none⟩ = some (.slice A n cap) := kept_box hv1 d8)
    | (go_at_call 44; (with_reducible refine (HFW.out _ _ _ _ HW1.out (row_src HR1.out) HPK.out).mono ?_); rintro e v2 ⟨x2, rfl, ho2, hv2⟩; obtain ⟨A2, c2, hx2, _⟩ := ho2.form; generalize (pack bits ++ tailF (lens L) 11 ++ flat L).length = n2 at hx2; subst hx2; have k2 : v2.cell? ⟨w.heap.size, 2, none⟩ = some (.slice A n cap) := kept_box hv2 k1; (have HO2 := Lib.hid ho2; have HW2 := Lib.hid (HW1.out.trans (hv2.mono HW1.out.size)))))
  go_wp2
  go_ret2
  exact ⟨_, rfl, by rw [HU.out]; exact HO2.out.down HW1.out.size, HW2.out⟩
end Go.Proofs.Ytdklddpkklodnaa
