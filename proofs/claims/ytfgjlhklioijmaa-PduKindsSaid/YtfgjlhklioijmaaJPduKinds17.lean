/-
  Which packets of amd may be, and how many bytes they are: Size and Right. A packet's bytes. A head of amd is put bit by bit. Bytes cut into fields of a call's own: the loop.
-/
import Derived.Test.YtfgjlhklioijmaaJPduKinds16
import Derived.Deep.RegionHeld3
import Derived.Test.YtfgjlhklioijmaaJPduKinds03
import Derived.Test.YtfgjlhklioijmaaJPduKinds14
import Derived.Test.YtfgjlhklioijmaaJPduKinds12
import Derived.DataElems
namespace Go.Proofs.Ytfgjlhklioijmaa
open Go.RowKit

theorem headA_code {part : Bool} {wd : Int} (h : wd = 10 ∨ wd = 16) : 2 ≤ headA part wd ∧ headA part wd ≤ 5 := by
  unfold headA
  rcases h with rfl | rfl <;> cases part <;> decide
theorem placed_below (poll part last : Bool) (fi sn off wd : Int) (s : Value) (w : World) (hw : wd = 10 ∨ wd = 16) :
    Calls Try.prog 139 #[.agg #[.bool poll, .int .i64 fi, .int .i64 sn, .bool part, .bool last, .int .i64 off, s], .int .i64 wd] w fun e w' => e = .returned (.bool (placedA part last off wd)) ∧ Below w.heap.size w w' := by
  refine (placed_one poll part last fi sn off wd s w hw).mono ?_
  rintro e w' ⟨rfl, k, rfl⟩
  exact ⟨rfl, below_drewN (bl_alloc (Below.refl _ _) _) k⟩
theorem cells_amd {w w' : World} {g : Nat} {a b c d e f s : Value} (hr : Row w g 24 #[a, b, c, d, e, f, s]) (hb : Below w.heap.size w w') :
    w'.cell? ⟨g, 0, none⟩ = some a ∧ w'.cell? ⟨g, 1, none⟩ = some b ∧ w'.cell? ⟨g, 2, none⟩ = some c ∧ w'.cell? ⟨g, 3, none⟩ = some d ∧ w'.cell? ⟨g, 4, none⟩ = some e ∧ w'.cell? ⟨g, 5, none⟩ = some f ∧ w'.cell? ⟨g, 6, none⟩ = some s :=
  ⟨(hr.later hb).read rfl, (hr.later hb).read rfl, (hr.later hb).read rfl, (hr.later hb).read rfl, (hr.later hb).read rfl, (hr.later hb).read rfl, (hr.later hb).read rfl⟩
set_option maxRecDepth 100000 in
set_option maxHeartbeats 3200000 in
theorem asize_any {A : Option Addr} {L : List RowB} (poll part last : Bool) (fi sn off wd : Int) (n cap : Nat) (w : World) (hL : L.length = n) (hn : n ≤ 9223372036854775807) (hs : RSrc w A L) (hm : ∀ m ∈ lens L, m ≤ 9223372036854775807) :
    Calls Try.prog 25 #[.agg #[.bool poll, .int .i64 fi, .int .i64 sn, .bool part, .bool last, .int .i64 off, .slice A n cap], .int .i64 wd] w (fun e w' => e = .returned (.int .i64 (amdF part last fi sn off (lens L) wd)) ∧ Below w.heap.size w w') := by
  have HSH := Lib.hid (fun W => ahead_any part wd W)
  have HZ := Lib.hid (fun W (hb : Below w.heap.size w W) => fsize_any n cap (lwA wd) W hL hn (hs.later hb) hm)
  have hz : 0 ≤ szF (lens L) (lwA wd) ∧ szF (lens L) (lwA wd) ≤ 100000 := by
    rcases szF_pos (ls := lens L) (wd := lwA wd) with h | h <;> omega
  have HI := Lib.hid (fun W => sqis_any wd sn W)
  have HLE := Lib.hid (fun W => alen_any wd W)
  have hF : amdF part last fi sn off (lens L) wd = if (wd = 10 ∨ wd = 16) ∧ 0 ≤ fi ∧ fi ≤ 3 ∧ okn wd sn = true ∧ placedA part last off wd = true then (if szF (lens L) (lwA wd) = 0 ∨ 4000 < headA part wd + szF (lens L) (lwA wd) then 0 else headA part wd + szF (lens L) (lwA wd)) else 0 := by
    unfold amdF
    rw [fieldsF_code]
  generalize szF (lens L) (lwA wd) = z at *
  generalize amdF part last fi sn off (lens L) wd = F at *
  generalize lwA wd = lw at *
  obtain ⟨hz0, hz1⟩ := hz
  clear hs hm hL
  by_cases hw : wd = 10 ∨ wd = 16
  · obtain ⟨hd2, hd3⟩ := headA_code (part := part) hw
    have HPL := Lib.hid (fun W => placed_below poll part last fi sn off wd (.slice A n cap) W hw)
    have hF2 : F = if 0 ≤ fi ∧ fi ≤ 3 ∧ okn wd sn = true ∧ placedA part last off wd = true then (if z = 0 ∨ 4000 < headA part wd + z then 0 else headA part wd + z) else 0 := by
      rw [hF]
      by_cases h : 0 ≤ fi ∧ fi ≤ 3 ∧ okn wd sn = true ∧ placedA part last off wd = true
      · rw [if_pos ⟨hw, h⟩, if_pos h]
      · rw [if_neg (fun h2 => h h2.2), if_neg h]
    clear hF hw
    generalize headA part wd = hd at *
    generalize placedA part last off wd = pl at *
    have h0 : (hd == 0) = false := by simp; omega
    have HF2 := Lib.hid hF2
    clear hF2
    have ROW0 := Lib.hid (Row.made w 24 #[.bool poll, .int .i64 fi, .int .i64 sn, .bool part, .bool last, .int .i64 off, .slice A n cap])
    have HB0 := Lib.hid (bl_drew (bl_alloc (Below.refl w.heap.size w) (.cells #[.bool poll, .int .i64 fi, .int .i64 sn, .bool part, .bool last, .int .i64 off, .slice A n cap] 24)))
    have d0 : (w.alloc (.cells #[.bool poll, .int .i64 fi, .int .i64 sn, .bool part, .bool last, .int .i64 off, .slice A n cap] 24)).drew.cell? ⟨w.heap.size, 6, none⟩ = some (.slice A n cap) := ROW0.out.read (i := 6) rfl
    go_enter Try.func25, Try.ntmps25
    go_wp2_with (go_at_call 29; refine (HSH.out _).mono ?_; rintro e w1 ⟨rfl, rfl⟩)
    go_region_held3 (fun w' => w'.cell? ⟨w.heap.size, 6, none⟩ = some (.slice A n cap)) (first | assumption | go_keep) (first
      | (go_at_call 136; (with_reducible refine (HLE.out _).mono ?_); rintro e v1 ⟨rfl, rfl⟩)
      | (go_at_call 137; (with_reducible refine (HZ.out _ HB0.out).mono ?_); rintro e w2 ⟨rfl, hb2⟩; have k2 := (ROW0.out.later (bl_drew (Below.refl _ _))).later hb2; have c6 := k2.read (i := 6) rfl))
    obtain ⟨c0, c1, c2, c3, c4, c5, _⟩ := cells_amd k2 (Below.refl _ _)
    have HB2 := Lib.hid (HB0.out.trans (hb2.mono HB0.out.size))
    have K2 := Lib.hid k2
    clear hb2 k2
    rcases Decidable.em (z = 0) with hz2 | hz2
    · have HF := Lib.hid (show F = 0 by rw [HF2.out]; split <;> simp [hz2])
      subst hz2
      go_wp2
      go_ret
      exact ⟨ret_int (by rw [HF.out]), HB2.out⟩
    · have hz3 : (z == 0) = false := by simpa using hz2
      rcases Decidable.em (4000 < hd + z) with hz4 | hz4
      · have HF := Lib.hid (show F = 0 by rw [HF2.out]; split <;> simp [hz4])
        clear hz2
        go_wp2
        go_ret
        exact ⟨ret_int (by rw [HF.out]), HB2.out⟩
      · have HF3 := Lib.hid (show F = if 0 ≤ fi ∧ fi ≤ 3 ∧ okn wd sn = true ∧ pl = true then hd + z else 0 by
          rw [HF2.out, if_neg (show ¬ (z = 0 ∨ 4000 < hd + z) by omega)])
        clear hz2
        rcases Decidable.em (fi < 0) with hfi | hfi
        · have HF := Lib.hid (show F = 0 by rw [HF3.out, if_neg (by omega)])
          go_wp2
          go_ret
          exact ⟨ret_int (by rw [HF.out]), HB2.out⟩
        · rcases Decidable.em (3 < fi) with hfi2 | hfi2
          · have HF := Lib.hid (show F = 0 by rw [HF3.out, if_neg (by omega)])
            go_wp2
            go_ret
            exact ⟨ret_int (by rw [HF.out]), HB2.out⟩
          · cases hi : okn wd sn
            · have HF := Lib.hid (show F = 0 by rw [HF3.out, if_neg (by rw [hi]; simp)])
              rw [hi] at HI
              clear hi
              go_wp2_with (go_at_call 138; refine (HI.out _).mono ?_; rintro e w3 ⟨rfl, hb3⟩)
              go_ret
              exact ⟨ret_int (by rw [HF.out]), HB2.out.trans (hb3.mono HB2.out.size)⟩
            · cases pl
              · have HF := Lib.hid (show F = 0 by rw [HF3.out, if_neg (by simp)])
                rw [hi] at HI
                clear hi
                go_wp2_with (first
                  | (go_at_call 138; refine (HI.out _).mono ?_; rintro e w3 ⟨rfl, hb3⟩; obtain ⟨e0, e1, e2, e3, e4, e5, e6⟩ := cells_amd K2.out hb3; have HB3 := Lib.hid (HB2.out.trans (hb3.mono HB2.out.size)); clear hb3)
                  | (go_at_call 139; refine (HPL.out _).mono ?_; rintro e w4 ⟨rfl, hb4⟩))
                go_ret
                exact ⟨ret_int (by rw [HF.out]), HB3.out.trans (hb4.mono HB3.out.size)⟩
              · have HF := Lib.hid (show F = hd + z by rw [HF3.out, if_pos ⟨by omega, by omega, hi, rfl⟩])
                rw [hi] at HI
                clear hi
                go_wp2_with (first
                  | (go_at_call 138; refine (HI.out _).mono ?_; rintro e w3 ⟨rfl, hb3⟩; obtain ⟨e0, e1, e2, e3, e4, e5, e6⟩ := cells_amd K2.out hb3; have HB3 := Lib.hid (HB2.out.trans (hb3.mono HB2.out.size)); clear hb3)
                  | (go_at_call 139; refine (HPL.out _).mono ?_; rintro e w4 ⟨rfl, hb4⟩))
                go_ret
                exact ⟨ret_int (by rw [HF.out]), HB3.out.trans (hb4.mono HB3.out.size)⟩
  · have HF := Lib.hid (show F = 0 by rw [hF, if_neg (fun h => hw h.1)])
    have hh : headA part wd = 0 := by unfold headA; rw [if_neg (fun h => hw (.inl h)), if_neg (fun h => hw (.inr h))]
    rw [hh] at HSH
    clear hF hw hh
    go_enter Try.func25, Try.ntmps25
    go_wp2_with (go_at_call 29; refine (HSH.out _).mono ?_; rintro e w1 ⟨rfl, rfl⟩)
    go_ret
    exact ⟨ret_int (by rw [HF.out]), bl_alloc (Below.refl _ _) _⟩
set_option maxRecDepth 100000 in
set_option maxHeartbeats 800000 in
theorem aright_any {A : Option Addr} {L : List RowB} (poll part last : Bool) (fi sn off wd : Int) (n cap : Nat) (w : World) (hL : L.length = n) (hn : n ≤ 9223372036854775807) (hs : RSrc w A L) (hm : ∀ m ∈ lens L, m ≤ 9223372036854775807) :
    Calls Try.prog 26 #[.agg #[.bool poll, .int .i64 fi, .int .i64 sn, .bool part, .bool last, .int .i64 off, .slice A n cap], .int .i64 wd] w (fun e w' => e = .returned (.bool (decide (0 < amdF part last fi sn off (lens L) wd))) ∧ Below w.heap.size w w') := by
  have HZ := Lib.hid (fun W (hb : Below w.heap.size w W) => asize_any (A := A) poll part last fi sn off wd n cap W hL hn (hs.later hb) hm)
  generalize amdF part last fi sn off (lens L) wd = F at *
  clear hs hm hL
  go_enter Try.func26, Try.ntmps26
  go_wp2_with (go_at_call 25; refine (HZ.out _ (bl_alloc (Below.refl _ _) _)).mono ?_; rintro e w2 ⟨rfl, hb2⟩)
  go_ret
  exact ⟨rfl, (bl_alloc (Below.refl w.heap.size w) _).trans (hb2.mono (by simp))⟩
end Go.Proofs.Ytfgjlhklioijmaa
namespace Go.Proofs.Ytfgjlhklioijmaa
open Go.RowKit


theorem okn_true {b n : Int} (h : okn b n = true) : 0 ≤ n ∧ n < sz b := of_decide_eq_true h
theorem fwrite_at {A A0 : Option Addr} {L : List RowB} {lh : List Nat} (n cap n0 c0 wd : Nat) (wi : Int) (w : World) (e : wi = wd) (h : wd = 11 ∨ wd = 15) (hL : L.length = n) (hcap : n ≤ cap) (hcm : cap ≤ 9223372036854775807) (h1 : 1 ≤ n) (h24 : n ≤ 24) (hok : okTo (lens L) (lens L).length = true) (hs : RSrc w A L) (hh : Src w A0 (bts lh)) (hn0 : lh.length = n0) (hn1 : n0 ≤ 10) :
    Calls Try.prog 134 #[.slice A0 n0 c0, .slice A n cap, .int .i64 wi] w fun e w' => ∃ v', e = .returned v' ∧ OwnY w.heap.size w' v' (lh ++ tailF (lens L) wd ++ flat L) ∧ Below w.heap.size w w' := by
  subst e
  exact fwrite_any n cap n0 c0 wd w h hL hcap hcm h1 h24 hok hs hh hn0 hn1
theorem Row.under {w v : World} {B g : Nat} {t : TypeId} {cs : Array Value} (h : Row w g t cs) (hb : Below B w v) (hg : g < B) : Row v g t cs := (hb.block g hg).trans h
theorem put_step {B p : Nat} {bl : List Bool} {w : World} (v n : Nat) (vi ni : Int) (h : ∃ sv, WRep B w p sv bl) (e1 : vi = v) (e2 : ni = n) (hn : n ≤ 64) (hv : v < 2 ^ n) (hv2 : v < 18446744073709551616) (hl : bl.length + n ≤ 65536) :
    Calls Try.prog 224 #[.pointer (some ⟨p, 0, none⟩), .int .u64 vi, .int .i64 ni] w fun e w' => e = .returned (.int .i64 0) ∧ (∃ sv, WRep B w' p sv (bl ++ unval v n)) ∧ Below B w w' := by
  subst e1 e2
  obtain ⟨sv, h⟩ := h
  refine (put_any v n w h hn hv hl hv2).mono ?_
  rintro e w' ⟨rfl, sv', h1, _, h3⟩
  exact ⟨rfl, ⟨sv', h1⟩, wrote_below h h3⟩
set_option maxHeartbeats 400000 in
theorem ufollows_any (b : Bool) (w : World) : Calls Try.prog 257 #[.bool b] w fun e w' => e = .returned (.int .u64 b.toNat) ∧ w = w' := by
  cases b
  · go_enter Try.func257, Try.ntmps257
    go_wp2
    go_ret
    exact ⟨rfl, rfl⟩
  · go_enter Try.func257, Try.ntmps257
    go_wp2
    go_ret
    exact ⟨rfl, rfl⟩
/-- a head's bits -/
def headB (fi sn : Nat) (more : Bool) (wd : Nat) : List Bool := ((unval 0 (if wd = 10 then 3 else 0) ++ unval fi 2) ++ unval more.toNat 1) ++ unval sn wd
def umdBytes (fi sn : Nat) (L : List RowB) (wd : Nat) : List Nat := pack (headB fi sn (decide (1 < L.length)) wd) ++ tailF (lens L) 11 ++ flat L
theorem length_headB (fi sn : Nat) (more : Bool) (wd : Nat) : (headB fi sn more wd).length = (if wd = 10 then 3 else 0) + 3 + wd := by
  unfold headB
  rw [List.length_append, List.length_append, List.length_append, length_unval, length_unval, length_unval, length_unval]

set_option maxRecDepth 100000 in
set_option maxHeartbeats 800000 in
theorem uwrite_bad {A : Option Addr} {L : List RowB} (fi sn wd : Int) (n cap : Nat) (w : World) (hL : L.length = n) (hn : n ≤ 9223372036854775807) (hs : RSrc w A L) (hm : ∀ m ∈ lens L, m ≤ 9223372036854775807) (h : umdF fi sn (lens L) wd = 0) :
    Calls Try.prog 192 #[.agg #[.int .i64 fi, .int .i64 sn, .slice A n cap], .int .i64 wd] w fun e w' => e = .returned (.tuple #[.slice none 0 0, .int .i64 (if wd = 5 ∨ wd = 10 then 3 else 9)]) ∧ Below w.heap.size w w' := by
  have HSH := Lib.hid (fun W => shape_any wd W)
  have HR := Lib.hid (fun W (hb : Below w.heap.size w W) => (show Calls Try.prog 256 #[.agg #[.int .i64 fi, .int .i64 sn, .slice A n cap], .int .i64 wd] W fun e w' => e = .returned (.bool false) ∧ Below W.heap.size W w' from by
    have h1 := uright_any (A := A) fi sn wd n cap W hL hn (hs.later hb) hm
    rw [h] at h1
    exact h1))
  clear hs hm hL h
  by_cases hw : wd = 5 ∨ wd = 10
  · have hd : 1 ≤ (headN wd).1 := by rcases hw with rfl | rfl <;> decide
    have h0 : ((headN wd).1 == 0) = false := by simp; omega
    generalize (headN wd).1 = hd at *
    generalize (headN wd).2 = nz at *
    rw [if_pos hw]
    clear hw
    go_enter Try.func192, Try.ntmps192
    go_wp2_with (first
      | (go_at_call 195; refine (HSH.out _).mono ?_; rintro e w1 ⟨rfl, rfl⟩)
      | (go_at_call 256; refine (HR.out _ (bl_alloc (Below.refl _ _) _)).mono ?_; rintro e w2 ⟨rfl, hb2⟩))
    go_ret2
    exact ⟨rfl, (bl_alloc (Below.refl w.heap.size w) _).trans (hb2.mono (by simp))⟩
  · have hh : headN wd = (0, 0) := by unfold headN; rw [if_neg (fun h => hw (.inl h)), if_neg (fun h => hw (.inr h))]
    rw [hh] at HSH
    rw [if_neg hw]
    clear hw hh
    go_enter Try.func192, Try.ntmps192
    go_wp2_with (go_at_call 195; refine (HSH.out _).mono ?_; rintro e w1 ⟨rfl, rfl⟩)
    go_ret2
    exact ⟨rfl, bl_alloc (Below.refl w.heap.size w) _⟩

set_option maxRecDepth 100000 in
set_option maxHeartbeats 3200000 in
theorem uwrite_ok {A : Option Addr} {L : List RowB} (fi sn wd n cap : Nat) (w : World) (hL : L.length = n) (hcap : n ≤ cap) (hcm : cap ≤ 9223372036854775807) (hs : RSrc w A L) (hm : ∀ m ∈ lens L, m ≤ 9223372036854775807) (h : umdF fi sn (lens L) wd ≠ 0) :
    Calls Try.prog 192 #[.agg #[.int .i64 fi, .int .i64 sn, .slice A n cap], .int .i64 wd] w fun e w' => ∃ v', e = .returned (.tuple #[v', .int .i64 0]) ∧ OwnY w.heap.size w' v' (umdBytes fi sn L wd) ∧ Below w.heap.size w w' := by
  obtain ⟨hw, _, hfi, hsn, hl1, hl2, hok, _⟩ := umdF_pos h
  rw [length_lens, hL] at hl1 hl2
  have hsz : (sn : Int) < 2 ^ wd := by
    have h1 := (okn_true hsn).2
    unfold sz at h1
    rcases hw with h9 | h9
    · obtain rfl : wd = 5 := by omega
      exact h1
    · obtain rfl : wd = 10 := by omega
      exact h1
  have hsn2 : sn < 2 ^ wd := by
    have e : ((2 ^ wd : Nat) : Int) = (2 : Int) ^ wd := by rw [Int.natCast_pow]; rfl
    omega
  have hwd : wd = 5 ∨ wd = 10 := by omega
  have hsn3 : sn < 1024 := by rcases hwd with rfl | rfl <;> omega
  have HSH := Lib.hid (fun W => shape_any wd W)
  have hnz : (headN wd).2 = ((if wd = 10 then 3 else 0 : Nat) : Int) := by rcases hwd with rfl | rfl <;> rfl
  have hhd : 1 ≤ (headN wd).1 := by rcases hwd with rfl | rfl <;> decide
  have h0 : ((headN wd).1 == 0) = false := by simp; omega
  have HR := Lib.hid (fun W (hb : Below w.heap.size w W) => (show Calls Try.prog 256 #[.agg #[.int .i64 fi, .int .i64 sn, .slice A n cap], .int .i64 wd] W fun e w' => e = .returned (.bool true) ∧ Below W.heap.size W w' from by
    have h1 := uright_any (A := A) fi sn wd n cap W hL (by omega) (hs.later hb) hm
    rw [decide_eq_true (show 0 < umdF fi sn (lens L) wd by have := umdF_nonneg fi sn (lens L) wd; omega)] at h1
    exact h1))
  have HNEW := Lib.hid (fun W (hB : w.heap.size + 1 ≤ W.heap.size) => new_any (w.heap.size + 1) W hB)
  generalize hnzz : (if wd = 10 then 3 else 0 : Nat) = nz at *
  have hnz3 : nz ≤ 3 := by rw [← hnzz]; split <;> omega
  have hlen := length_headB fi sn (decide (1 < L.length)) wd
  rw [hnzz] at hlen
  have hpl : packLen (headB fi sn (decide (1 < L.length)) wd).length ≤ 10 := by rw [hlen]; unfold packLen; omega
  have HHB := Lib.hid (show ((unval 0 nz ++ unval fi 2) ++ unval (decide (1 < L.length)).toNat 1) ++ unval sn wd = headB fi sn (decide (1 < L.length)) wd by unfold headB; rw [hnzz])
  have HFW := Lib.hid (fun W A0 n0 c0 (hb : Below w.heap.size w W) hh hn0 => fwrite_at (A := A) (A0 := A0) (lh := pack (headB fi sn (decide (1 < L.length)) wd)) n cap n0 c0 11 11 W rfl (.inl rfl) hL hcap hcm hl1 hl2 hok (hs.later hb) hh hn0 (by rw [← hn0, length_pack]; exact hpl))
  have HP1 := Lib.hid (fun W p (hr : ∃ sv, WRep (w.heap.size + 1) W p sv []) => put_step (bl := []) 0 nz 0 nz hr rfl rfl (by omega) (Nat.two_pow_pos _) (by omega) (by simp; omega))
  have HP2 := Lib.hid (fun W p (hr : ∃ sv, WRep (w.heap.size + 1) W p sv ([] ++ unval 0 nz)) => put_step (bl := [] ++ unval 0 nz) fi 2 fi 2 hr rfl rfl (by omega) (by omega) (by omega) (by simp [length_unval]; omega))
  have HP3 := Lib.hid (fun W p (hr : ∃ sv, WRep (w.heap.size + 1) W p sv (([] ++ unval 0 nz) ++ unval fi 2)) => put_step (bl := ([] ++ unval 0 nz) ++ unval fi 2) (decide (1 < L.length)).toNat 1 (decide (1 < L.length)).toNat 1 hr rfl rfl (by omega) (by cases decide (1 < L.length) <;> decide) (by cases decide (1 < L.length) <;> decide) (by simp [length_unval]; omega))
  have HP4 := Lib.hid (fun W p (hr : ∃ sv, WRep (w.heap.size + 1) W p sv ((([] ++ unval 0 nz) ++ unval fi 2) ++ unval (decide (1 < L.length)).toNat 1)) => put_step (bl := (([] ++ unval 0 nz) ++ unval fi 2) ++ unval (decide (1 < L.length)).toNat 1) sn wd sn wd hr rfl rfl (by omega) hsn2 (by omega) (by simp [length_unval]; omega))
  have HMORE := Lib.hid (show decide ((1 : Int) < (n : Int)) = decide (1 < L.length) by apply decide_eq_decide.2; omega)
  have HBY := Lib.hid (fun W p (hr : ∃ sv, WRep (w.heap.size + 1) W p sv (headB fi sn (decide (1 < L.length)) wd)) => by
    obtain ⟨sv, hr⟩ := hr
    exact bytes_any hr (by rw [hlen]; omega))
  have hfw : IntKind.u64.wrap (fi : Int) = (fi : Int) := by rw [IntKind.wrap_u64]; omega
  have hsw : IntKind.u64.wrap (sn : Int) = (sn : Int) := by rw [IntKind.wrap_u64]; omega
  have HU := Lib.hid (show umdBytes fi sn L wd = pack (headB fi sn (decide (1 < L.length)) wd) ++ tailF (lens L) 11 ++ flat L from rfl)
  rw [hnz] at HSH
  generalize (headN wd).1 = hd at *
  generalize decide (1 < L.length) = more at *
  generalize hHB : headB fi sn more wd = bits at *
  generalize umdBytes fi sn L wd = out at *
  clear h hw hok hs hm hL hlen hnz hnzz hwd hsn hsz hsn2 hHB
  go_enter Try.func192, Try.ntmps192
  go_wp2_with (first
    | (go_at_call 195; refine (HSH.out _).mono ?_; rintro e w1 ⟨rfl, rfl⟩)
    | (go_at_call 256; refine (HR.out _ (bl_alloc (Below.refl _ _) _)).mono ?_; rintro e w2 ⟨rfl, hb2⟩; (have HROW := Lib.hid ((Row.made w 51 #[.int .i64 fi, .int .i64 sn, .slice A n cap]).later hb2); have HB2 := Lib.hid ((bl_alloc (Below.refl w.heap.size w) _).trans (hb2.mono (by simp))); have HZ2 := Lib.hid (show w.heap.size + 1 ≤ w2.heap.size by have := hb2.size; simp at this; omega); clear hb2))
    | (go_at_call 222; refine (HNEW.out w2 HZ2.out).mono ?_; rintro e w3 ⟨rfl, hr3, hb3⟩; (have HROW3 := Lib.hid (HROW.out.later hb3); have HR3 := Lib.hid (show ∃ sv, WRep (w.heap.size + 1) w3 w2.heap.size sv [] from ⟨_, hr3⟩); have HB3 := Lib.hid (HB2.out.trans (hb3.mono HB2.out.size)); clear hr3 hb3))
    | (go_at_call 224; (with_reducible refine (HP1.out w3 _ HR3.out).mono ?_); rintro e w4 ⟨rfl, hr4, hb4⟩; (have HROW4 := Lib.hid (HROW3.out.under hb4 (by omega)); have c4 := HROW4.out.read (i := 0) rfl; have HR4 := Lib.hid hr4; have HB4 := Lib.hid (HB3.out.trans (hb4.mono (by omega))); clear hr4 hb4))
    | (go_at_call 224; (with_reducible refine (HP2.out w4 _ HR4.out).mono ?_); rintro e w5 ⟨rfl, hr5, hb5⟩; (have HROW5 := Lib.hid (HROW4.out.under hb5 (by omega)); have c5 := HROW5.out.read (i := 2) rfl; have HR5 := Lib.hid hr5; have HB5 := Lib.hid (HB4.out.trans (hb5.mono (by omega))); clear hr5 hb5))
    | (go_at_call 257; (with_reducible refine (ufollows_any _ _).mono ?_); rintro e w6 ⟨rfl, rfl⟩; rw [HMORE.out])
    | (go_at_call 224; (with_reducible refine (HP3.out w5 _ HR5.out).mono ?_); rintro e w7 ⟨rfl, hr7, hb7⟩; (have HROW7 := Lib.hid (HROW5.out.under hb7 (by omega)); have c7 := HROW7.out.read (i := 1) rfl; have HR7 := Lib.hid hr7; have HB7 := Lib.hid (HB5.out.trans (hb7.mono (by omega))); clear hr7 hb7))
    | (go_at_call 224; (with_reducible refine (HP4.out w7 _ HR7.out).mono ?_); rintro e w8 ⟨rfl, hr8, hb8⟩; (have HROW8 := Lib.hid (HROW7.out.under hb8 (by omega)); have c8 := HROW8.out.read (i := 2) rfl; have HR8 := Lib.hid hr8; have HB8 := Lib.hid (HB7.out.trans (hb8.mono (by omega))); clear hr8 hb8)))
  have d8 : w8.drew.cell? ⟨w.heap.size, 2, none⟩ = some (.slice A n cap) := c8
  have HBY8 := Lib.hid (HBY.out w8.drew _ (by rw [← HHB.out]; obtain ⟨sv, h9⟩ := HR8.out; exact ⟨sv, h9.later (bl_drew (Below.refl _ _))⟩))
  have hpk := length_pack bits
  generalize packLen bits.length = k8 at *
  have HPK := Lib.hid hpk
  clear hpk
  go_region_held3 (fun w' => w'.cell? ⟨w.heap.size, 2, none⟩ = some (.slice A n cap)) (first | assumption | go_keep) (first
    | (go_at_call 227; (with_reducible refine HBY8.out.mono ?_); rintro e v1 ⟨g1, rfl, hg1, hr1, hv1⟩; have HW1 := Lib.hid (HB8.out.trans ((bl_step (bl_drew (Below.refl w8.heap.size w8)) hv1).mono HB8.out.size)); have HR1 := Lib.hid hr1; have k1 : v1.cell? ⟨w.heap.size, 2, none⟩ = some (.slice A n cap) := kept_box hv1 d8)
    | (go_at_call 134; (with_reducible refine (HFW.out _ _ _ _ HW1.out (row_src HR1.out) HPK.out).mono ?_); rintro e v2 ⟨x2, rfl, ho2, hv2⟩; obtain ⟨A2, c2, hx2, _⟩ := ho2.form; generalize (pack bits ++ tailF (lens L) 11 ++ flat L).length = n2 at hx2; subst hx2; have k2 : v2.cell? ⟨w.heap.size, 2, none⟩ = some (.slice A n cap) := kept_box hv2 k1; (have HO2 := Lib.hid ho2; have HW2 := Lib.hid (HW1.out.trans (hv2.mono HW1.out.size)))))
  go_wp2
  go_ret2
  exact ⟨_, rfl, by rw [HU.out]; exact HO2.out.down HW1.out.size, HW2.out⟩
end Go.Proofs.Ytfgjlhklioijmaa
namespace Go.Proofs.Ytfgjlhklioijmaa
open Go.RowKit

/-- what is put of a head, one number behind the other -/
def putsA (poll part last : Bool) (fi sn off : Nat) (more : Bool) (wd : Nat) : List (Nat × Nat) :=
  if wd = 10 then (if part then [(1, 1), (1, 1), (poll.toNat, 1), (fi, 2), (more.toNat, 1), (sn, 10), (last.toNat, 1), (off, 15)] else [(1, 1), (0, 1), (poll.toNat, 1), (fi, 2), (more.toNat, 1), (sn, 10)])
  else (if part then [(1, 1), (1, 1), (poll.toNat, 1), (fi, 2), (more.toNat, 1), (last.toNat, 1), (0, 1), (sn, 16), (off, 16)] else [(1, 1), (0, 1), (poll.toNat, 1), (fi, 2), (more.toNat, 1), (last.toNat, 1), (0, 1), (sn, 16)])
def headNA (part : Bool) (wd : Nat) : Nat := if wd = 10 then (if part then 4 else 2) else (if part then 5 else 3)
theorem len_putsA (poll part last : Bool) (fi sn off : Nat) (more : Bool) (wd : Nat) : (bitsP (putsA poll part last fi sn off more wd)).length = 8 * headNA part wd := by
  unfold putsA headNA
  by_cases h : wd = 10
  · rw [if_pos h, if_pos h]
    cases part <;> simp [bitsP, length_unval]
  · rw [if_neg h, if_neg h]
    cases part <;> simp [bitsP, length_unval]
/-- a writer in a cell that a closure holds, while numbers are put -/
structure WrSt (B : Nat) (w0 : World) (pr p : Nat) (kp : List (Nat × Nat)) (t : Nat) (w : World) : Prop where
  rep : ∃ sv, WRep B w p sv (bitsP kp)
  cell : Row w pr 295 #[.pointer (some ⟨p, 0, none⟩)]
  below : Below B w0 w
  size : B ≤ w.heap.size
  len : (bitsP kp).length = t
theorem bitsP_one (kp : List (Nat × Nat)) (v n : Nat) : bitsP (kp ++ [(v, n)]) = bitsP kp ++ unval v n := bitsP_snoc kp v n
set_option maxHeartbeats 800000 in
theorem put_clos {B pr p t : Nat} {w : World} {kp : List (Nat × Nat)} (v n : Nat) (vi ni : Int) (e1 : vi = v) (e2 : ni = n) (hr : ∃ sv, WRep B w p sv (bitsP kp)) (hc : Row w pr 295 #[.pointer (some ⟨p, 0, none⟩)]) (hl : (bitsP kp).length = t) (ht : t + n ≤ 65536) (hn : n ≤ 64) (hv : v < 2 ^ n) (hv2 : v < 9223372036854775808) :
    Calls Try.prog 223 #[.int .i64 vi, .int .i64 ni, .pointer (some ⟨pr, 0, none⟩)] w fun e w' => e = .returned (.tuple #[]) ∧ (∃ sv, WRep B w' p sv (bitsP (kp ++ [(v, n)]))) ∧ Row w' pr 295 #[.pointer (some ⟨p, 0, none⟩)] ∧ Below B w w' := by
  subst e1 e2
  obtain ⟨sv, hr⟩ := hr
  have HP := Lib.hid (put_any v n w hr hn hv (by rw [hl]; exact ht) (by omega))
  have c : w.cell? ⟨pr, 0, none⟩ = some (.pointer (some ⟨p, 0, none⟩)) := hc.read rfl
  have hw : IntKind.u64.wrap (v : Int) = (v : Int) := by rw [IntKind.wrap_u64]; omega
  have HS := Lib.hid (bitsP_one kp v n)
  have HR := Lib.hid hr
  have HC := Lib.hid hc
  clear hr hc hl hv
  go_enter Try.func223, Try.ntmps223
  go_wp2_with (go_at_call 224; refine HP.out.mono ?_; rintro e w1 ⟨rfl, sv', h1, h2, h3⟩)
  refine bodyPost_end (results_none rfl _ _ _) rfl ?_
  refine ⟨rfl, ⟨sv', by rw [HS.out]; exact h1⟩, HC.out.only h3 (fun h => ?_), wrote_below HR.out h3⟩
  rcases h with h | h
  · exact HC.out.apart HR.out.2.1 (by decide) h
  · exact own_apart HR.out.2.2 HC.out (by decide) h
theorem WrSt.put {B pr p t : Nat} {w0 w : World} {kp : List (Nat × Nat)} (h : WrSt B w0 pr p kp t w) (v n : Nat) (vi ni : Int) (e1 : vi = v) (e2 : ni = n) (hn : n ≤ 64) (hv : v < 2 ^ n) (hv2 : v < 9223372036854775808) (ht : t + n ≤ 1000) :
    Calls Try.prog 223 #[.int .i64 vi, .int .i64 ni, .pointer (some ⟨pr, 0, none⟩)] w fun e w' => e = .returned (.tuple #[]) ∧ WrSt B w0 pr p (kp ++ [(v, n)]) (t + n) w' := by
  refine (put_clos v n vi ni e1 e2 h.rep h.cell h.len (by omega) hn hv hv2).mono ?_
  rintro e w' ⟨rfl, h1, h2, h3⟩
  exact ⟨rfl, h1, h2, h.below.trans h3, Nat.le_trans h.size h3.size, by rw [bitsP_one, List.length_append, length_unval, h.len]⟩
theorem cells_und {w w' : World} {B g : Nat} {a b c d e f s : Value} (hr : Row w g 24 #[a, b, c, d, e, f, s]) (hb : Below B w w') (hg : g < B) :
    w'.cell? ⟨g, 0, none⟩ = some a ∧ w'.cell? ⟨g, 1, none⟩ = some b ∧ w'.cell? ⟨g, 2, none⟩ = some c ∧ w'.cell? ⟨g, 3, none⟩ = some d ∧ w'.cell? ⟨g, 4, none⟩ = some e ∧ w'.cell? ⟨g, 5, none⟩ = some f ∧ w'.cell? ⟨g, 6, none⟩ = some s :=
  ⟨(hr.under hb hg).read rfl, (hr.under hb hg).read rfl, (hr.under hb hg).read rfl, (hr.under hb hg).read rfl, (hr.under hb hg).read rfl, (hr.under hb hg).read rfl, (hr.under hb hg).read rfl⟩
theorem bool_lt (b : Bool) : b.toNat < 2 ^ 1 ∧ b.toNat < 9223372036854775808 := by cases b <;> decide
end Go.Proofs.Ytfgjlhklioijmaa
namespace Go.Proofs.Ytfgjlhklioijmaa
open Go.RowKit


/-- like wp_scope_jumps; the first way may go through the label, too -/
theorem wp_scope_through {P : Program} {a : Act} {w : World} {Q : Exit → Act → World → Prop} {c tail : Code} (l : Nat) (J : Act → World → Prop) (μ : Act → World → Nat) (hf : findLabel c l = some (.seq .skip tail))
    (first : (∀ a w, J a w → tail.wp P (Exit.jump l J Q) a w) → c.wp P (Exit.jump l J Q) a w)
    (pass : ∀ a w, J a w → tail.wp P (Exit.jump l (fun a' w' => J a' w' ∧ μ a' w' < μ a w) Q) a w) : (Code.scope c).wp P Q a w := by
  refine wp_scope_jumps l J μ hf (first fun a w h b k cs => ?_) (fun a w h => wp_seq (wp_skip (pass a w h)))
  obtain ⟨e, a', w', hq, harr⟩ := pass a w h b k cs
  refine ⟨e, a', w', ?_, harr⟩
  cases e <;> simp only [Exit.jump] at hq ⊢
  all_goals first | exact hq | exact ⟨hq.1, hq.2.1⟩

theorem bts_take (l : List Nat) (n : Nat) : bts (l.take n) = (bts l).take n := by simp [bts, List.map_take]
theorem src_take {w : World} {A : Option Addr} {l : List Nat} (n : Nat) (h : Src w A (bts l)) : Src w A (bts (l.take n)) := by
  intro h0
  obtain ⟨ad, e, hc⟩ := h (by rw [length_bts] at *; rw [List.length_take] at h0; omega)
  refine ⟨ad, e, fun j u hu => hc j u ?_⟩
  rw [bts_take, List.getElem?_take] at hu
  split at hu
  · exact hu
  · cases hu
theorem src_dropc {w : World} {ad : Addr} {l : List Nat} {c : Nat} (n : Nat) (h : Src w (some ad) (bts (l.drop c))) : Src w (some (ad.add n)) (bts (l.drop (c + n))) := by
  intro h0
  obtain ⟨ad2, e, hc⟩ := h (by rw [length_bts, List.length_drop] at *; omega)
  injection e with e
  subst e
  refine ⟨_, rfl, fun j u hu => ?_⟩
  rw [Addr.add_add]
  refine hc (n + j) u ?_
  unfold bts at hu ⊢
  rw [List.getElem?_map, List.getElem?_drop] at hu ⊢
  rw [show c + (n + j) = c + n + j by omega]
  exact hu
/-- at the jump: the fields so far, and what is left -/
structure CutSt (B : Nat) (w0 : World) (bs ls : List Nat) (c : Nat) (L : List RowB) (v : Value) (Ab : Option Addr) (nb cb : Nat) (w : World) : Prop where
  own : OwnR B w v L
  inv : CInv bs ls (texts L) c
  left : nb = bs.length - c
  room : nb ≤ cb
  small : cb ≤ 9223372036854775807
  src : Src w0 Ab (bts (bs.drop c))
  below : Below B w0 w
/-- what cut answers -/
def CutAns (B : Nat) (w : World) (t : Option (List (List Nat))) (e : Ending) (w' : World) : Prop :=
  ((∃ v L, t = some (texts L) ∧ e = .returned (.tuple #[v, .int .i64 0]) ∧ OwnR B w' v L) ∨ (t = none ∧ e = .returned (.tuple #[.slice none 0 0, .int .i64 8]))) ∧ Below B w w'
section
variable {B : Nat} {w0 w : World} {bs ls : List Nat} {c nb cb : Nat} {L : List RowB} {v : Value} {Ab : Option Addr}
theorem CutSt.len (h : CutSt B w0 bs ls c L v Ab nb cb w) : L.length ≤ ls.length := by
  have := h.inv.1
  rwa [length_texts] at this
end
set_option maxRecDepth 100000 in
set_option maxHeartbeats 6400000 in
theorem cut_any {A Al : Option Addr} {bs ls : List Nat} (n cap m cl : Nat) (w : World) (hn : bs.length = n) (hn8 : n ≤ 1000000) (hcap : n ≤ cap) (hcm : cap ≤ 9223372036854775807) (hs : Src w A (bts bs)) (hb : ∀ b ∈ bs, b < 256)
    (hm : ls.length = m) (hm23 : m ≤ 23) (hsl : Src w Al (insN ls)) (hl1 : ∀ x ∈ ls, 1 ≤ x ∧ x < 65536) :
    Calls Try.prog 238 #[.slice A n cap, .slice Al m cl] w (CutAns w.heap.size w (cutF bs ls)) := by
  have HM := make_rows m (by omega)
  go_enter Try.func238, Try.ntmps238
  go_wp2
  refine wp_scope_through 0 (fun a' w' => ∃ (c : Nat) (L : List RowB) (v : Value) (Ab : Option Addr) (nb cb : Nat), Fr [some (.slice Ab nb cb), some (.slice Al m cl), none, none, some (.slice none 0 0), some (.int .i64 0), some v, none, none, none, none, none, none, none, none, none, none, none, none, none, none, none, none, none, none, none, none, none, none, none, none, none, none, none, none, none, none, none, none, none, none, none, none, none, none, none, none, none] a' ∧ sliceLen v = L.length ∧ Hid (CutSt w.heap.size w bs ls c L v Ab nb cb w')) (fun a' _ => 30 - sliceLen (a'.tmps.getD 6 undef)) rfl ?_ ?_
  · intro hrest
    have HI0 := Lib.hid (show CutSt w.heap.size w bs ls 0 [] (.slice (some ⟨w.heap.size, 0, none⟩) 0 (m + 1)) A n cap (w.alloc (.cells (List.replicate (m + 1) (Value.slice none 0 0)).toArray 30)) from
      ⟨own_rows m (by omega) w _ (Nat.le_refl _), CInv.start bs ls, by omega, hcap, hcm, hs, bl_alloc (Below.refl _ _) _⟩)
    have hrep : (List.replicate (m + 1) (Value.slice none 0 0)).toArray = Array.replicate (m + 1) (Value.slice none 0 0) := by simp
    rw [hrep] at HI0
    clear hrep
    go_wp2
    go_step3
    rename_i Q9 K9 h9
    refine h9 _ _ (hrest _ _ ⟨0, [], _, _, _, _, ?_, ?_, HI0⟩)
    · simp only [Fr, Holes]
      repeat apply Exists.intro
      rfl
    · simp [sliceLen]
  · rintro a' w' ⟨c, L, v, Ab, nb, cb, hfr, hsl2, HI⟩
    simp only [Fr, Holes] at hfr
    repeat (obtain ⟨_, hfr⟩ := hfr)
    obtain ⟨Av, cv, rfl, hv1, hv2⟩ := HI.out.own.form
    clear hsl2 HM
    have hlen := HI.out.len
    rw [hm] at hlen
    have hnb := HI.out.room
    have hnc := HI.out.small
    have hleft := HI.out.left
    have hnb6 : nb ≤ 1000000 := by omega
    have HN := Lib.hid hleft
    have HM := Lib.hid hm
    have HB := Lib.hid hb
    have HL1 := Lib.hid hl1
    have HSL := Lib.hid hsl
    clear hleft hn hm hb hl1 hs hsl
    by_cases hk : L.length < m
    · obtain ⟨mm, hmm⟩ : ∃ mm, ls[L.length]? = some mm := ⟨_, List.getElem?_eq_getElem (by have := HM.out; omega)⟩
      obtain ⟨hm1, hm2⟩ := HL1.out mm (List.mem_of_getElem? hmm)
      obtain ⟨adl, rfl, hcl⟩ := HSL.out (by rw [length_insN, HM.out]; omega)
      have hcell : w'.cell? (adl.add L.length) = some (.int .i64 mm) := cell_below HI.out.below (hcl _ _ (by simp [insN, hmm]))
      have hmm' : (ls[(texts L).length]?) = some mm := by rw [length_texts]; exact hmm
      clear hcl
      rcases Nat.lt_or_ge nb mm with hs1 | hs1
      · have HE := Lib.hid (HI.out.inv.short hmm' (by have := HN.out; omega))
        have hs2 : (nb : Int) < mm := by omega
        clear hmm hmm'
        go_wp2
        simp only [Exit.jump]
        refine bodyPost_ret (v := .tuple #[.slice none 0 0, .int .i64 8]) (by simp [results, Try.results238, go_sem]) rfl ⟨.inr ⟨HE.out, rfl⟩, HI.out.below⟩
      · have hbl := HI.out.below
        obtain ⟨adb, rfl, _⟩ := HI.out.src (by rw [length_bts, List.length_drop]; have := HN.out; omega)
        have hNX := HI.out.inv.next hmm' (by have := HN.out; omega)
        have HSB := Lib.hid (src_later HI.out.src HI.out.below)
        have HC := Lib.hid (copied_f (A := some adb) (l := (bs.drop c).take mm) w'.heap.size mm cb w' (by rw [List.length_take, List.length_drop]; have := HN.out; omega) (by omega) (by omega) (src_take mm HSB.out) (fun b h => HB.out b (List.mem_of_mem_drop (List.mem_of_mem_take h))) (Nat.le_refl _))
        have HST := Lib.hid (fun W1 A1 g3 c3 W3 (hmine : RowB.mine w'.heap.size W1 ⟨A1, mm, (bs.drop c).take mm⟩) (hb1 : Below w'.heap.size w' W1) (h3 : OwnR w.heap.size W3 (.slice (some ⟨g3, 0, none⟩) (L.length + 1) c3) (L ++ [⟨A1, mm, (bs.drop c).take mm⟩])) (hb3 : Below w.heap.size W1 W3) Ab nb2 cb2 (e1 : nb2 = nb - mm) (e2 : cb2 = cb - mm) (hs : Src w Ab (bts (bs.drop (c + mm)))) =>
          show CutSt w.heap.size w bs ls (c + mm) (L ++ [⟨A1, mm, (bs.drop c).take mm⟩]) (.slice (some ⟨g3, 0, none⟩) (L.length + 1) c3) Ab nb2 cb2 W3 from
          ⟨h3, by unfold texts; rw [List.map_append]; exact hNX, by have := HN.out; omega, by omega, by omega, hs, HI.out.below.trans ((hb1.mono HI.out.below.size).trans hb3)⟩)
        have HNXT := Lib.hid (fun W1 A1 (hmine : RowB.mine w'.heap.size W1 ⟨A1, mm, (bs.drop c).take mm⟩) (hb1 : Below w'.heap.size w' W1) => (HI.out.own.later hb1).next (Nat.le_trans HI.out.below.size hb1.size) ⟨A1, mm, (bs.drop c).take mm⟩ (hmine.down HI.out.below.size) (by omega))
        have HTK := Lib.hid (show ((bs.drop c).take mm).length = mm by rw [List.length_take, List.length_drop]; have := HN.out; omega)
        have hs2 : (mm : Int) ≤ nb := by omega
        have HSW := Lib.hid HI.out.src
        clear hmm hmm' hNX
        by_cases hcb : mm = cb
        · subst hcb
          go_wp2_with (first
            | (go_at_call 267; refine HC.out.mono ?_; rintro e w1 ⟨A1, rfl, hmine, hb1⟩; obtain ⟨g3, c3, w3, hr3, ho3, hb3⟩ := HNXT.out w1 A1 hmine hb1; rw [HTK.out] at hr3; (have HST2 := Lib.hid (HST.out w1 A1 g3 c3 w3 hmine hb1 ho3 hb3); clear hmine hb1 ho3 hb3))
            | (at_builtin; refine wpList_run rfl (.tmp 32) (.tmp 37) 22 rfl (.slice Av L.length cv) (.slice (some ⟨w1.heap.size, 0, none⟩) 1 1) (by rfl) (by rfl) hr3 ?_))
          go_step3
          refine ⟨rfl, ⟨c + mm, _, _, _, _, _, ?_, ?_, Lib.hid (HST2.out (some adb) 0 0 (by omega) (by omega) ?_)⟩, ?_⟩
          · simp only [Fr, Holes]
            repeat apply Exists.intro
            rfl
          · simp [sliceLen]
          · intro h0; rw [length_bts, List.length_drop] at h0; have := HN.out; omega
          · show 30 - sliceLen _ < 30 - sliceLen _
            simp [sliceLen]
            omega
        · have hcb2 : mm < cb := by omega
          go_wp2_with (first
            | (go_at_call 267; refine HC.out.mono ?_; rintro e w1 ⟨A1, rfl, hmine, hb1⟩; obtain ⟨g3, c3, w3, hr3, ho3, hb3⟩ := HNXT.out w1 A1 hmine hb1; rw [HTK.out] at hr3; (have HST2 := Lib.hid (HST.out w1 A1 g3 c3 w3 hmine hb1 ho3 hb3); clear hmine hb1 ho3 hb3))
            | (at_builtin; refine wpList_run rfl (.tmp 32) (.tmp 37) 22 rfl (.slice Av L.length cv) (.slice (some ⟨w1.heap.size, 0, none⟩) 1 1) (by rfl) (by rfl) hr3 ?_))
          go_step3
          refine ⟨rfl, ⟨c + mm, _, _, _, _, _, ?_, ?_, Lib.hid (HST2.out (some (adb.add mm)) (nb - mm) (cb - mm) rfl rfl ?_)⟩, ?_⟩
          · simp only [Fr, Holes]
            repeat apply Exists.intro
            rfl
          · simp [sliceLen]
          · exact src_dropc mm HSW.out
          · show 30 - sliceLen _ < 30 - sliceLen _
            simp [sliceLen]
            omega
    · have hkm : L.length = m := by omega
      have hkk : (texts L).length = ls.length := by rw [length_texts, HM.out]; exact hkm
      have hlt1 : ¬ ((L.length : Int) < (m : Int)) := by omega
      have hlt2 : ¬ ((L.length : Int) + 1 ≤ (m : Int)) := by omega
      have hl23 : L.length ≤ 23 := by omega
      clear hkm
      rcases Nat.eq_zero_or_pos nb with h0 | h0
      · have HE := Lib.hid (HI.out.inv.last_short hkk (by have := HN.out; omega))
        subst h0
        clear hkk
        go_wp2
        simp only [Exit.jump]
        refine bodyPost_ret (v := .tuple #[.slice none 0 0, .int .i64 8]) (by simp [results, Try.results238, go_sem]) rfl ⟨.inr ⟨HE.out, rfl⟩, HI.out.below⟩
      · have HE := Lib.hid (HI.out.inv.last hkk (by have := HN.out; omega))
        obtain ⟨adb, rfl, _⟩ := HI.out.src (by rw [length_bts, List.length_drop]; have := HN.out; omega)
        have HC := Lib.hid (copied_f (A := some adb) (l := bs.drop c) w'.heap.size nb cb w' (by rw [List.length_drop]; have := HN.out; omega) (by omega) (by omega) (src_later HI.out.src HI.out.below) (fun b h => HB.out b (List.mem_of_mem_drop h)) (Nat.le_refl _))
        have HNXT := Lib.hid (fun W1 A1 (hmine : RowB.mine w'.heap.size W1 ⟨A1, nb, bs.drop c⟩) (hb1 : Below w'.heap.size w' W1) => (HI.out.own.later hb1).next (Nat.le_trans HI.out.below.size hb1.size) ⟨A1, nb, bs.drop c⟩ (hmine.down HI.out.below.size) (by omega))
        have HTK := Lib.hid (show (bs.drop c).length = nb by rw [List.length_drop]; have := HN.out; omega)
        have HBW := Lib.hid HI.out.below
        have h1 : ¬ (nb : Int) < 1 := by omega
        have HX := Lib.hid (show ∀ A1, texts L ++ [bs.drop c] = texts (L ++ [⟨A1, nb, bs.drop c⟩]) from fun A1 => by unfold texts; rw [List.map_append]; rfl)
        clear hkk
        by_cases hcb : nb = cb
        · subst hcb
          go_wp2_with (first
            | (go_at_call 267; refine HC.out.mono ?_; rintro e w1 ⟨A1, rfl, hmine, hb1⟩; obtain ⟨g3, c3, w3, hr3, ho3, hb3⟩ := HNXT.out w1 A1 hmine hb1; rw [HTK.out] at hr3; (have HO3 := Lib.hid ho3; have HB3 := Lib.hid (HBW.out.trans ((hb1.mono HBW.out.size).trans hb3)); clear hmine hb1 ho3 hb3))
            | (at_builtin; refine wpList_run rfl (.tmp 32) (.tmp 37) 22 rfl (.slice Av L.length cv) (.slice (some ⟨w1.heap.size, 0, none⟩) 1 1) (by rfl) (by rfl) hr3 ?_))
          simp only [Exit.jump]
          refine bodyPost_ret (v := .tuple #[.slice (some ⟨g3, 0, none⟩) (L.length + 1) c3, .int .i64 0]) (by simp [results, Try.results238, go_sem]) rfl ⟨.inl ⟨_, _, ?_, rfl, HO3.out⟩, HB3.out⟩
          rw [HE.out, HX.out A1]
        · have hcb2 : nb < cb := by omega
          go_wp2_with (first
            | (go_at_call 267; refine HC.out.mono ?_; rintro e w1 ⟨A1, rfl, hmine, hb1⟩; obtain ⟨g3, c3, w3, hr3, ho3, hb3⟩ := HNXT.out w1 A1 hmine hb1; rw [HTK.out] at hr3; (have HO3 := Lib.hid ho3; have HB3 := Lib.hid (HBW.out.trans ((hb1.mono HBW.out.size).trans hb3)); clear hmine hb1 ho3 hb3))
            | (at_builtin; refine wpList_run rfl (.tmp 32) (.tmp 37) 22 rfl (.slice Av L.length cv) (.slice (some ⟨w1.heap.size, 0, none⟩) 1 1) (by rfl) (by rfl) hr3 ?_))
          simp only [Exit.jump]
          refine bodyPost_ret (v := .tuple #[.slice (some ⟨g3, 0, none⟩) (L.length + 1) c3, .int .i64 0]) (by simp [results, Try.results238, go_sem]) rfl ⟨.inl ⟨_, _, ?_, rfl, HO3.out⟩, HB3.out⟩
          rw [HE.out, HX.out A1]
end Go.Proofs.Ytfgjlhklioijmaa
