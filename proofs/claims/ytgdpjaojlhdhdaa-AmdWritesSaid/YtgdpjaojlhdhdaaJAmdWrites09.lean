/-
  Whether two packets of umd are equal, as the code and the document say. Which packets of amd may be, and how many bytes they are: Size and Right. A packet's bytes. A head of amd is put bit by bit. Bytes cut into fields: plain lists. Bytes cut into fields of a call's own.
-/
import Derived.Test.YtgdpjaojlhdhdaaJAmdWrites07
import Derived.StillTailTactics
import Derived.Test.YtgdpjaojlhdhdaaJAmdWrites08
import Derived.Deep.RegionHeld3
import Derived.Test.YtgdpjaojlhdhdaaJAmdWrites02
import Derived.Test.YtgdpjaojlhdhdaaJAmdWrites03
import Derived.Test.YtgdpjaojlhdhdaaJAmdWrites04
namespace Go.Proofs.Ytgdpjaojlhdhdaa
open Go.RowKit
def SameAns (b : Bool) (w : World) (e : Ending) (w' : World) : Prop := e = .returned (.bool b) ∧ Below w.heap.size w w'
set_option maxRecDepth 100000 in
set_option maxHeartbeats 1600000 in
theorem samef_any {A B : Option Addr} {L M : List RowB} (n m cap capb : Nat) (w : World) (hL : L.length = n) (hM : M.length = m) (hn : n ≤ 9223372036854775807) (hs : RSrc w A L) (hs' : RSrc w B M) :
    Calls Try.prog 79 #[.slice A n cap, .slice B m capb] w (SameAns (decide (texts L = texts M)) w) := by
  by_cases h : n = m
  · subst h
    have HS := Lib.hid hs
    have HS2 := Lib.hid hs'
    have HL := Lib.hid hL
    have HM := Lib.hid hM
    have hnn : ((n : Int) != (n : Int)) = false := by simp
    clear hs hs' hL hM
    go_enter Try.func79, Try.ntmps79
    go_wp2
    go_loopw [5] (fun i wr => ∃ k : Nat, k ≤ n ∧ i = .int .i64 k ∧ Hid (sameTo (texts L) (texts M) k) ∧ Hid (Below w.heap.size w wr)) (fun i _ => n - (intOf i).toNat)
    case atStart => exact ⟨0, by omega, rfl, Lib.hid (fun j hj => by omega), Lib.hid (Below.refl _ _)⟩
    case round =>
      obtain ⟨k, hk, rfl, HK, HB⟩ := hrel
      by_cases hlt : k < n
      · obtain ⟨ad, rfl, hc⟩ := HS.out (by rw [HL.out]; omega)
        obtain ⟨bd, rfl, hc'⟩ := HS2.out (by rw [HM.out]; omega)
        obtain ⟨r, hr⟩ : ∃ r, L[k]? = some r := ⟨_, List.getElem?_eq_getElem (by rw [HL.out]; exact hlt)⟩
        obtain ⟨r', hr'⟩ : ∃ r, M[k]? = some r := ⟨_, List.getElem?_eq_getElem (by rw [HM.out]; exact hlt)⟩
        have hbd : Below w.heap.size w wr.drew := bl_drew HB.out
        have c1 : wr.drew.cell? (ad.add k) = some (.slice r.A r.bs.length r.cap) := cell_below hbd (hc k r hr).1
        have c2 : wr.drew.cell? (bd.add k) = some (.slice r'.A r'.bs.length r'.cap) := cell_below hbd (hc' k r' hr').1
        have ho := (hc k r hr).2.later hbd
        have ho' := (hc' k r' hr').2.later hbd
        have d1 := conv_src r.bs.length r.cap rfl ho.1 ho.2.2.2
        have d2 := conv_src r'.bs.length r'.cap rfl ho'.1 ho'.2.2.2
        have hq := strOf_beq ho.2.2.2 ho'.2.2.2
        have hstep : r.bs = r'.bs → sameTo (texts L) (texts M) (k + 1) := fun he j hj => by
          rcases Nat.lt_or_ge j k with h2 | h2
          · exact HK.out j h2
          · obtain rfl : j = k := by omega
            rw [texts_at hr, texts_at hr', he]
        have hdiff : r.bs ≠ r'.bs → texts L ≠ texts M := fun hd he => hd (by
          have h3 := texts_at hr
          rw [he, texts_at hr'] at h3
          injection h3 with h3
          exact h3.symm)
        have HST := Lib.hid hstep
        have HDF := Lib.hid hdiff
        have HBD := Lib.hid hbd
        clear hc hc' hr hr' ho ho' hstep hdiff hbd
        by_cases he : r.bs = r'.bs
        · have HE := Lib.hid he
          rw [decide_eq_true he] at hq
          have hq2 : ((strOf r.bs).toList != (strOf r'.bs).toList) = false := by rw [bne, hq]; rfl
          clear he
          generalize r.bs.length = n1 at *
          generalize r'.bs.length = n2 at *
          generalize strOf r.bs = s1 at *
          generalize strOf r'.bs = s2 at *
          go_wp2_with fail
          refine wp_region_still_lit (by kernel_rfl) (by kernel_rfl) ?_
          change wpStill _ _ wr.drew (fun b => _) _ _
          generalize wr.drew = w9 at c1 c2 d1 d2 ⊢
          repeat still_step
          refine wpStill_nil ?_
          go_wp2_with fail
          go_roundw
          case rel => exact ⟨k + 1, by omega, by go_num, Lib.hid (HST.out HE.out), HBD⟩
          case measure => simp [intOf]; omega
        · have HE := Lib.hid he
          rw [decide_eq_false he] at hq
          have hq2 : ((strOf r.bs).toList != (strOf r'.bs).toList) = true := by rw [bne, hq]; rfl
          clear he
          generalize r.bs.length = n1 at *
          generalize r'.bs.length = n2 at *
          generalize strOf r.bs = s1 at *
          generalize strOf r'.bs = s2 at *
          go_wp2_with fail
          refine wp_region_still_lit (by kernel_rfl) (by kernel_rfl) ?_
          change wpStill _ _ wr.drew (fun b => _) _ _
          generalize wr.drew = w9 at c1 c2 d1 d2 ⊢
          repeat still_step
          refine wpStill_nil ?_
          go_wp2_with fail
          go_ret
          exact ⟨by rw [decide_eq_false (HDF.out HE.out)]; rfl, HBD.out⟩
      · have hkn : k = n := by omega
        have HA := Lib.hid (show texts L = texts M from sameTo_all (by rw [length_texts, length_texts, HL.out, HM.out]) (by rw [length_texts, HL.out, ← hkn]; exact HK.out))
        clear hkn
        go_wp2
        go_ret
        exact ⟨by rw [decide_eq_true HA.out]; rfl, HB.out⟩
  · have HF := Lib.hid (show decide (texts L = texts M) = false from decide_eq_false fun h1 => h (by have := congrArg List.length h1; rw [length_texts, length_texts] at this; omega))
    have hnm : ((n : Int) != (m : Int)) = true := by simp; omega
    clear hL hM hs hs' h
    go_enter Try.func79, Try.ntmps79
    go_wp2
    go_ret
    exact ⟨by rw [HF.out]; rfl, Below.refl _ _⟩

end Go.Proofs.Ytgdpjaojlhdhdaa
namespace Go.Proofs.Ytgdpjaojlhdhdaa
open Go.RowKit

theorem headA_code {part : Bool} {wd : Int} (h : wd = 10 ∨ wd = 16) : 2 ≤ headA part wd ∧ headA part wd ≤ 5 := by
  unfold headA
  rcases h with rfl | rfl <;> cases part <;> decide
theorem placed_below (poll part last : Bool) (fi sn off wd : Int) (s : Value) (w : World) (hw : wd = 10 ∨ wd = 16) :
    Calls Try.prog 186 #[.agg #[.bool poll, .int .i64 fi, .int .i64 sn, .bool part, .bool last, .int .i64 off, s], .int .i64 wd] w fun e w' => e = .returned (.bool (placedA part last off wd)) ∧ Below w.heap.size w w' := by
  refine (placed_one poll part last fi sn off wd s w hw).mono ?_
  rintro e w' ⟨rfl, k, rfl⟩
  exact ⟨rfl, below_drewN (bl_alloc (Below.refl _ _) _) k⟩
theorem cells_amd {w w' : World} {g : Nat} {a b c d e f s : Value} (hr : Row w g 57 #[a, b, c, d, e, f, s]) (hb : Below w.heap.size w w') :
    w'.cell? ⟨g, 0, none⟩ = some a ∧ w'.cell? ⟨g, 1, none⟩ = some b ∧ w'.cell? ⟨g, 2, none⟩ = some c ∧ w'.cell? ⟨g, 3, none⟩ = some d ∧ w'.cell? ⟨g, 4, none⟩ = some e ∧ w'.cell? ⟨g, 5, none⟩ = some f ∧ w'.cell? ⟨g, 6, none⟩ = some s :=
  ⟨(hr.later hb).read rfl, (hr.later hb).read rfl, (hr.later hb).read rfl, (hr.later hb).read rfl, (hr.later hb).read rfl, (hr.later hb).read rfl, (hr.later hb).read rfl⟩
set_option maxRecDepth 100000 in
set_option maxHeartbeats 3200000 in
theorem asize_any {A : Option Addr} {L : List RowB} (poll part last : Bool) (fi sn off wd : Int) (n cap : Nat) (w : World) (hL : L.length = n) (hn : n ≤ 9223372036854775807) (hs : RSrc w A L) (hm : ∀ m ∈ lens L, m ≤ 9223372036854775807) :
    Calls Try.prog 41 #[.agg #[.bool poll, .int .i64 fi, .int .i64 sn, .bool part, .bool last, .int .i64 off, .slice A n cap], .int .i64 wd] w (fun e w' => e = .returned (.int .i64 (amdF part last fi sn off (lens L) wd)) ∧ Below w.heap.size w w') := by
  have HSH := Lib.hid (fun W => ahead_any part wd W)
  have HZ := Lib.hid (fun W (hb : Below w.heap.size w W) => fsize_any n cap (lwA wd) W hL hn (hs.later hb) hm)
  have hz : 0 ≤ szF (lens L) (lwA wd) ∧ szF (lens L) (lwA wd) ≤ 100000 := by
    rcases szF_pos (ls := lens L) (wd := lwA wd) with h | h <;> omega
  have HI := Lib.hid (fun W => sqis_any wd sn W)
  have HLE := Lib.hid (fun W => alen_any wd W)
  have hF : amdF part last fi sn off (lens L) wd = if (wd = 10 ∨ wd = 16) ∧ 0 ≤ fi ∧ fi ≤ 3 ∧ okn wd sn = true ∧ placedA part last off wd = true then (if szF (lens L) (lwA wd) = 0 ∨ 4000 < headA part wd + szF (lens L) (lwA wd) then 0 else headA part wd + szF (lens L) (lwA wd)) else 0 := by
    unfold amdF
    rw [fieldsF_code]
  generalize szF (lens L) (lwA wd) = z at *
  generalize amdF part last fi sn off (lens L) wd = F at *
  generalize lwA wd = lw at *
  obtain ⟨hz0, hz1⟩ := hz
  clear hs hm hL
  by_cases hw : wd = 10 ∨ wd = 16
  · obtain ⟨hd2, hd3⟩ := headA_code (part := part) hw
    have HPL := Lib.hid (fun W => placed_below poll part last fi sn off wd (.slice A n cap) W hw)
    have hF2 : F = if 0 ≤ fi ∧ fi ≤ 3 ∧ okn wd sn = true ∧ placedA part last off wd = true then (if z = 0 ∨ 4000 < headA part wd + z then 0 else headA part wd + z) else 0 := by
      rw [hF]
      by_cases h : 0 ≤ fi ∧ fi ≤ 3 ∧ okn wd sn = true ∧ placedA part last off wd = true
      · rw [if_pos ⟨hw, h⟩, if_pos h]
      · rw [if_neg (fun h2 => h h2.2), if_neg h]
    clear hF hw
    generalize headA part wd = hd at *
    generalize placedA part last off wd = pl at *
    have h0 : (hd == 0) = false := by simp; omega
    have HF2 := Lib.hid hF2
    clear hF2
    have ROW0 := Lib.hid (Row.made w 57 #[.bool poll, .int .i64 fi, .int .i64 sn, .bool part, .bool last, .int .i64 off, .slice A n cap])
    have HB0 := Lib.hid (bl_drew (bl_alloc (Below.refl w.heap.size w) (.cells #[.bool poll, .int .i64 fi, .int .i64 sn, .bool part, .bool last, .int .i64 off, .slice A n cap] 57)))
    have d0 : (w.alloc (.cells #[.bool poll, .int .i64 fi, .int .i64 sn, .bool part, .bool last, .int .i64 off, .slice A n cap] 57)).drew.cell? ⟨w.heap.size, 6, none⟩ = some (.slice A n cap) := ROW0.out.read (i := 6) rfl
    go_enter Try.func41, Try.ntmps41
    go_wp2_with (go_at_call 44; refine (HSH.out _).mono ?_; rintro e w1 ⟨rfl, rfl⟩)
    go_region_held3 (fun w' => w'.cell? ⟨w.heap.size, 6, none⟩ = some (.slice A n cap)) (first | assumption | go_keep) (first
      | (go_at_call 174; (with_reducible refine (HLE.out _).mono ?_); rintro e v1 ⟨rfl, rfl⟩)
      | (go_at_call 184; (with_reducible refine (HZ.out _ HB0.out).mono ?_); rintro e w2 ⟨rfl, hb2⟩; have k2 := (ROW0.out.later (bl_drew (Below.refl _ _))).later hb2; have c6 := k2.read (i := 6) rfl))
    obtain ⟨c0, c1, c2, c3, c4, c5, _⟩ := cells_amd k2 (Below.refl _ _)
    have HB2 := Lib.hid (HB0.out.trans (hb2.mono HB0.out.size))
    have K2 := Lib.hid k2
    clear hb2 k2
    rcases Decidable.em (z = 0) with hz2 | hz2
    · have HF := Lib.hid (show F = 0 by rw [HF2.out]; split <;> simp [hz2])
      subst hz2
      go_wp2
      go_ret
      exact ⟨ret_int (by rw [HF.out]), HB2.out⟩
    · have hz3 : (z == 0) = false := by simpa using hz2
      rcases Decidable.em (4000 < hd + z) with hz4 | hz4
      · have HF := Lib.hid (show F = 0 by rw [HF2.out]; split <;> simp [hz4])
        clear hz2
        go_wp2
        go_ret
        exact ⟨ret_int (by rw [HF.out]), HB2.out⟩
      · have HF3 := Lib.hid (show F = if 0 ≤ fi ∧ fi ≤ 3 ∧ okn wd sn = true ∧ pl = true then hd + z else 0 by
          rw [HF2.out, if_neg (show ¬ (z = 0 ∨ 4000 < hd + z) by omega)])
        clear hz2
        rcases Decidable.em (fi < 0) with hfi | hfi
        · have HF := Lib.hid (show F = 0 by rw [HF3.out, if_neg (by omega)])
          go_wp2
          go_ret
          exact ⟨ret_int (by rw [HF.out]), HB2.out⟩
        · rcases Decidable.em (3 < fi) with hfi2 | hfi2
          · have HF := Lib.hid (show F = 0 by rw [HF3.out, if_neg (by omega)])
            go_wp2
            go_ret
            exact ⟨ret_int (by rw [HF.out]), HB2.out⟩
          · cases hi : okn wd sn
            · have HF := Lib.hid (show F = 0 by rw [HF3.out, if_neg (by rw [hi]; simp)])
              rw [hi] at HI
              clear hi
              go_wp2_with (go_at_call 185; refine (HI.out _).mono ?_; rintro e w3 ⟨rfl, hb3⟩)
              go_ret
              exact ⟨ret_int (by rw [HF.out]), HB2.out.trans (hb3.mono HB2.out.size)⟩
            · cases pl
              · have HF := Lib.hid (show F = 0 by rw [HF3.out, if_neg (by simp)])
                rw [hi] at HI
                clear hi
                go_wp2_with (first
                  | (go_at_call 185; refine (HI.out _).mono ?_; rintro e w3 ⟨rfl, hb3⟩; obtain ⟨e0, e1, e2, e3, e4, e5, e6⟩ := cells_amd K2.out hb3; have HB3 := Lib.hid (HB2.out.trans (hb3.mono HB2.out.size)); clear hb3)
                  | (go_at_call 186; refine (HPL.out _).mono ?_; rintro e w4 ⟨rfl, hb4⟩))
                go_ret
                exact ⟨ret_int (by rw [HF.out]), HB3.out.trans (hb4.mono HB3.out.size)⟩
              · have HF := Lib.hid (show F = hd + z by rw [HF3.out, if_pos ⟨by omega, by omega, hi, rfl⟩])
                rw [hi] at HI
                clear hi
                go_wp2_with (first
                  | (go_at_call 185; refine (HI.out _).mono ?_; rintro e w3 ⟨rfl, hb3⟩; obtain ⟨e0, e1, e2, e3, e4, e5, e6⟩ := cells_amd K2.out hb3; have HB3 := Lib.hid (HB2.out.trans (hb3.mono HB2.out.size)); clear hb3)
                  | (go_at_call 186; refine (HPL.out _).mono ?_; rintro e w4 ⟨rfl, hb4⟩))
                go_ret
                exact ⟨ret_int (by rw [HF.out]), HB3.out.trans (hb4.mono HB3.out.size)⟩
  · have HF := Lib.hid (show F = 0 by rw [hF, if_neg (fun h => hw h.1)])
    have hh : headA part wd = 0 := by unfold headA; rw [if_neg (fun h => hw (.inl h)), if_neg (fun h => hw (.inr h))]
    rw [hh] at HSH
    clear hF hw hh
    go_enter Try.func41, Try.ntmps41
    go_wp2_with (go_at_call 44; refine (HSH.out _).mono ?_; rintro e w1 ⟨rfl, rfl⟩)
    go_ret
    exact ⟨ret_int (by rw [HF.out]), bl_alloc (Below.refl _ _) _⟩
set_option maxRecDepth 100000 in
set_option maxHeartbeats 800000 in
theorem aright_any {A : Option Addr} {L : List RowB} (poll part last : Bool) (fi sn off wd : Int) (n cap : Nat) (w : World) (hL : L.length = n) (hn : n ≤ 9223372036854775807) (hs : RSrc w A L) (hm : ∀ m ∈ lens L, m ≤ 9223372036854775807) :
    Calls Try.prog 42 #[.agg #[.bool poll, .int .i64 fi, .int .i64 sn, .bool part, .bool last, .int .i64 off, .slice A n cap], .int .i64 wd] w (fun e w' => e = .returned (.bool (decide (0 < amdF part last fi sn off (lens L) wd))) ∧ Below w.heap.size w w') := by
  have HZ := Lib.hid (fun W (hb : Below w.heap.size w W) => asize_any (A := A) poll part last fi sn off wd n cap W hL hn (hs.later hb) hm)
  generalize amdF part last fi sn off (lens L) wd = F at *
  clear hs hm hL
  go_enter Try.func42, Try.ntmps42
  go_wp2_with (go_at_call 41; refine (HZ.out _ (bl_alloc (Below.refl _ _) _)).mono ?_; rintro e w2 ⟨rfl, hb2⟩)
  go_ret
  exact ⟨rfl, (bl_alloc (Below.refl w.heap.size w) _).trans (hb2.mono (by simp))⟩
end Go.Proofs.Ytgdpjaojlhdhdaa
namespace Go.Proofs.Ytgdpjaojlhdhdaa
open Go.RowKit


theorem okn_true {b n : Int} (h : okn b n = true) : 0 ≤ n ∧ n < sz b := of_decide_eq_true h
theorem fwrite_at {A A0 : Option Addr} {L : List RowB} {lh : List Nat} (n cap n0 c0 wd : Nat) (wi : Int) (w : World) (e : wi = wd) (h : wd = 11 ∨ wd = 15) (hL : L.length = n) (hcap : n ≤ cap) (hcm : cap ≤ 9223372036854775807) (h1 : 1 ≤ n) (h24 : n ≤ 24) (hok : okTo (lens L) (lens L).length = true) (hs : RSrc w A L) (hh : Src w A0 (bts lh)) (hn0 : lh.length = n0) (hn1 : n0 ≤ 10) :
    Calls Try.prog 182 #[.slice A0 n0 c0, .slice A n cap, .int .i64 wi] w fun e w' => ∃ v', e = .returned v' ∧ OwnY w.heap.size w' v' (lh ++ tailF (lens L) wd ++ flat L) ∧ Below w.heap.size w w' := by
  subst e
  exact fwrite_any n cap n0 c0 wd w h hL hcap hcm h1 h24 hok hs hh hn0 hn1
theorem Row.under {w v : World} {B g : Nat} {t : TypeId} {cs : Array Value} (h : Row w g t cs) (hb : Below B w v) (hg : g < B) : Row v g t cs := (hb.block g hg).trans h
theorem put_step {B p : Nat} {bl : List Bool} {w : World} (v n : Nat) (vi ni : Int) (h : ∃ sv, WRep B w p sv bl) (e1 : vi = v) (e2 : ni = n) (hn : n ≤ 64) (hv : v < 2 ^ n) (hv2 : v < 18446744073709551616) (hl : bl.length + n ≤ 65536) :
    Calls Try.prog 269 #[.pointer (some ⟨p, 0, none⟩), .int .u64 vi, .int .i64 ni] w fun e w' => e = .returned (.int .i64 0) ∧ (∃ sv, WRep B w' p sv (bl ++ unval v n)) ∧ Below B w w' := by
  subst e1 e2
  obtain ⟨sv, h⟩ := h
  refine (put_any v n w h hn hv hl hv2).mono ?_
  rintro e w' ⟨rfl, sv', h1, _, h3⟩
  exact ⟨rfl, ⟨sv', h1⟩, wrote_below h h3⟩
set_option maxHeartbeats 400000 in
theorem ufollows_any (b : Bool) (w : World) : Calls Try.prog 270 #[.bool b] w fun e w' => e = .returned (.int .u64 b.toNat) ∧ w = w' := by
  cases b
  · go_enter Try.func270, Try.ntmps270
    go_wp2
    go_ret
    exact ⟨rfl, rfl⟩
  · go_enter Try.func270, Try.ntmps270
    go_wp2
    go_ret
    exact ⟨rfl, rfl⟩
/-- a head's bits -/
def headB (fi sn : Nat) (more : Bool) (wd : Nat) : List Bool := ((unval 0 (if wd = 10 then 3 else 0) ++ unval fi 2) ++ unval more.toNat 1) ++ unval sn wd
def umdBytes (fi sn : Nat) (L : List RowB) (wd : Nat) : List Nat := pack (headB fi sn (decide (1 < L.length)) wd) ++ tailF (lens L) 11 ++ flat L
theorem length_headB (fi sn : Nat) (more : Bool) (wd : Nat) : (headB fi sn more wd).length = (if wd = 10 then 3 else 0) + 3 + wd := by
  unfold headB
  rw [List.length_append, List.length_append, List.length_append, length_unval, length_unval, length_unval, length_unval]

set_option maxRecDepth 100000 in
set_option maxHeartbeats 800000 in
theorem uwrite_bad {A : Option Addr} {L : List RowB} (fi sn wd : Int) (n cap : Nat) (w : World) (hL : L.length = n) (hn : n ≤ 9223372036854775807) (hs : RSrc w A L) (hm : ∀ m ∈ lens L, m ≤ 9223372036854775807) (h : umdF fi sn (lens L) wd = 0) :
    Calls Try.prog 158 #[.agg #[.int .i64 fi, .int .i64 sn, .slice A n cap], .int .i64 wd] w fun e w' => e = .returned (.tuple #[.slice none 0 0, .int .i64 (if wd = 5 ∨ wd = 10 then 3 else 9)]) ∧ Below w.heap.size w w' := by
  have HSH := Lib.hid (fun W => shape_any wd W)
  have HR := Lib.hid (fun W (hb : Below w.heap.size w W) => (show Calls Try.prog 267 #[.agg #[.int .i64 fi, .int .i64 sn, .slice A n cap], .int .i64 wd] W fun e w' => e = .returned (.bool false) ∧ Below W.heap.size W w' from by
    have h1 := uright_any (A := A) fi sn wd n cap W hL hn (hs.later hb) hm
    rw [h] at h1
    exact h1))
  clear hs hm hL h
  by_cases hw : wd = 5 ∨ wd = 10
  · have hd : 1 ≤ (headN wd).1 := by rcases hw with rfl | rfl <;> decide
    have h0 : ((headN wd).1 == 0) = false := by simp; omega
    generalize (headN wd).1 = hd at *
    generalize (headN wd).2 = nz at *
    rw [if_pos hw]
    clear hw
    go_enter Try.func158, Try.ntmps158
    go_wp2_with (first
      | (go_at_call 160; refine (HSH.out _).mono ?_; rintro e w1 ⟨rfl, rfl⟩)
      | (go_at_call 267; refine (HR.out _ (bl_alloc (Below.refl _ _) _)).mono ?_; rintro e w2 ⟨rfl, hb2⟩))
    go_ret2
    exact ⟨rfl, (bl_alloc (Below.refl w.heap.size w) _).trans (hb2.mono (by simp))⟩
  · have hh : headN wd = (0, 0) := by unfold headN; rw [if_neg (fun h => hw (.inl h)), if_neg (fun h => hw (.inr h))]
    rw [hh] at HSH
    rw [if_neg hw]
    clear hw hh
    go_enter Try.func158, Try.ntmps158
    go_wp2_with (go_at_call 160; refine (HSH.out _).mono ?_; rintro e w1 ⟨rfl, rfl⟩)
    go_ret2
    exact ⟨rfl, bl_alloc (Below.refl w.heap.size w) _⟩

set_option maxRecDepth 100000 in
set_option maxHeartbeats 3200000 in
theorem uwrite_ok {A : Option Addr} {L : List RowB} (fi sn wd n cap : Nat) (w : World) (hL : L.length = n) (hcap : n ≤ cap) (hcm : cap ≤ 9223372036854775807) (hs : RSrc w A L) (hm : ∀ m ∈ lens L, m ≤ 9223372036854775807) (h : umdF fi sn (lens L) wd ≠ 0) :
    Calls Try.prog 158 #[.agg #[.int .i64 fi, .int .i64 sn, .slice A n cap], .int .i64 wd] w fun e w' => ∃ v', e = .returned (.tuple #[v', .int .i64 0]) ∧ OwnY w.heap.size w' v' (umdBytes fi sn L wd) ∧ Below w.heap.size w w' := by
  obtain ⟨hw, _, hfi, hsn, hl1, hl2, hok, _⟩ := umdF_pos h
  rw [length_lens, hL] at hl1 hl2
  have hsz : (sn : Int) < 2 ^ wd := by
    have h1 := (okn_true hsn).2
    unfold sz at h1
    rcases hw with h9 | h9
    · obtain rfl : wd = 5 := by omega
      exact h1
    · obtain rfl : wd = 10 := by omega
      exact h1
  have hsn2 : sn < 2 ^ wd := by
    have e : ((2 ^ wd : Nat) : Int) = (2 : Int) ^ wd := by rw [Int.natCast_pow]; rfl
    omega
  have hwd : wd = 5 ∨ wd = 10 := by omega
  have hsn3 : sn < 1024 := by rcases hwd with rfl | rfl <;> omega
  have HSH := Lib.hid (fun W => shape_any wd W)
  have hnz : (headN wd).2 = ((if wd = 10 then 3 else 0 : Nat) : Int) := by rcases hwd with rfl | rfl <;> rfl
  have hhd : 1 ≤ (headN wd).1 := by rcases hwd with rfl | rfl <;> decide
  have h0 : ((headN wd).1 == 0) = false := by simp; omega
  have HR := Lib.hid (fun W (hb : Below w.heap.size w W) => (show Calls Try.prog 267 #[.agg #[.int .i64 fi, .int .i64 sn, .slice A n cap], .int .i64 wd] W fun e w' => e = .returned (.bool true) ∧ Below W.heap.size W w' from by
    have h1 := uright_any (A := A) fi sn wd n cap W hL (by omega) (hs.later hb) hm
    rw [decide_eq_true (show 0 < umdF fi sn (lens L) wd by have := umdF_nonneg fi sn (lens L) wd; omega)] at h1
    exact h1))
  have HNEW := Lib.hid (fun W (hB : w.heap.size + 1 ≤ W.heap.size) => new_any (w.heap.size + 1) W hB)
  generalize hnzz : (if wd = 10 then 3 else 0 : Nat) = nz at *
  have hnz3 : nz ≤ 3 := by rw [← hnzz]; split <;> omega
  have hlen := length_headB fi sn (decide (1 < L.length)) wd
  rw [hnzz] at hlen
  have hpl : packLen (headB fi sn (decide (1 < L.length)) wd).length ≤ 10 := by rw [hlen]; unfold packLen; omega
  have HHB := Lib.hid (show ((unval 0 nz ++ unval fi 2) ++ unval (decide (1 < L.length)).toNat 1) ++ unval sn wd = headB fi sn (decide (1 < L.length)) wd by unfold headB; rw [hnzz])
  have HFW := Lib.hid (fun W A0 n0 c0 (hb : Below w.heap.size w W) hh hn0 => fwrite_at (A := A) (A0 := A0) (lh := pack (headB fi sn (decide (1 < L.length)) wd)) n cap n0 c0 11 11 W rfl (.inl rfl) hL hcap hcm hl1 hl2 hok (hs.later hb) hh hn0 (by rw [← hn0, length_pack]; exact hpl))
  have HP1 := Lib.hid (fun W p (hr : ∃ sv, WRep (w.heap.size + 1) W p sv []) => put_step (bl := []) 0 nz 0 nz hr rfl rfl (by omega) (Nat.two_pow_pos _) (by omega) (by simp; omega))
  have HP2 := Lib.hid (fun W p (hr : ∃ sv, WRep (w.heap.size + 1) W p sv ([] ++ unval 0 nz)) => put_step (bl := [] ++ unval 0 nz) fi 2 fi 2 hr rfl rfl (by omega) (by omega) (by omega) (by simp [length_unval]; omega))
  have HP3 := Lib.hid (fun W p (hr : ∃ sv, WRep (w.heap.size + 1) W p sv (([] ++ unval 0 nz) ++ unval fi 2)) => put_step (bl := ([] ++ unval 0 nz) ++ unval fi 2) (decide (1 < L.length)).toNat 1 (decide (1 < L.length)).toNat 1 hr rfl rfl (by omega) (by cases decide (1 < L.length) <;> decide) (by cases decide (1 < L.length) <;> decide) (by simp [length_unval]; omega))
  have HP4 := Lib.hid (fun W p (hr : ∃ sv, WRep (w.heap.size + 1) W p sv ((([] ++ unval 0 nz) ++ unval fi 2) ++ unval (decide (1 < L.length)).toNat 1)) => put_step (bl := (([] ++ unval 0 nz) ++ unval fi 2) ++ unval (decide (1 < L.length)).toNat 1) sn wd sn wd hr rfl rfl (by omega) hsn2 (by omega) (by simp [length_unval]; omega))
  have HMORE := Lib.hid (show decide ((1 : Int) < (n : Int)) = decide (1 < L.length) by apply decide_eq_decide.2; omega)
  have HBY := Lib.hid (fun W p (hr : ∃ sv, WRep (w.heap.size + 1) W p sv (headB fi sn (decide (1 < L.length)) wd)) => by
    obtain ⟨sv, hr⟩ := hr
    exact bytes_any hr (by rw [hlen]; omega))
  have hfw : IntKind.u64.wrap (fi : Int) = (fi : Int) := by rw [IntKind.wrap_u64]; omega
  have hsw : IntKind.u64.wrap (sn : Int) = (sn : Int) := by rw [IntKind.wrap_u64]; omega
  have HU := Lib.hid (show umdBytes fi sn L wd = pack (headB fi sn (decide (1 < L.length)) wd) ++ tailF (lens L) 11 ++ flat L from rfl)
  rw [hnz] at HSH
  generalize (headN wd).1 = hd at *
  generalize decide (1 < L.length) = more at *
  generalize hHB : headB fi sn more wd = bits at *
  generalize umdBytes fi sn L wd = out at *
  clear h hw hok hs hm hL hlen hnz hnzz hwd hsn hsz hsn2 hHB
  go_enter Try.func158, Try.ntmps158
  go_wp2_with (first
    | (go_at_call 160; refine (HSH.out _).mono ?_; rintro e w1 ⟨rfl, rfl⟩)
    | (go_at_call 267; refine (HR.out _ (bl_alloc (Below.refl _ _) _)).mono ?_; rintro e w2 ⟨rfl, hb2⟩; (have HROW := Lib.hid ((Row.made w 42 #[.int .i64 fi, .int .i64 sn, .slice A n cap]).later hb2); have HB2 := Lib.hid ((bl_alloc (Below.refl w.heap.size w) _).trans (hb2.mono (by simp))); have HZ2 := Lib.hid (show w.heap.size + 1 ≤ w2.heap.size by have := hb2.size; simp at this; omega); clear hb2))
    | (go_at_call 268; refine (HNEW.out w2 HZ2.out).mono ?_; rintro e w3 ⟨rfl, hr3, hb3⟩; (have HROW3 := Lib.hid (HROW.out.later hb3); have HR3 := Lib.hid (show ∃ sv, WRep (w.heap.size + 1) w3 w2.heap.size sv [] from ⟨_, hr3⟩); have HB3 := Lib.hid (HB2.out.trans (hb3.mono HB2.out.size)); clear hr3 hb3))
    | (go_at_call 269; (with_reducible refine (HP1.out w3 _ HR3.out).mono ?_); rintro e w4 ⟨rfl, hr4, hb4⟩; (have HROW4 := Lib.hid (HROW3.out.under hb4 (by omega)); have c4 := HROW4.out.read (i := 0) rfl; have HR4 := Lib.hid hr4; have HB4 := Lib.hid (HB3.out.trans (hb4.mono (by omega))); clear hr4 hb4))
    | (go_at_call 269; (with_reducible refine (HP2.out w4 _ HR4.out).mono ?_); rintro e w5 ⟨rfl, hr5, hb5⟩; (have HROW5 := Lib.hid (HROW4.out.under hb5 (by omega)); have c5 := HROW5.out.read (i := 2) rfl; have HR5 := Lib.hid hr5; have HB5 := Lib.hid (HB4.out.trans (hb5.mono (by omega))); clear hr5 hb5))
    | (go_at_call 270; (with_reducible refine (ufollows_any _ _).mono ?_); rintro e w6 ⟨rfl, rfl⟩; rw [HMORE.out])
    | (go_at_call 269; (with_reducible refine (HP3.out w5 _ HR5.out).mono ?_); rintro e w7 ⟨rfl, hr7, hb7⟩; (have HROW7 := Lib.hid (HROW5.out.under hb7 (by omega)); have c7 := HROW7.out.read (i := 1) rfl; have HR7 := Lib.hid hr7; have HB7 := Lib.hid (HB5.out.trans (hb7.mono (by omega))); clear hr7 hb7))
    | (go_at_call 269; (with_reducible refine (HP4.out w7 _ HR7.out).mono ?_); rintro e w8 ⟨rfl, hr8, hb8⟩; (have HROW8 := Lib.hid (HROW7.out.under hb8 (by omega)); have c8 := HROW8.out.read (i := 2) rfl; have HR8 := Lib.hid hr8; have HB8 := Lib.hid (HB7.out.trans (hb8.mono (by omega))); clear hr8 hb8)))
  have d8 : w8.drew.cell? ⟨w.heap.size, 2, none⟩ = some (.slice A n cap) := c8
  have HBY8 := Lib.hid (HBY.out w8.drew _ (by rw [← HHB.out]; obtain ⟨sv, h9⟩ := HR8.out; exact ⟨sv, h9.later (bl_drew (Below.refl _ _))⟩))
  have hpk := length_pack bits
  generalize packLen bits.length = k8 at *
  have HPK := Lib.hid hpk
  clear hpk
  go_region_held3 (fun w' => w'.cell? ⟨w.heap.size, 2, none⟩ = some (.slice A n cap)) (first | assumption | go_keep) (first
    | (go_at_call 271; (with_reducible refine HBY8.out.mono ?_); rintro e v1 ⟨g1, rfl, hg1, hr1, hv1⟩; have HW1 := Lib.hid (HB8.out.trans ((bl_step (bl_drew (Below.refl w8.heap.size w8)) hv1).mono HB8.out.size)); have HR1 := Lib.hid hr1; have k1 : v1.cell? ⟨w.heap.size, 2, none⟩ = some (.slice A n cap) := kept_box hv1 d8)
    | (go_at_call 182; (with_reducible refine (HFW.out _ _ _ _ HW1.out (row_src HR1.out) HPK.out).mono ?_); rintro e v2 ⟨x2, rfl, ho2, hv2⟩; obtain ⟨A2, c2, hx2, _⟩ := ho2.form; generalize (pack bits ++ tailF (lens L) 11 ++ flat L).length = n2 at hx2; subst hx2; have k2 : v2.cell? ⟨w.heap.size, 2, none⟩ = some (.slice A n cap) := kept_box hv2 k1; (have HO2 := Lib.hid ho2; have HW2 := Lib.hid (HW1.out.trans (hv2.mono HW1.out.size)))))
  go_wp2
  go_ret2
  exact ⟨_, rfl, by rw [HU.out]; exact HO2.out.down HW1.out.size, HW2.out⟩
end Go.Proofs.Ytgdpjaojlhdhdaa
namespace Go.Proofs.Ytgdpjaojlhdhdaa
open Go.RowKit

/-- what is put of a head, one number behind the other -/
def putsA (poll part last : Bool) (fi sn off : Nat) (more : Bool) (wd : Nat) : List (Nat × Nat) :=
  if wd = 10 then (if part then [(1, 1), (1, 1), (poll.toNat, 1), (fi, 2), (more.toNat, 1), (sn, 10), (last.toNat, 1), (off, 15)] else [(1, 1), (0, 1), (poll.toNat, 1), (fi, 2), (more.toNat, 1), (sn, 10)])
  else (if part then [(1, 1), (1, 1), (poll.toNat, 1), (fi, 2), (more.toNat, 1), (last.toNat, 1), (0, 1), (sn, 16), (off, 16)] else [(1, 1), (0, 1), (poll.toNat, 1), (fi, 2), (more.toNat, 1), (last.toNat, 1), (0, 1), (sn, 16)])
def headNA (part : Bool) (wd : Nat) : Nat := if wd = 10 then (if part then 4 else 2) else (if part then 5 else 3)
theorem len_putsA (poll part last : Bool) (fi sn off : Nat) (more : Bool) (wd : Nat) : (bitsP (putsA poll part last fi sn off more wd)).length = 8 * headNA part wd := by
  unfold putsA headNA
  by_cases h : wd = 10
  · rw [if_pos h, if_pos h]
    cases part <;> simp [bitsP, length_unval]
  · rw [if_neg h, if_neg h]
    cases part <;> simp [bitsP, length_unval]
/-- a writer in a cell that a closure holds, while numbers are put -/
structure WrSt (B : Nat) (w0 : World) (pr p : Nat) (kp : List (Nat × Nat)) (t : Nat) (w : World) : Prop where
  rep : ∃ sv, WRep B w p sv (bitsP kp)
  cell : Row w pr 323 #[.pointer (some ⟨p, 0, none⟩)]
  below : Below B w0 w
  size : B ≤ w.heap.size
  len : (bitsP kp).length = t
theorem bitsP_one (kp : List (Nat × Nat)) (v n : Nat) : bitsP (kp ++ [(v, n)]) = bitsP kp ++ unval v n := bitsP_snoc kp v n
set_option maxHeartbeats 800000 in
theorem put_clos {B pr p t : Nat} {w : World} {kp : List (Nat × Nat)} (v n : Nat) (vi ni : Int) (e1 : vi = v) (e2 : ni = n) (hr : ∃ sv, WRep B w p sv (bitsP kp)) (hc : Row w pr 323 #[.pointer (some ⟨p, 0, none⟩)]) (hl : (bitsP kp).length = t) (ht : t + n ≤ 65536) (hn : n ≤ 64) (hv : v < 2 ^ n) (hv2 : v < 9223372036854775808) :
    Calls Try.prog 288 #[.int .i64 vi, .int .i64 ni, .pointer (some ⟨pr, 0, none⟩)] w fun e w' => e = .returned (.tuple #[]) ∧ (∃ sv, WRep B w' p sv (bitsP (kp ++ [(v, n)]))) ∧ Row w' pr 323 #[.pointer (some ⟨p, 0, none⟩)] ∧ Below B w w' := by
  subst e1 e2
  obtain ⟨sv, hr⟩ := hr
  have HP := Lib.hid (put_any v n w hr hn hv (by rw [hl]; exact ht) (by omega))
  have c : w.cell? ⟨pr, 0, none⟩ = some (.pointer (some ⟨p, 0, none⟩)) := hc.read rfl
  have hw : IntKind.u64.wrap (v : Int) = (v : Int) := by rw [IntKind.wrap_u64]; omega
  have HS := Lib.hid (bitsP_one kp v n)
  have HR := Lib.hid hr
  have HC := Lib.hid hc
  clear hr hc hl hv
  go_enter Try.func288, Try.ntmps288
  go_wp2_with (go_at_call 269; refine HP.out.mono ?_; rintro e w1 ⟨rfl, sv', h1, h2, h3⟩)
  refine bodyPost_end (results_none rfl _ _ _) rfl ?_
  refine ⟨rfl, ⟨sv', by rw [HS.out]; exact h1⟩, HC.out.only h3 (fun h => ?_), wrote_below HR.out h3⟩
  rcases h with h | h
  · exact HC.out.apart HR.out.2.1 (by decide) h
  · exact own_apart HR.out.2.2 HC.out (by decide) h
theorem WrSt.put {B pr p t : Nat} {w0 w : World} {kp : List (Nat × Nat)} (h : WrSt B w0 pr p kp t w) (v n : Nat) (vi ni : Int) (e1 : vi = v) (e2 : ni = n) (hn : n ≤ 64) (hv : v < 2 ^ n) (hv2 : v < 9223372036854775808) (ht : t + n ≤ 1000) :
    Calls Try.prog 288 #[.int .i64 vi, .int .i64 ni, .pointer (some ⟨pr, 0, none⟩)] w fun e w' => e = .returned (.tuple #[]) ∧ WrSt B w0 pr p (kp ++ [(v, n)]) (t + n) w' := by
  refine (put_clos v n vi ni e1 e2 h.rep h.cell h.len (by omega) hn hv hv2).mono ?_
  rintro e w' ⟨rfl, h1, h2, h3⟩
  exact ⟨rfl, h1, h2, h.below.trans h3, Nat.le_trans h.size h3.size, by rw [bitsP_one, List.length_append, length_unval, h.len]⟩
theorem cells_und {w w' : World} {B g : Nat} {a b c d e f s : Value} (hr : Row w g 57 #[a, b, c, d, e, f, s]) (hb : Below B w w') (hg : g < B) :
    w'.cell? ⟨g, 0, none⟩ = some a ∧ w'.cell? ⟨g, 1, none⟩ = some b ∧ w'.cell? ⟨g, 2, none⟩ = some c ∧ w'.cell? ⟨g, 3, none⟩ = some d ∧ w'.cell? ⟨g, 4, none⟩ = some e ∧ w'.cell? ⟨g, 5, none⟩ = some f ∧ w'.cell? ⟨g, 6, none⟩ = some s :=
  ⟨(hr.under hb hg).read rfl, (hr.under hb hg).read rfl, (hr.under hb hg).read rfl, (hr.under hb hg).read rfl, (hr.under hb hg).read rfl, (hr.under hb hg).read rfl, (hr.under hb hg).read rfl⟩
theorem bool_lt (b : Bool) : b.toNat < 2 ^ 1 ∧ b.toNat < 9223372036854775808 := by cases b <;> decide
end Go.Proofs.Ytgdpjaojlhdhdaa
namespace Go.Proofs.Ytgdpjaojlhdhdaa


/-- bytes cut into fields of these lengths, and a last one of what is left -/
def cutF : List Nat → List Nat → Option (List (List Nat))
  | bs, [] => if bs = [] then none else some [bs]
  | bs, m :: r => if m ≤ bs.length then (cutF (bs.drop m) r).map (bs.take m :: ·) else none
/-- behind fields that were cut the rest comes to what all comes to -/
def CInv (bs ls : List Nat) (acc : List (List Nat)) (c : Nat) : Prop := acc.length ≤ ls.length ∧ c ≤ bs.length ∧ cutF bs ls = (cutF (bs.drop c) (ls.drop acc.length)).map (acc ++ ·)
theorem CInv.start (bs ls : List Nat) : CInv bs ls [] 0 := ⟨Nat.zero_le _, Nat.zero_le _, by
  simp only [List.length_nil, List.drop_zero, List.nil_append]
  cases cutF bs ls <;> rfl⟩
section
variable {bs ls : List Nat} {acc : List (List Nat)} {c m : Nat}
theorem CInv.short (h : CInv bs ls acc c) (hm : ls[acc.length]? = some m) (h2 : bs.length - c < m) : cutF bs ls = none := by
  obtain ⟨h0, h1, h⟩ := h
  obtain ⟨hk, rfl⟩ := List.getElem?_eq_some_iff.1 hm
  rw [h, List.drop_eq_getElem_cons hk, cutF, if_neg (by rw [List.length_drop]; omega)]
  rfl
theorem CInv.next (h : CInv bs ls acc c) (hm : ls[acc.length]? = some m) (h2 : m ≤ bs.length - c) : CInv bs ls (acc ++ [(bs.drop c).take m]) (c + m) := by
  obtain ⟨h0, h1, h⟩ := h
  obtain ⟨hk, rfl⟩ := List.getElem?_eq_some_iff.1 hm
  refine ⟨by simp; omega, by omega, ?_⟩
  rw [h, List.drop_eq_getElem_cons hk, cutF, if_pos (by rw [List.length_drop]; omega), List.drop_drop, List.length_append, List.length_singleton]
  cases cutF (bs.drop (c + ls[acc.length])) (ls.drop (acc.length + 1)) <;> simp
theorem CInv.last_short (h : CInv bs ls acc c) (hm : acc.length = ls.length) (h2 : bs.length - c = 0) : cutF bs ls = none := by
  obtain ⟨h0, h1, h⟩ := h
  have h3 : bs.drop c = [] := List.eq_nil_of_length_eq_zero (by rw [List.length_drop]; exact h2)
  rw [h, List.drop_of_length_le (l := ls) (by omega), h3]
  rfl
theorem CInv.last (h : CInv bs ls acc c) (hm : acc.length = ls.length) (h2 : bs.length - c ≠ 0) : cutF bs ls = some (acc ++ [bs.drop c]) := by
  obtain ⟨h0, h1, h⟩ := h
  have h3 : bs.drop c ≠ [] := fun e => h2 (by rw [← List.length_drop, e]; rfl)
  have h4 : cutF (bs.drop c) [] = some [bs.drop c] := by unfold cutF; rw [if_neg h3]
  rw [h, List.drop_of_length_le (l := ls) (by omega), h4]
  rfl
end
theorem cutF_ok : ∀ {ls bs : List Nat} {t : List (List Nat)}, cutF bs ls = some t → t.flatten = bs ∧ t.length = ls.length + 1 ∧ (t.map List.length).take ls.length = ls ∧ ∃ x, t.getLast? = some x ∧ x ≠ []
  | [], bs, t, h => by
    unfold cutF at h
    split at h
    · cases h
    · injection h with h
      subst h
      refine ⟨by simp, by simp, by simp, bs, rfl, by assumption⟩
  | m :: r, bs, t, h => by
    unfold cutF at h
    split at h
    · rename_i hm
      rw [Option.map_eq_some_iff] at h
      obtain ⟨t', h1, rfl⟩ := h
      obtain ⟨a1, a2, a3, x, a4, a5⟩ := cutF_ok h1
      refine ⟨by rw [List.flatten_cons, a1, List.take_append_drop], by simp [a2], ?_, x, ?_, a5⟩
      · rw [List.map_cons, List.length_take, Nat.min_eq_left hm, List.length_cons, List.take_succ_cons, a3]
      · cases t' with
        | nil => simp at a4
        | cons y z => rw [List.getLast?_cons_cons]; exact a4
    · cases h
theorem cutF_back : ∀ (t : List (List Nat)), t ≠ [] → (∀ x, t.getLast? = some x → x ≠ []) → cutF t.flatten ((t.map List.length).take (t.length - 1)) = some t
  | [], h, _ => absurd rfl h
  | [x], _, h => by
    have hx := h x rfl
    simp [cutF, hx]
  | x :: y :: r, _, h => by
    have ih := cutF_back (y :: r) (by simp) (fun z hz => h z (by rw [List.getLast?_cons_cons]; exact hz))
    have e : ((x :: y :: r).map List.length).take ((x :: y :: r).length - 1) = x.length :: ((y :: r).map List.length).take ((y :: r).length - 1) := by simp
    rw [e, cutF, List.flatten_cons, if_pos (by rw [List.length_append]; omega), List.drop_left, List.take_left, ih]
    rfl
/-- .. or why there are none -/
def ansOf : Option (List (List Nat)) → Int × List (List Nat)
  | some t => (0, t)
  | none => (8, [])
/-- the fields behind a head, or why there are none -/
def fldR (bs : List Nat) (more : Bool) (wd : Nat) : Int × List (List Nat) :=
  if more then
    if (readF bs wd).2.2 = 0 then
      if (readF bs wd).1.any (fun x => decide (2047 < x)) then (3, [])
      else ansOf (cutF (bs.drop (readF bs wd).2.1) (readF bs wd).1)
    else ((readF bs wd).2.2, [])
  else ansOf (cutF bs [])
end Go.Proofs.Ytgdpjaojlhdhdaa
namespace Go.Proofs.Ytgdpjaojlhdhdaa
open Go.RowKit


/-- bytes in a block of the call's own -/
def RowB.mine (B : Nat) (w : World) (r : RowB) : Prop := (∃ g cs, r.A = some ⟨g, 0, none⟩ ∧ B ≤ g ∧ Row w g 5 cs ∧ ∀ (j b : Nat), r.bs[j]? = some b → cs[j]? = some (Value.int .u8 b)) ∧ r.bs.length ≤ r.cap ∧ r.cap ≤ 9223372036854775807 ∧ ∀ b ∈ r.bs, b < 256
theorem RowB.mine.ok {B : Nat} {w : World} {r : RowB} (h : r.mine B w) : r.ok w := by
  obtain ⟨⟨g, cs, h1, h2, h3, h4⟩, h5⟩ := h
  refine ⟨fun _ => ⟨_, h1, fun j u hu => ?_⟩, h5⟩
  rw [add_zero_addr]
  simp only [bts, List.getElem?_map, Option.map_eq_some_iff] at hu
  obtain ⟨b, hb, rfl⟩ := hu
  exact h3.read (h4 j b hb)
theorem RowB.mine.only {B : Nat} {w v : World} {r : RowB} {S : Nat → Prop} (h : r.mine B w) (ho : Only S w v) (hS : ∀ k cs, Row w k 5 cs → B ≤ k → ¬ S k) : r.mine B v := by
  obtain ⟨⟨g, cs, h1, h2, h3, h4⟩, h5⟩ := h
  exact ⟨⟨g, cs, h1, h2, h3.only ho (hS g cs h3 h2), h4⟩, h5⟩
theorem RowB.mine.down {B B' : Nat} {w : World} {r : RowB} (h : r.mine B w) (hb : B' ≤ B) : r.mine B' w := by
  obtain ⟨⟨g, cs, h1, h2, h3, h4⟩, h5⟩ := h
  exact ⟨⟨g, cs, h1, by omega, h3, h4⟩, h5⟩
theorem Try.info30 : (Try.prog.info? 30).map (fun i => (i.zero, i.size, i.bytes)) = some (some (.slice none 0 0), 1, 24) := by kernel_rfl
set_option maxRecDepth 100000 in
/-- one row more -/
theorem app_row {B n : Nat} {w : World} {v : Value} {xs : List Value} (h : w.ownsRow B 30 1 v n xs) (hB : B ≤ w.heap.size) (r : RowB) (hl : n ≤ 1000000) :
    ∃ g c w3, (Builtin.append_ #[40, 40] 40 #[v, .slice (some ⟨w.heap.size, 0, none⟩) 1 1]).run Try.prog (w.alloc (.cells #[.slice r.A r.bs.length r.cap] 30)) = .ok (.slice (some ⟨g, 0, none⟩) (n + 1) c) w3 ∧
      w3.ownsRow B 30 1 (.slice (some ⟨g, 0, none⟩) (n + 1) c) (n + 1) (xs ++ [r.v]) ∧ Only (fun k => v.ownBlock = some k) w w3 := by
  obtain ⟨i0, hi, hi0, hi1, hi2⟩ := info_parts Try.info30
  obtain ⟨g, cap, w3, hr3, h2, h3, _, _⟩ := run_append_lies (P := Try.prog) (w.alloc (.cells #[r.v] 30)) 40 40 B 30 i0 _ 1 24 Try.underlying40 hi hi0 hi1 hi2 rfl (by omega) v n _ (h.alloc _) ⟨w.heap.size, 0, none⟩ 1 1 [r.v] rfl
    (World.news_of_block (cs := #[r.v]) (heap_alloc_new w _)) (by intro u hu; simp at hu; rw [hu]; rfl) (by omega) (by unfold maxLen; omega) (by omega) (by simp; omega) _ rfl
  exact ⟨g, cap, w3, hr3, h2, ((Only.refl (fun k => v.ownBlock = some k) w).alloc (.cells #[r.v] 30)).grown h3 (fun k hk => .inl hk)⟩
/-- a list of rows of the call's own, while it grows -/
structure OwnR (B : Nat) (w : World) (v : Value) (L : List RowB) : Prop where
  own : w.ownsRow B 30 1 v L.length (L.map RowB.v)
  mine : ∀ r ∈ L, r.mine B w
section
variable {B : Nat} {w w' : World} {v : Value} {L : List RowB}
theorem OwnR.only {S : Nat → Prop} (h : OwnR B w v L) (ho : Only S w w') (h1 : ∀ k, v.ownBlock = some k → ¬ S k) (h2 : ∀ k cs, Row w k 5 cs → B ≤ k → ¬ S k) : OwnR B w' v L :=
  ⟨own_only h.own ho h1, fun r hr => (h.mine r hr).only ho h2⟩
theorem OwnR.later (h : OwnR B w v L) (hb : Below w.heap.size w w') : OwnR B w' v L := h.only (S := fun _ => False) (.of_below hb) (fun _ _ h => h) (fun _ _ _ _ h => h)
theorem OwnR.form (h : OwnR B w v L) : ∃ A c, v = .slice A L.length c ∧ L.length ≤ c ∧ c ≤ 9223372036854775807 := by
  rcases h.own.2 with ⟨rfl, h0⟩ | ⟨g, cap, cur, rfl, _, _, h1, h2, _⟩
  · exact ⟨none, 0, by rw [h0], by omega, by omega⟩
  · exact ⟨_, cap, rfl, h1, by unfold maxLen at h2; exact h2⟩
theorem OwnR.src {A : Option Addr} {n c : Nat} (h : OwnR B w (.slice A n c) L) : RSrc w A L := by
  intro h0
  obtain ⟨g, cap, hv, _, _⟩ := h.own.form h0
  injection hv with h1 h2 h3
  subst h1
  refine ⟨_, rfl, fun k r hr => ⟨?_, (h.mine r (List.mem_of_getElem? hr)).ok⟩⟩
  exact h.own.cells (g := g) rfl k _ (by rw [List.getElem?_map, hr]; rfl)
theorem OwnR.next (h : OwnR B w v L) (hB : B ≤ w.heap.size) (r : RowB) (hr : r.mine B w) (hl : L.length ≤ 1000000) :
    ∃ g c w3, (Builtin.append_ #[40, 40] 40 #[v, .slice (some ⟨w.heap.size, 0, none⟩) 1 1]).run Try.prog (w.alloc (.cells #[.slice r.A r.bs.length r.cap] 30)) = .ok (.slice (some ⟨g, 0, none⟩) (L.length + 1) c) w3 ∧
      OwnR B w3 (.slice (some ⟨g, 0, none⟩) (L.length + 1) c) (L ++ [r]) ∧ Below B w w3 := by
  obtain ⟨g, c, w3, h1, h2, h3⟩ := app_row h.own hB r hl
  have hne : ∀ k cs, Row w k 5 cs → B ≤ k → ¬ v.ownBlock = some k := fun k cs hk _ => own_apart h.own hk (by decide)
  refine ⟨g, c, w3, h1, ⟨by rw [List.length_append, List.map_append]; exact h2, fun x hx => ?_⟩, own_only_below h.own h3 hB⟩
  rw [List.mem_append, List.mem_singleton] at hx
  rcases hx with hx | rfl
  · exact (h.mine x hx).only h3 hne
  · exact hr.only h3 hne
end
theorem make_rows (n : Nat) (h : n ≤ 1000) (w : World) :
    (Instr.makeSlice 40 (.int .i64 0) (.int .i64 ((n : Int) + 1))).run Try.prog w = .ok (.slice (some ⟨w.heap.size, 0, none⟩) 0 (n + 1)) (w.alloc (.cells (List.replicate (n + 1) (Value.slice none 0 0)).toArray 30)) := by
  obtain ⟨i, hi, hz, hs, hb⟩ := info_parts Try.info30
  have h := run_make (P := Try.prog) w 40 30 i _ Try.underlying40 hi hz .i64 .i64 0 ((n : Int) + 1) (Int.le_refl _) (by omega) (by rw [hb]; omega) (by omega)
  have e : madeCells #[Value.slice none 0 0] (n + 1) = (List.replicate (n + 1) (Value.slice none 0 0)).toArray := by
    apply Array.toList_inj.1
    rw [toList_madeCells_one]
  rw [h, hs, Nat.mul_one, show ((n : Int) + 1).toNat = n + 1 by omega, ← e]
  rfl
theorem own_rows (n : Nat) (h : n ≤ 1000) (w : World) (B : Nat) (hB : B ≤ w.heap.size) : OwnR B (w.alloc (.cells (List.replicate (n + 1) (Value.slice none 0 0)).toArray 30)) (.slice (some ⟨w.heap.size, 0, none⟩) 0 (n + 1)) [] :=
  ⟨⟨by simp, .inr ⟨w.heap.size, n + 1, _, rfl, hB, heap_alloc_new _ _, Nat.zero_le _, by unfold maxLen; omega, by simp, by simp⟩⟩, fun r hr => by cases hr⟩

set_option maxRecDepth 100000 in
set_option maxHeartbeats 400000 in
theorem copied_f {A : Option Addr} {l : List Nat} (B n c : Nat) (w : World) (hn : l.length = n) (h0 : 0 < n) (hm : n ≤ 1000000) (hs : Src w A (bts l)) (hb : ∀ b ∈ l, b < 256) (hB : B ≤ w.heap.size) :
    Calls Try.prog 305 #[.slice A n c] w fun e w' => ∃ A', e = .returned (.slice A' n n) ∧ RowB.mine B w' ⟨A', n, l⟩ ∧ Below B w w' := by
  obtain ⟨A', c', W', hrun, hown, hbl, _, _⟩ := app_bytes (B := B) (l := []) (v := .slice none 0 0) n c (World.ownsRow_nil _ _ _ _) hB hs hn (by simp; omega)
  simp only [List.length_nil, Nat.zero_add, List.nil_append] at hrun hown
  rcases hown.2 with ⟨h1, h2⟩ | ⟨g, cap, cur, h1, hBg, hh, hnc, hcm, hsz, htk⟩
  · omega
  · injection h1 with e1 e2 e3
    subst e1 e2 e3
    have HM := Lib.hid (show RowB.mine B W' ⟨some ⟨g, 0, none⟩, l.length, l⟩ from ⟨⟨g, cur, rfl, hBg, hh, fun j b hj => by
      have h9 := bts_at hj
      rw [← htk, List.getElem?_take] at h9
      split at h9
      · simpa using h9
      · cases h9⟩, Nat.le_refl _, by show l.length ≤ _; omega, hb⟩)
    have HBL := Lib.hid hbl
    unfold maxLen at hcm
    clear hs hb hown hh htk hsz hbl
    clear hn
    generalize l.length = n at *
    go_enter Try.func305, Try.ntmps305
    go_wp2_with (at_builtin; refine wpList_run rfl (.const (.slice none 0 0)) (.tmp 4) 30 rfl (.slice none 0 0) (.slice A n c) (by rfl) (by rfl) hrun ?_)
    go_ret
    exact ⟨_, rfl, HM.out, HBL.out⟩
end Go.Proofs.Ytgdpjaojlhdhdaa
