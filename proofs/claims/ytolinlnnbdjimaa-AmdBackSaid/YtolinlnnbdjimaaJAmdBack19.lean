/-
  AmdBack: a packet that may be: the law walked; the whole law. AmdBack: the law walked, for every argument. A law's row follows from its walk: the call returns true, and below the heap's old size the world is as it was; then every argument reads as it did. How the packets and bytes that a statement draws read. How the packets of amd that a statement draws read.
-/
import Derived.Test.YtolinlnnbdjimaaJAmdBack18
import Derived.Deep.RegionHeld3
import Derived.Test.YtolinlnnbdjimaaRows
import Derived.WalkKit
import Derived.ProofKit
import Derived.OpenShut
import Derived.Test.YtolinlnnbdjimaaJAmdBack07
import Derived.SizedLaws
import Derived.Deep.Matrix
import Derived.Lib.SmallJoins
namespace Go.Proofs.Ytolinlnnbdjimaa
open Go.RowKit


theorem amd_small {W : World} {A : Option Addr} {L : List RowB} (h : RSrc W A L) (poll part last : Bool) (fi sn off wd : Nat) : ∀ b ∈ amdBytes poll part last fi sn off L wd, b < 256 := by
  intro b hb
  unfold amdBytes at hb
  rw [List.mem_append, List.mem_append] at hb
  rcases hb with (hb | hb) | hb
  · exact pack_small _ b hb
  · exact tail_small _ _ b hb
  · unfold flat texts at hb
    rw [List.mem_flatten] at hb
    obtain ⟨l, hl, hb⟩ := hb
    rw [List.mem_map] at hl
    obtain ⟨r, hr, rfl⟩ := hl
    obtain ⟨k, hk⟩ := List.getElem?_of_mem hr
    obtain ⟨ad, _, hc⟩ := h (by have := (List.getElem?_eq_some_iff.1 hk).1; omega)
    exact (hc k r hk).2.2.2.2 b hb

theorem rd_backA {W w : World} {A A1 : Option Addr} {n1 c1 BB a b' off d : Nat} {poll part last : Bool} {L : List RowB} (ho : OwnY BB W (.slice A1 n1 c1) (amdBytes poll part last a b' off L d)) (hn1 : (amdBytes poll part last a b' off L d).length = n1) (hs : RSrc w A L) (hw : amdF part last a b' off (lens L) d ≠ 0) :
    Calls Try.prog 33 #[.slice A1 n1 c1, .int .i64 d] W fun e w' => ∃ (M : List RowB) (A : Option Addr) (c : Nat), texts L = texts M ∧ e = .returned (.tuple #[.agg #[.bool poll, .int .i64 a, .int .i64 b', .bool part, .bool last, .int .i64 off, .slice A M.length c], .int .i64 0]) ∧ OwnR W.heap.size w' (.slice A M.length c) M ∧ M.length ≤ c ∧ c ≤ 9223372036854775807 ∧ Below W.heap.size W w' := by
  obtain ⟨A', c', e, g1, g2⟩ := ho.form
  injection e with e1 e2 e3
  subst e1
  subst e3
  unfold maxLen at g2
  have hlen := amd_len (poll := poll) hw
  have hbig := amdF_big part last a b' off (lens L) d
  have hst : BackStA W A1 n1 c1 (amdBytes poll part last a b' off L d) d := ⟨hn1, by omega, by omega, by omega, ho.src, amd_small hs poll part last a b' off d⟩
  exact hst.good rfl (amd_back hw) W (Below.refl _ _)

set_option maxRecDepth 100000 in
set_option maxHeartbeats 6400000 in
theorem aback_ok {A B : Option Addr} {L : List RowB} {bs : List Nat} (poll part last : Bool) (a b' off d n cap nb cb : Nat) (w : World) (hL : L.length = n) (hcap : n ≤ cap) (hcm : cap ≤ 9223372036854775807) (hs : RSrc w A L) (hm : ∀ m ∈ lens L, m ≤ 9223372036854775807) (hB : BackStA w B nb cb bs d)
    (hw : amdF part last a b' off (lens L) d ≠ 0) :
    Calls Try.prog 6 #[.agg #[.bool poll, .int .i64 a, .int .i64 b', .bool part, .bool last, .int .i64 off, .slice A n cap], .slice B nb cb, .int .i64 d] w fun e w' => e = .returned (.bool true) ∧ Below w.heap.size w w' := by
  have hn9 : n ≤ 9223372036854775807 := by omega
  have HGR := Lib.hid (great_any n cap (w.alloc (.cells #[.bool poll, .int .i64 a, .int .i64 b', .bool part, .bool last, .int .i64 off, .slice A n cap] 32)) hL hn9 (hs.later (bl_alloc (Below.refl _ _) _)) hm)
  have hb41 : ¬ (4100 : Int) < nb := by have := hB.small; omega
  have hlen := amd_len (poll := poll) hw
  have hbig := amdF_big part last a b' off (lens L) d
  obtain ⟨n1, hn1⟩ : ∃ n1, (amdBytes poll part last a b' off L d).length = n1 := ⟨_, rfl⟩
  have HWP := Lib.hid (fun W (hb : Below w.heap.size w W) => (show Calls Try.prog 23 #[.agg #[.bool poll, .int .i64 a, .int .i64 b', .bool part, .bool last, .int .i64 off, .slice A n cap], .int .i64 d] W fun e w' => ∃ (A1 : Option Addr) (c1 : Nat), e = .returned (.tuple #[.slice A1 n1 c1, .int .i64 0]) ∧ OwnY W.heap.size w' (.slice A1 n1 c1) (amdBytes poll part last a b' off L d) ∧ Below W.heap.size W w' from (awrite_ok poll part last a b' off d n cap W hL hcap hcm (hs.later hb) hm hw).mono fun e w' h => by
    obtain ⟨v, rfl, ho, hbl⟩ := h
    obtain ⟨A1, c1, rfl, _⟩ := ho.form
    rw [hn1] at ho ⊢
    exact ⟨A1, c1, rfl, ho, hbl⟩))
  have HRX := Lib.hid (fun W A1 c1 BB (ho : OwnY BB W (.slice A1 n1 c1) (amdBytes poll part last a b' off L d)) => rd_backA ho hn1 hs hw)
  have HSZ := Lib.hid (fun W (hb : Below w.heap.size w W) => (show Calls Try.prog 24 #[.agg #[.bool poll, .int .i64 a, .int .i64 b', .bool part, .bool last, .int .i64 off, .slice A n cap], .int .i64 d] W fun e w' => e = .returned (.int .i64 (n1 : Int)) ∧ Below W.heap.size W w' from by
    have h1 := asize_any (A := A) poll part last a b' off d n cap W hL hn9 (hs.later hb) hm
    rw [← hlen, hn1] at h1
    exact h1))
  have hnn : ((n1 : Int) != (n1 : Int)) = false := by simp
  have HBS := Lib.hid hB
  have HS := Lib.hid hs
  have HL := Lib.hid hL
  clear hs hL hm hw hB hlen hbig hn1
  by_cases hg : ∃ (qp qt ql : Bool) (q0 q1 q2 : Nat) (t : List (List Nat)), amdRd bs d = (0, ⟨qp, qt, ql, q0, q1, q2⟩, t)
  · obtain ⟨qp, qt, ql, q0, q1, q2, t, hr⟩ := hg
    have HRB := Lib.hid (fun W hb => HBS.out.good rfl hr W hb)
    have HR := Lib.hid hr
    clear hr
    have HWB := Lib.hid (fun W A L c (ht : t = texts L) (hs : RSrc W A L) (hc : L.length ≤ c) (hcm : c ≤ 9223372036854775807) => (write_backA (W := W) c HBS.out.bytes (by rw [← ht]; exact HR.out) hs hc hcm).1)
    have HRT := Lib.hid (fun W A L c (ht : t = texts L) (hs : RSrc W A L) (hc : L.length ≤ c) (hcm : c ≤ 9223372036854775807) => (write_backA (W := W) c HBS.out.bytes (by rw [← ht]; exact HR.out) hs hc hcm).2)
    go_enter Try.func6, Try.ntmps6
    go_wp2_with (go_at_call 19; refine HGR.out.mono ?_; rintro e w1 ⟨⟨b, rfl, hbb⟩, rfl⟩; cases b)
    · clear hbb
      go_wp2_with (first
        | (go_at_call 23; (with_reducible refine (HWP.out _ (bl_alloc (Below.refl _ _) _)).mono ?_); rintro e w1 ⟨A1, c1, rfl, ho1, hb1⟩; (have HB1 := Lib.hid (bl_step (bl_alloc (Below.refl w.heap.size w) _) hb1); have ROW1 := Lib.hid ((Row.made w 32 #[.bool poll, .int .i64 a, .int .i64 b', .bool part, .bool last, .int .i64 off, .slice A n cap]).later hb1); have HRX1 := Lib.hid (HRX.out w1 A1 c1 _ ho1); clear hb1 ho1))
        | (go_at_call 33; (with_reducible refine HRX1.out.mono ?_); rintro e w2 ⟨L2, A2, c2, ht2, rfl, ho2, hl2, hc2, hb2⟩; (have HB2 := Lib.hid (HB1.out.trans (hb2.mono HB1.out.size)); have ROW2 := Lib.hid ((ROW1.out.later hb2).more (.cells #[.bool poll, .int .i64 a, .int .i64 b', .bool part, .bool last, .int .i64 off, .slice A2 L2.length c2] 32)); have HO2 := Lib.hid ho2; have HT2 := Lib.hid ht2; clear hb2 ho2 ht2)))
      have ROWQ := Lib.hid (Row.made w2 32 #[.bool poll, .int .i64 a, .int .i64 b', .bool part, .bool last, .int .i64 off, .slice A2 L2.length c2])
      have HBQ := Lib.hid (bl_alloc HB2.out (.cells #[.bool poll, .int .i64 a, .int .i64 b', .bool part, .bool last, .int .i64 off, .slice A2 L2.length c2] 32))
      have HOQ := Lib.hid (HO2.out.later (bl_alloc (Below.refl _ _) (.cells #[.bool poll, .int .i64 a, .int .i64 b', .bool part, .bool last, .int .i64 off, .slice A2 L2.length c2] 32)))
      generalize hwq : w2.alloc (.cells #[.bool poll, .int .i64 a, .int .i64 b', .bool part, .bool last, .int .i64 off, .slice A2 L2.length c2] 32) = wq at *
      clear hwq
      have kq := keep14 ROW2.out ROWQ.out (bl_drew (Below.refl wq.heap.size wq))
      have HASP := Lib.hid (fun W => aas_any poll part last a b' off A n cap W)
      have HASQ := Lib.hid (fun W => aas_any poll part last a b' off A2 L2.length c2 W)
      have HSM := Lib.hid (fun W (hb : Below wq.heap.size wq W) => (show Calls Try.prog 27 #[.agg #[.bool poll, .int .i64 a, .int .i64 b', .bool part, .bool last, .int .i64 off, .slice A n cap], .agg #[.bool poll, .int .i64 a, .int .i64 b', .bool part, .bool last, .int .i64 off, .slice A2 L2.length c2]] W fun e w' => e = .returned (.bool true) ∧ Below W.heap.size W w' from by
        have h1 := rasame_any (A := A) (B := A2) poll part last a b' off poll part last a b' off n L2.length cap c2 W HL.out rfl hn9 (HS.out.later (HBQ.out.trans (hb.mono HBQ.out.size))) ((HOQ.out.later hb).src)
        rw [← HT2.out, eqA_self] at h1
        exact h1))
      go_wp2_with fail
      go_region_held3 (fun w' => w'.cell? ⟨w.heap.size, 0, none⟩ = some (.bool poll) ∧ w'.cell? ⟨w.heap.size, 1, none⟩ = some (.int .i64 a) ∧ w'.cell? ⟨w.heap.size, 2, none⟩ = some (.int .i64 b') ∧ w'.cell? ⟨w.heap.size, 3, none⟩ = some (.bool part) ∧ w'.cell? ⟨w.heap.size, 4, none⟩ = some (.bool last) ∧ w'.cell? ⟨w.heap.size, 5, none⟩ = some (.int .i64 off) ∧ w'.cell? ⟨w.heap.size, 6, none⟩ = some (.slice A n cap) ∧ w'.cell? ⟨w2.heap.size, 0, none⟩ = some (.bool poll) ∧ w'.cell? ⟨w2.heap.size, 1, none⟩ = some (.int .i64 a) ∧ w'.cell? ⟨w2.heap.size, 2, none⟩ = some (.int .i64 b') ∧ w'.cell? ⟨w2.heap.size, 3, none⟩ = some (.bool part) ∧ w'.cell? ⟨w2.heap.size, 4, none⟩ = some (.bool last) ∧ w'.cell? ⟨w2.heap.size, 5, none⟩ = some (.int .i64 off) ∧ w'.cell? ⟨w2.heap.size, 6, none⟩ = some (.slice A2 L2.length c2)) (first | assumption | go_keep) (first
        | (go_at_call 22; (with_reducible refine (HASP.out _).mono ?_); rintro e v1 ⟨rfl, hv1⟩; have h01 := bl_step (bl_drew (Below.refl wq.heap.size wq)) hv1; have k1 := keep14 ROW2.out ROWQ.out h01; have H01 := Lib.hid h01)
        | (go_at_call 22; (with_reducible refine (HASQ.out _).mono ?_); rintro e v2 ⟨rfl, hv2⟩; have h02 := bl_step H01.out hv2; have k2 := keep14 ROW2.out ROWQ.out h02; have H02 := Lib.hid h02)
        | (go_at_call 27; (with_reducible refine (HSM.out _ H02.out).mono ?_); rintro e v3 ⟨rfl, hv3⟩; have h03 := bl_step H02.out hv3; have k3 := keep14 ROW2.out ROWQ.out h03; have H03 := Lib.hid h03; have HZ3 := Lib.hid (HSZ.out v3 (HBQ.out.trans (h03.mono HBQ.out.size))))
        | (go_at_call 24; (with_reducible refine HZ3.out.mono ?_); rintro e v4 ⟨rfl, hv4⟩; have h04 := bl_step H03.out hv4; have k4 := keep14 ROW2.out ROWQ.out h04; have HV4 := Lib.hid (HBQ.out.trans (h04.mono HBQ.out.size))))
      go_wp2_with (first
        | (go_at_call 33; (with_reducible refine (HRB.out v4 HV4.out).mono ?_); rintro e w7 ⟨L7, A7, c7, ht7, rfl, ho7, hl7, hc7, hb7⟩; (have HT7 := Lib.hid ht7; have HO7 := Lib.hid ho7; have HB7 := Lib.hid (HV4.out.trans (hb7.mono HV4.out.size)); have HW7 := Lib.hid (HWB.out (w7.alloc (.cells #[.bool qp, .int .i64 q0, .int .i64 q1, .bool qt, .bool ql, .int .i64 q2, .slice A7 L7.length c7] 32)) A7 L7 c7 ht7 ((ho7.later (bl_alloc (Below.refl _ _) _)).src) hl7 hc7); clear hb7 ho7 ht7))
        | (go_at_call 23; (with_reducible refine HW7.out.mono ?_); rintro e w8 ⟨y8, rfl, hy8, hb8⟩; obtain ⟨Ay, cy, hyv, _⟩ := hy8.form; rw [HBS.out.len] at hyv; subst hyv; (have HY8 := Lib.hid hy8; have HB78 := Lib.hid (bl_step (bl_alloc (Below.refl w7.heap.size w7) _) hb8); have HB8 := Lib.hid (HB7.out.trans (HB78.out.mono HB7.out.size)); have ROW8 := Lib.hid ((Row.made w7 32 #[.bool qp, .int .i64 q0, .int .i64 q1, .bool qt, .bool ql, .int .i64 q2, .slice A7 L7.length c7]).later hb8); clear hb8 hy8))
        | (go_at_call 20; (with_reducible refine (aalive_any _).mono ?_); rintro e w9 ⟨rfl, hb9⟩; (have HB9 := Lib.hid (HB8.out.trans (hb9.mono HB8.out.size)); have r9 := ROW8.out.later hb9; have r90 := r9.read (i := 0) rfl; have r91 := r9.read (i := 1) rfl; have r92 := r9.read (i := 2) rfl; have r93 := r9.read (i := 3) rfl; have r94 := r9.read (i := 4) rfl; have r95 := r9.read (i := 5) rfl; have r96 := r9.read (i := 6) rfl; have HY9 := Lib.hid (HY8.out.later hb9); have HRI := Lib.hid (HRT.out w9 A7 L7 c7 HT7.out (((HO7.out.later HB78.out).later hb9).src) hl7 hc7); clear hb9 r9))
        | (go_at_call 25; (with_reducible refine HRI.out.mono ?_); rintro e w10 ⟨rfl, hb10⟩; (have HB10 := Lib.hid (HB9.out.trans (hb10.mono HB9.out.size)); have cv1 := (HY9.out.later hb10).conv HBS.out.bytes; have cv2 := conv_src nb cb HBS.out.len (src_later HBS.out.src HB10.out) HBS.out.bytes; clear hb10)))
      go_ret
      exact ⟨rfl, HB10.out⟩
    · go_wp2_with (go_at_call 20; refine (aalive_any _).mono ?_; rintro e w2 ⟨rfl, hb2⟩)
      go_ret
      exact ⟨rfl, bl_step (bl_alloc (Below.refl _ _) _) hb2⟩
  · have hr : ∀ d' : Nat, (d : Int) = d' → (amdRd bs d').1 ≠ 0 := fun d' hd h0 => hg ⟨(amdRd bs d).2.1.poll, (amdRd bs d).2.1.part, (amdRd bs d).2.1.last, (amdRd bs d).2.1.fi, (amdRd bs d).2.1.sn, (amdRd bs d).2.1.off, (amdRd bs d).2.2, by
      obtain rfl : d = d' := by omega
      rw [← h0]⟩
    have HRB := Lib.hid (fun W hb => HBS.out.bad hr W hb)
    clear hr hg
    go_enter Try.func6, Try.ntmps6
    go_wp2_with (go_at_call 19; refine HGR.out.mono ?_; rintro e w1 ⟨⟨b, rfl, hbb⟩, rfl⟩; cases b)
    · clear hbb
      go_wp2_with (first
        | (go_at_call 23; (with_reducible refine (HWP.out _ (bl_alloc (Below.refl _ _) _)).mono ?_); rintro e w1 ⟨A1, c1, rfl, ho1, hb1⟩; (have HB1 := Lib.hid (bl_step (bl_alloc (Below.refl w.heap.size w) _) hb1); have ROW1 := Lib.hid ((Row.made w 32 #[.bool poll, .int .i64 a, .int .i64 b', .bool part, .bool last, .int .i64 off, .slice A n cap]).later hb1); have HRX1 := Lib.hid (HRX.out w1 A1 c1 _ ho1); clear hb1 ho1))
        | (go_at_call 33; (with_reducible refine HRX1.out.mono ?_); rintro e w2 ⟨L2, A2, c2, ht2, rfl, ho2, hl2, hc2, hb2⟩; (have HB2 := Lib.hid (HB1.out.trans (hb2.mono HB1.out.size)); have ROW2 := Lib.hid ((ROW1.out.later hb2).more (.cells #[.bool poll, .int .i64 a, .int .i64 b', .bool part, .bool last, .int .i64 off, .slice A2 L2.length c2] 32)); have HO2 := Lib.hid ho2; have HT2 := Lib.hid ht2; clear hb2 ho2 ht2)))
      have ROWQ := Lib.hid (Row.made w2 32 #[.bool poll, .int .i64 a, .int .i64 b', .bool part, .bool last, .int .i64 off, .slice A2 L2.length c2])
      have HBQ := Lib.hid (bl_alloc HB2.out (.cells #[.bool poll, .int .i64 a, .int .i64 b', .bool part, .bool last, .int .i64 off, .slice A2 L2.length c2] 32))
      have HOQ := Lib.hid (HO2.out.later (bl_alloc (Below.refl _ _) (.cells #[.bool poll, .int .i64 a, .int .i64 b', .bool part, .bool last, .int .i64 off, .slice A2 L2.length c2] 32)))
      generalize hwq : w2.alloc (.cells #[.bool poll, .int .i64 a, .int .i64 b', .bool part, .bool last, .int .i64 off, .slice A2 L2.length c2] 32) = wq at *
      clear hwq
      have kq := keep14 ROW2.out ROWQ.out (bl_drew (Below.refl wq.heap.size wq))
      have HASP := Lib.hid (fun W => aas_any poll part last a b' off A n cap W)
      have HASQ := Lib.hid (fun W => aas_any poll part last a b' off A2 L2.length c2 W)
      have HSM := Lib.hid (fun W (hb : Below wq.heap.size wq W) => (show Calls Try.prog 27 #[.agg #[.bool poll, .int .i64 a, .int .i64 b', .bool part, .bool last, .int .i64 off, .slice A n cap], .agg #[.bool poll, .int .i64 a, .int .i64 b', .bool part, .bool last, .int .i64 off, .slice A2 L2.length c2]] W fun e w' => e = .returned (.bool true) ∧ Below W.heap.size W w' from by
        have h1 := rasame_any (A := A) (B := A2) poll part last a b' off poll part last a b' off n L2.length cap c2 W HL.out rfl hn9 (HS.out.later (HBQ.out.trans (hb.mono HBQ.out.size))) ((HOQ.out.later hb).src)
        rw [← HT2.out, eqA_self] at h1
        exact h1))
      go_wp2_with fail
      go_region_held3 (fun w' => w'.cell? ⟨w.heap.size, 0, none⟩ = some (.bool poll) ∧ w'.cell? ⟨w.heap.size, 1, none⟩ = some (.int .i64 a) ∧ w'.cell? ⟨w.heap.size, 2, none⟩ = some (.int .i64 b') ∧ w'.cell? ⟨w.heap.size, 3, none⟩ = some (.bool part) ∧ w'.cell? ⟨w.heap.size, 4, none⟩ = some (.bool last) ∧ w'.cell? ⟨w.heap.size, 5, none⟩ = some (.int .i64 off) ∧ w'.cell? ⟨w.heap.size, 6, none⟩ = some (.slice A n cap) ∧ w'.cell? ⟨w2.heap.size, 0, none⟩ = some (.bool poll) ∧ w'.cell? ⟨w2.heap.size, 1, none⟩ = some (.int .i64 a) ∧ w'.cell? ⟨w2.heap.size, 2, none⟩ = some (.int .i64 b') ∧ w'.cell? ⟨w2.heap.size, 3, none⟩ = some (.bool part) ∧ w'.cell? ⟨w2.heap.size, 4, none⟩ = some (.bool last) ∧ w'.cell? ⟨w2.heap.size, 5, none⟩ = some (.int .i64 off) ∧ w'.cell? ⟨w2.heap.size, 6, none⟩ = some (.slice A2 L2.length c2)) (first | assumption | go_keep) (first
        | (go_at_call 22; (with_reducible refine (HASP.out _).mono ?_); rintro e v1 ⟨rfl, hv1⟩; have h01 := bl_step (bl_drew (Below.refl wq.heap.size wq)) hv1; have k1 := keep14 ROW2.out ROWQ.out h01; have H01 := Lib.hid h01)
        | (go_at_call 22; (with_reducible refine (HASQ.out _).mono ?_); rintro e v2 ⟨rfl, hv2⟩; have h02 := bl_step H01.out hv2; have k2 := keep14 ROW2.out ROWQ.out h02; have H02 := Lib.hid h02)
        | (go_at_call 27; (with_reducible refine (HSM.out _ H02.out).mono ?_); rintro e v3 ⟨rfl, hv3⟩; have h03 := bl_step H02.out hv3; have k3 := keep14 ROW2.out ROWQ.out h03; have H03 := Lib.hid h03; have HZ3 := Lib.hid (HSZ.out v3 (HBQ.out.trans (h03.mono HBQ.out.size))))
        | (go_at_call 24; (with_reducible refine HZ3.out.mono ?_); rintro e v4 ⟨rfl, hv4⟩; have h04 := bl_step H03.out hv4; have k4 := keep14 ROW2.out ROWQ.out h04; have HV4 := Lib.hid (HBQ.out.trans (h04.mono HBQ.out.size))))
      go_wp2_with (first
        | (go_at_call 33; (with_reducible refine (HRB.out v4 HV4.out).mono ?_); rintro e w7 ⟨er7, he7, rfl, hb7⟩; (have her7 : (er7 != 0) = true := by simpa using he7); (have HB7 := Lib.hid (HV4.out.trans (hb7.mono HV4.out.size)); clear hb7 he7))
        | (go_at_call 23; (with_reducible refine (write_noneA _ d).mono ?_); rintro e w8 ⟨er8, rfl, hb8⟩; (have HB8 := Lib.hid (HB7.out.trans ((bl_step (bl_alloc (Below.refl w7.heap.size w7) _) hb8).mono HB7.out.size)); clear hb8))
        | (go_at_call 20; (with_reducible refine (aalive_any _).mono ?_); rintro e w9 ⟨rfl, hb9⟩; (have HB9 := Lib.hid (HB8.out.trans (hb9.mono HB8.out.size)); clear hb9)))
      go_ret
      exact ⟨rfl, HB9.out⟩
    · go_wp2_with (go_at_call 20; refine (aalive_any _).mono ?_; rintro e w2 ⟨rfl, hb2⟩)
      go_ret
      exact ⟨rfl, bl_step (bl_alloc (Below.refl _ _) _) hb2⟩
end Go.Proofs.Ytolinlnnbdjimaa
namespace Go.Proofs.Ytolinlnnbdjimaa
open Go.RowKit


set_option maxRecDepth 100000 in
set_option maxHeartbeats 1600000 in
theorem aback_long {A B : Option Addr} {L : List RowB} (poll part last : Bool) (fi sn off wd : Int) (n cap nb cb : Nat) (w : World) (hL : L.length = n) (hn : n ≤ 9223372036854775807) (hs : RSrc w A L) (hm : ∀ m ∈ lens L, m ≤ 9223372036854775807) (h41 : 4100 < nb) :
    Calls Try.prog 6 #[.agg #[.bool poll, .int .i64 fi, .int .i64 sn, .bool part, .bool last, .int .i64 off, .slice A n cap], .slice B nb cb, .int .i64 wd] w fun e w' => e = .returned (.bool true) ∧ Below w.heap.size w w' := by
  have HGR := Lib.hid (great_any n cap (w.alloc (.cells #[.bool poll, .int .i64 fi, .int .i64 sn, .bool part, .bool last, .int .i64 off, .slice A n cap] 32)) hL hn (hs.later (bl_alloc (Below.refl _ _) _)) hm)
  have hb41 : (4100 : Int) < nb := by omega
  clear hs hm hL
  go_enter Try.func6, Try.ntmps6
  go_wp2_with (go_at_call 19; refine HGR.out.mono ?_; rintro e w1 ⟨⟨b, rfl, hbb⟩, rfl⟩; cases b)
  all_goals
    clear hbb
    go_wp2_with (go_at_call 20; refine (aalive_any _).mono ?_; rintro e w2 ⟨rfl, hb2⟩)
    go_ret
    exact ⟨rfl, bl_step (bl_alloc (Below.refl _ _) _) hb2⟩
theorem aback_all {A B : Option Addr} (poll part last : Bool) (fi sn off wd : Int) (L : List RowB) (cap : Nat) (bs : List Nat) (cb : Nat) (w : World) (hcap : L.length ≤ cap) (hcm : cap ≤ 9223372036854775807) (hs : RSrc w A L) (hm : ∀ m ∈ lens L, m ≤ 9223372036854775807)
    (hcb : bs.length ≤ cb) (hcbm : cb ≤ 9223372036854775807) (hsb : Src w B (bts bs)) (hb : ∀ b ∈ bs, b < 256) :
    Calls Try.prog 6 #[.agg #[.bool poll, .int .i64 fi, .int .i64 sn, .bool part, .bool last, .int .i64 off, .slice A L.length cap], .slice B bs.length cb, .int .i64 wd] w fun e w' => e = .returned (.bool true) ∧ Below w.heap.size w w' := by
  rcases Nat.lt_or_ge 4100 bs.length with h | h
  · exact aback_long poll part last fi sn off wd L.length cap bs.length cb w rfl (by omega) hs hm h
  · by_cases hw : amdF part last fi sn off (lens L) wd = 0
    · exact aback_bad poll part last fi sn off wd L.length cap bs.length cb w rfl hcap hcm hs hm ⟨rfl, h, hcb, hcbm, hsb, hb⟩ hw
    · obtain ⟨a, b, c, d, rfl, rfl, rfl, rfl⟩ := nat_of hw
      exact aback_ok poll part last a b c d L.length cap bs.length cb w rfl hcap hcm hs hm ⟨rfl, h, hcb, hcbm, hsb, hb⟩ hw
end Go.Proofs.Ytolinlnnbdjimaa
namespace Go.Proofs.Ytolinlnnbdjimaa
open Go.ChangeShapes Go.WideShapes Go.ChangeAt Go.RowKit

theorem lawOwn : ownKnob Try.prog.godebug = none := by kernel_rfl
theorem lawLaid : laidOutB Try.prog = true := by kernel_rfl

section
variable {H : Type} {enc : TypeId × Value → H} {P : Program}
/-- what was read in the old world is read in the new one -/
theorem args_stay (hl : laidOutB P = true) {W W' : World} (hb : Below W.heap.size W W') : ∀ (ts : List TypeId) (vs : List Value) (ds : List (DataW H)) (ps : List MemPlace),
    (∀ t ∈ ts, P.readableRec t = true ∧ t < P.types.size) → DataW.TrodAll enc P W 0 (fun _ => true) true ts vs ds ps → (∀ x ∈ ps, x.block < W.heap.size) →
    DataW.TrodAll enc P W' 0 (fun b => decide (b < W.heap.size)) true ts vs ds ps := by
  intro ts
  induction ts with
  | nil =>
    intro vs ds ps _ h _
    obtain ⟨rfl, rfl, rfl⟩ := trodAll_nil h
    exact trodAll_mk0
  | cons t ts ih =>
    intro vs ds ps hr h hlt
    obtain ⟨v, vs', d, ds', p, q, rfl, rfl, rfl, h1, h2⟩ := trodAll_cons h
    have ht := hr t (List.mem_cons_self ..)
    exact trodAll_cons_mk (Below.trod hl ht.1 ht.2 h1 hb fun x hx => hlt x (List.mem_append_left _ hx))
      (ih vs' ds' q (fun u hu => hr u (List.mem_cons_of_mem _ hu)) h2 fun x hx => hlt x (List.mem_append_right _ hx))

theorem law_post {f : Func} {s : ChangeSpec} {W W' : World} {args : Array Value} {ds gs : List (DataW H)} {before : List MemPlace} {B : TypeId}
    (hl : laidOutB P = true) (hr : f.params.toList.all (fun t => P.readableRec t && decide (t < P.types.size)) = true) (hv : s.vars = [])
    (hW : DataW.Whole enc P f.params.toList s.vars false W args.toList ds gs before)
    (hs : s.fn H (ds ++ gs) = { results := [.lit (.bool true)], args := ds }) (ht : f.resultTypes = #[B]) (hB : P.underlying B = some .bool)
    (hb : Below W.heap.size W W') : s.post enc P f false true false false W args (.bool true) W' := by
  have hW' := hW
  obtain ⟨p, q, hA, hV, rfl, _, _⟩ := hW
  rw [hv] at hV
  obtain ⟨rfl, rfl⟩ := trodVars_none hV
  refine ⟨ds, [], p ++ [], [], p, [], hW', ?_, ?_, ?_, hb.frame _, fun h => by cases h⟩
  · rw [hs, ht]
    exact trodAll_mk1 (shut_bool hB true)
  · rw [hs]
    exact args_stay hl hb _ _ _ _ (fun t h => by have := List.all_eq_true.1 hr t h; simpa using this) hA fun x hx => hW'.lt x (List.mem_append_left _ hx)
  · rw [hs, hv]
    exact rfl
end
end Go.Proofs.Ytolinlnnbdjimaa
namespace Go.Proofs.Ytolinlnnbdjimaa
open Go.ChangeShapes Go.WideShapes Go.ChangeAt Go.RowKit Go.Deep


theorem Try.cells5 : Try.prog.cellsOf 5 = 1 := by kernel_rfl
theorem Try.cells37 : Try.prog.cellsOf 37 = 1 := by kernel_rfl
theorem nums_src {W : World} {a : Addr} {cap len : Nat} {zs : List Int} (hl : len ≤ cap) (hz : zs.length = cap) (hc : ∀ j, j < cap → W.cell? (a.add j) = some (.int .u8 (zs.getD j 0))) (hw : ∀ n ∈ zs, (Lit.int .u8 n).wf = true) :
    ((zs.take len).map Int.toNat).length = len ∧ Src W (some a) (bts ((zs.take len).map Int.toNat)) ∧ ∀ b ∈ (zs.take len).map Int.toNat, b < 256 := by
  have hlen : ((zs.take len).map Int.toNat).length = len := by rw [List.length_map, List.length_take]; omega
  refine ⟨hlen, fun h0 => ⟨a, rfl, fun j u hu => ?_⟩, fun b hb => ?_⟩
  · have hj : j < len := by
      have h1 := (List.getElem?_eq_some_iff.1 hu).1
      rw [length_bts, hlen] at h1
      exact h1
    have h2 := hc j (by omega)
    rw [h2]
    have hjz : j < zs.length := by omega
    have hww := bounds_u8 (hw zs[j] (List.getElem_mem hjz))
    have h3 : ((zs.take len).map Int.toNat)[j]? = some zs[j].toNat := by
      rw [List.getElem?_map, List.getElem?_take, if_pos hj, List.getElem?_eq_getElem hjz]
      rfl
    have h4 := bts_at h3
    rw [h4] at hu
    injection hu with hu
    rw [← hu, List.getD_eq_getElem?_getD, List.getElem?_eq_getElem hjz]
    simp only [Option.getD_some]
    rw [Int.toNat_of_nonneg hww.1]
  · rw [List.mem_map] at hb
    obtain ⟨z, hz2, rfl⟩ := hb
    have hww := bounds_u8 (hw z (List.mem_of_mem_take hz2))
    omega
set_option maxRecDepth 100000 in
theorem bytes_arg {H : Type} {enc : TypeId × Value → H} {W : World} {base : Nat} {v : Value} {d : DataW H} {p : List MemPlace} (hok : Value.okWide Try.prog W .any base 37 v)
    (h : DataW.Trod enc Try.prog W 0 (fun _ => true) true 37 v d p) : ∃ (A : Option Addr) (cap : Nat) (l : List Nat), v = .slice A l.length cap ∧ l.length ≤ cap ∧ cap ≤ 9223372036854775807 ∧ Src W A (bts l) ∧ ∀ b ∈ l, b < 256 := by
  obtain ⟨a0, len, cap, rfl⟩ := okWide_slice Try.underlying37 hok
  obtain ⟨fuel, hf⟩ := h
  rcases open_ints Try.underlying37 Try.underlying5 Try.cells5 hf with ⟨hcs, _⟩ | ⟨a, len', cap', zs, hcs, _, hl, hm, hz, _, hcell, hwz⟩
  · simp only [Value.cells] at hcs
    have e : Value.slice a0 len cap = .slice none 0 0 := by simpa using hcs
    rw [e]
    exact ⟨none, 0, [], rfl, Nat.le_refl _, by omega, fun h0 => absurd h0 (by simp [bts]), fun b hb => by cases hb⟩
  · have e : Value.slice a0 len cap = .slice (some a) len' cap' := by simpa [Value.cells] using hcs
    rw [e]
    have hz' : zs.length = cap' := by simpa using hz
    obtain ⟨h1, h2, h3⟩ := nums_src (W := W) (a := a) hl hz' (fun j hj => hcell j (by omega)) hwz
    exact ⟨some a, cap', _, by rw [h1], by omega, by unfold maxLen at hm; exact hm, h2, h3⟩
set_option maxRecDepth 100000 in
theorem rows_cells {H : Type} {enc : TypeId × Value → H} {W : World} {fuel : Nat} {v : Value} {y : DataW H × List MemPlace} (hf : DataW.trod enc Try.prog W 0 (fun _ => true) true fuel 30 [v] = some y) :
    ∃ (A : Option Addr) (cap : Nat) (L : List RowB), v = .slice A L.length cap ∧ L.length ≤ cap ∧ cap ≤ 9223372036854775807 ∧ RSrc W A L ∧ ∀ m ∈ lens L, m ≤ 9223372036854775807 := by
  rcases open_int_rows Try.underlying30 Try.underlying37 Try.underlying5 Try.cells37 Try.cells5 hf with ⟨hcs, _⟩ | ⟨a, len', cap', A, L, C, Z, hcs, _, hl, hm, _, hx⟩
  · have e : v = .slice none 0 0 := by simpa [Value.cells] using hcs
    rw [e]
    exact ⟨none, 0, [], rfl, Nat.le_refl _, by omega, fun h0 => absurd h0 (by simp), fun m hm => by cases hm⟩
  · have e : v = .slice (some a) len' cap' := by simpa [Value.cells] using hcs
    rw [e]
    have hlen : ((List.range len').map fun k => (⟨A k, C k, ((Z k).take (L k)).map Int.toNat⟩ : RowB)).length = len' := by simp
    have hrow : ∀ k r, ((List.range len').map fun k => (⟨A k, C k, ((Z k).take (L k)).map Int.toNat⟩ : RowB))[k]? = some r → W.cell? (a.add k) = some r.v ∧ r.ok W := by
      intro k r hr
      have hk : k < len' := by
        have h1 := (List.getElem?_eq_some_iff.1 hr).1
        rw [hlen] at h1
        exact h1
      have hr' : r = ⟨A k, C k, ((Z k).take (L k)).map Int.toNat⟩ := by
        rw [List.getElem?_map, List.getElem?_range hk] at hr
        simp only [Option.map_some, Option.some.injEq] at hr
        exact hr.symm
      subst hr'
      obtain ⟨h1, h2, h3, h4, h5, h6, h7⟩ := hx k (by omega)
      unfold maxLen at h3
      have hll : (((Z k).take (L k)).map Int.toNat).length = L k := by rw [List.length_map, List.length_take]; omega
      refine ⟨by rw [h1]; show _ = some (Value.slice (A k) (((Z k).take (L k)).map Int.toNat).length (C k)); rw [hll], ?_⟩
      cases hA : A k with
      | none =>
        have hc0 := h6 hA
        have hl0 : L k = 0 := by omega
        refine ⟨fun h0 => ?_, by rw [hll]; exact h2, h3, fun b hb => ?_⟩
        · rw [length_bts, hll] at h0; omega
        · rw [hl0] at hb; simp at hb
      | some a' =>
        obtain ⟨_, hc⟩ := h7 a' hA
        obtain ⟨_, g2, g3⟩ := nums_src (W := W) h2 h4 hc h5
        exact ⟨g2, by rw [hll]; exact h2, h3, g3⟩
    refine ⟨some a, cap', (List.range len').map fun k => ⟨A k, C k, ((Z k).take (L k)).map Int.toNat⟩, by rw [hlen], by omega, by unfold maxLen at hm; exact hm, fun h0 => ⟨a, rfl, hrow⟩, fun m hm2 => ?_⟩
    obtain ⟨k, hk⟩ := List.getElem?_of_mem hm2
    simp only [lens, List.getElem?_map, Option.map_eq_some_iff] at hk
    obtain ⟨r, hr, rfl⟩ := hk
    have h9 := (hrow k r (by rw [List.getElem?_map, Option.map_eq_some_iff]; exact hr)).2
    have := h9.2.1
    have := h9.2.2.1
    omega
set_option maxRecDepth 100000 in
/-- a packet of umd as it came in -/
theorem upack_arg {H : Type} {enc : TypeId × Value → H} {W : World} {base : Nat} {v : Value} {d : DataW H} {p : List MemPlace} (hok : Value.okWide Try.prog W .any base 59 v)
    (h : DataW.Trod enc Try.prog W 0 (fun _ => true) true 59 v d p) : ∃ (fi sn : Int) (A : Option Addr) (cap : Nat) (L : List RowB), v = .agg #[.int .i64 fi, .int .i64 sn, .slice A L.length cap] ∧ L.length ≤ cap ∧ cap ≤ 9223372036854775807 ∧ RSrc W A L ∧ ∀ m ∈ lens L, m ≤ 9223372036854775807 := by
  obtain ⟨v0, v1, v2, y0, y1, y2, k, rfl, _, _, h0, h1, h2⟩ := Joins.open_agg3 Try.underlying59 (by kernel_rfl) (by kernel_rfl) hok h
  obtain ⟨A, cap, L, rfl, g1, g2, g3, g4⟩ := rows_cells h2
  obtain ⟨fi, rfl⟩ : ∃ fi, v0 = .int .i64 fi := by
    obtain ⟨n, h9, _⟩ := DataW.trod_int Try.underlying3 h0
    exact ⟨n, by simpa using h9⟩
  obtain ⟨sn, rfl⟩ : ∃ sn, v1 = .int .i64 sn := by
    obtain ⟨n, h9, _⟩ := DataW.trod_int Try.underlying3 h1
    exact ⟨n, by simpa using h9⟩
  exact ⟨fi, sn, A, cap, L, rfl, g1, g2, g3, g4⟩
end Go.Proofs.Ytolinlnnbdjimaa
namespace Go.Proofs.Ytolinlnnbdjimaa
open Go.ChangeShapes Go.WideShapes Go.ChangeAt Go.RowKit Go.Deep

theorem agg_field {H : Type} {enc : TypeId × Value → H} {P : Program} {w : World} {base b0 : Nat} {spare : Nat → Bool} {held : Bool} {r : Reach} {t : TypeId} {fs : Array Field} {v : Value} {d : DataW H} {p : List MemPlace}
    (hs : P.underlying t = some (.struct fs)) (hone : oneCellFields P fs = true) (hC : P.cellsOf t = fs.size) (hv : Value.okWide P w r b0 t v) (h : DataW.Trod enc P w base spare held t v d p) :
    ∃ cs : Array Value, v = .agg cs ∧ cs.size = fs.size ∧ ∃ n, ∀ (j : Nat) (f : Field), fs[j]? = some f → ∃ (x : Value) (y : DataW H × List MemPlace), cs[j]? = some x ∧ DataW.trod enc P w base spare held n f.type [x] = some y := by
  obtain ⟨cs, rfl, hsz⟩ := okWide_struct hs hv
  obtain ⟨fuel, hf⟩ := h
  obtain ⟨xs, n, _, _, _, hlen, hg⟩ := DataW.trod_struct hs hf
  refine ⟨cs, rfl, hsz.trans hC, n, fun j f hj => ?_⟩
  obtain ⟨ho, hk⟩ := hone_of hone j f hj
  have hjl : j < fs.size := (Array.getElem?_eq_some_iff.1 hj).1
  have hjc : j < cs.size := by rw [hsz, hC]; exact hjl
  have hjx : j < xs.length := by omega
  refine ⟨cs[j], xs[j], Array.getElem?_eq_getElem hjc, ?_⟩
  have h1 := hg j f hj
  rw [ho, hk, List.getElem?_eq_getElem hjx] at h1
  have e : ((Value.agg cs).cells.toList.drop j).take 1 = [cs[j]] := by
    simp only [Value.cells]
    rw [List.drop_eq_getElem_cons (by simpa using hjc)]
    simp
  rw [← e]
  exact h1
set_option maxRecDepth 100000 in
/-- a packet of amd as it came in -/
theorem apack_arg {H : Type} {enc : TypeId × Value → H} {W : World} {base : Nat} {v : Value} {d : DataW H} {p : List MemPlace} (hok : Value.okWide Try.prog W .any base 32 v)
    (h : DataW.Trod enc Try.prog W 0 (fun _ => true) true 32 v d p) : ∃ (poll part last : Bool) (fi sn off : Int) (A : Option Addr) (cap : Nat) (L : List RowB), v = .agg #[.bool poll, .int .i64 fi, .int .i64 sn, .bool part, .bool last, .int .i64 off, .slice A L.length cap] ∧ L.length ≤ cap ∧ cap ≤ 9223372036854775807 ∧ RSrc W A L ∧ ∀ m ∈ lens L, m ≤ 9223372036854775807 := by
  obtain ⟨cs, rfl, hsz, n, hf⟩ := agg_field Try.underlying32 (by kernel_rfl) (by kernel_rfl) hok h
  obtain ⟨x0, y0, e0, h0⟩ := hf 0 _ rfl
  obtain ⟨x1, y1, e1, h1⟩ := hf 1 _ rfl
  obtain ⟨x2, y2, e2, h2⟩ := hf 2 _ rfl
  obtain ⟨x3, y3, e3, h3⟩ := hf 3 _ rfl
  obtain ⟨x4, y4, e4, h4⟩ := hf 4 _ rfl
  obtain ⟨x5, y5, e5, h5⟩ := hf 5 _ rfl
  obtain ⟨x6, y6, e6, h6⟩ := hf 6 _ rfl
  have hcs : cs = #[x0, x1, x2, x3, x4, x5, x6] := by
    have hsz7 : cs.size = 7 := hsz
    apply Array.ext (by rw [hsz7]; rfl)
    intro i hi _
    have h7 : i < 7 := by omega
    have key : ∀ k x, cs[k]? = some x → ∀ (hk : k < cs.size), cs[k] = x := fun k x hx hk => by
      rw [Array.getElem?_eq_getElem hk] at hx
      injection hx
    rcases i with _ | _ | _ | _ | _ | _ | _ | i
    · exact key 0 _ e0 hi
    · exact key 1 _ e1 hi
    · exact key 2 _ e2 hi
    · exact key 3 _ e3 hi
    · exact key 4 _ e4 hi
    · exact key 5 _ e5 hi
    · exact key 6 _ e6 hi
    · omega
  subst hcs
  obtain ⟨b0, g0, _⟩ := DataW.trod_bool Try.underlying4 h0
  obtain ⟨n1, g1, _⟩ := DataW.trod_int Try.underlying3 h1
  obtain ⟨n2, g2, _⟩ := DataW.trod_int Try.underlying3 h2
  obtain ⟨b3, g3, _⟩ := DataW.trod_bool Try.underlying4 h3
  obtain ⟨b4, g4, _⟩ := DataW.trod_bool Try.underlying4 h4
  obtain ⟨n5, g5, _⟩ := DataW.trod_int Try.underlying3 h5
  injection g0 with g0
  injection g1 with g1
  injection g2 with g2
  injection g3 with g3
  injection g4 with g4
  injection g5 with g5
  subst g0 g1 g2 g3 g4 g5
  obtain ⟨A, cap, L, rfl, q1, q2, q3, q4⟩ := rows_cells h6
  exact ⟨b0, b3, b4, n1, n2, n5, A, cap, L, rfl, q1, q2, q3, q4⟩
end Go.Proofs.Ytolinlnnbdjimaa
