/-
  UmdBack: a packet that may be: the law walked; the whole law.
-/
import Derived.Test.YtdklddpkklodnaaUBack
import Derived.Deep.RegionHeld3
namespace Go.Proofs.Ytdklddpkklodnaa
open Go.RowKit


theorem umd_small {W : World} {A : Option Addr} {L : List RowB} (h : RSrc W A L) (fi sn wd : Nat) : ∀ b ∈ umdBytes fi sn L wd, b < 256 := by
  intro b hb
  unfold umdBytes at hb
  rw [List.mem_append, List.mem_append] at hb
  rcases hb with (hb | hb) | hb
  · exact pack_small _ b hb
  · exact tail_small _ _ b hb
  · unfold flat texts at hb
    rw [List.mem_flatten] at hb
    obtain ⟨l, hl, hb⟩ := hb
    rw [List.mem_map] at hl
    obtain ⟨r, hr, rfl⟩ := hl
    obtain ⟨k, hk⟩ := List.getElem?_of_mem hr
    obtain ⟨ad, _, hc⟩ := h (by have := (List.getElem?_eq_some_iff.1 hk).1; omega)
    exact (hc k r hk).2.2.2.2 b hb

theorem rd_back {W w : World} {A A1 : Option Addr} {n1 c1 BB a b' d : Nat} {L : List RowB} (ho : OwnY BB W (.slice A1 n1 c1) (umdBytes a b' L d)) (hn1 : (umdBytes a b' L d).length = n1) (hs : RSrc w A L) (hw : umdF a b' (lens L) d ≠ 0) :
    Calls Try.prog 21 #[.slice A1 n1 c1, .int .i64 d] W fun e w' => ∃ (M : List RowB) (A : Option Addr) (c : Nat), texts L = texts M ∧ e = .returned (.tuple #[.agg #[.int .i64 a, .int .i64 b', .slice A M.length c], .int .i64 0]) ∧ OwnR W.heap.size w' (.slice A M.length c) M ∧ M.length ≤ c ∧ c ≤ 9223372036854775807 ∧ Below W.heap.size W w' := by
  obtain ⟨A', c', e, g1, g2⟩ := ho.form
  injection e with e1 e2 e3
  subst e1
  subst e3
  unfold maxLen at g2
  have hlen := umd_len hw
  have hbig := umdF_big a b' (lens L) d
  have hst : BackSt W A1 n1 c1 (umdBytes a b' L d) d := ⟨hn1, by omega, by omega, by omega, ho.src, umd_small hs a b' d⟩
  exact hst.good rfl (umd_back hw) W (Below.refl _ _)

set_option maxRecDepth 100000 in
set_option maxHeartbeats 6400000 in
theorem uback_ok {A B : Option Addr} {L : List RowB} {bs : List Nat} (a b' d n cap nb cb : Nat) (w : World) (hL : L.length = n) (hcap : n ≤ cap) (hcm : cap ≤ 9223372036854775807) (hs : RSrc w A L) (hm : ∀ m ∈ lens L, m ≤ 9223372036854775807) (hB : BackSt w B nb cb bs d)
    (hw : umdF a b' (lens L) d ≠ 0) :
    Calls Try.prog 5 #[.agg #[.int .i64 a, .int .i64 b', .slice A n cap], .slice B nb cb, .int .i64 d] w fun e w' => e = .returned (.bool true) ∧ Below w.heap.size w w' := by
  have hn9 : n ≤ 9223372036854775807 := by omega
  have HGR := Lib.hid (great_any n cap (w.alloc (.cells #[.int .i64 a, .int .i64 b', .slice A n cap] 24)) hL hn9 (hs.later (bl_alloc (Below.refl _ _) _)) hm)
  have hb41 : ¬ (4100 : Int) < nb := by have := hB.small; omega
  have hlen := umd_len hw
  have hbig := umdF_big a b' (lens L) d
  obtain ⟨n1, hn1⟩ : ∃ n1, (umdBytes a b' L d).length = n1 := ⟨_, rfl⟩
  have HWP := Lib.hid (fun W (hb : Below w.heap.size w W) => (show Calls Try.prog 15 #[.agg #[.int .i64 a, .int .i64 b', .slice A n cap], .int .i64 d] W fun e w' => ∃ (A1 : Option Addr) (c1 : Nat), e = .returned (.tuple #[.slice A1 n1 c1, .int .i64 0]) ∧ OwnY W.heap.size w' (.slice A1 n1 c1) (umdBytes a b' L d) ∧ Below W.heap.size W w' from (uwrite_ok a b' d n cap W hL hcap hcm (hs.later hb) hm hw).mono fun e w' h => by
    obtain ⟨v, rfl, ho, hbl⟩ := h
    obtain ⟨A1, c1, rfl, _⟩ := ho.form
    rw [hn1] at ho ⊢
    exact ⟨A1, c1, rfl, ho, hbl⟩))
  have HRX := Lib.hid (fun W A1 c1 BB (ho : OwnY BB W (.slice A1 n1 c1) (umdBytes a b' L d)) => rd_back ho hn1 hs hw)
  have HSZ := Lib.hid (fun W (hb : Below w.heap.size w W) => (show Calls Try.prog 16 #[.agg #[.int .i64 a, .int .i64 b', .slice A n cap], .int .i64 d] W fun e w' => e = .returned (.int .i64 (n1 : Int)) ∧ Below W.heap.size W w' from by
    have h1 := usize_any (A := A) a b' d n cap W hL hn9 (hs.later hb) hm
    rw [← hlen, hn1] at h1
    exact h1))
  have hnn : ((n1 : Int) != (n1 : Int)) = false := by simp
  have HBS := Lib.hid hB
  have HS := Lib.hid hs
  have HL := Lib.hid hL
  clear hs hL hm hw hB hlen hbig hn1
  by_cases hg : ∃ (x y : Nat) (t : List (List Nat)), umdRd bs d = (0, x, y, t)
  · obtain ⟨q0, q1, t, hr⟩ := hg
    have HRB := Lib.hid (fun W hb => HBS.out.good rfl hr W hb)
    have HR := Lib.hid hr
    clear hr
    have HWB := Lib.hid (fun W A L c (ht : t = texts L) (hs : RSrc W A L) (hc : L.length ≤ c) (hcm : c ≤ 9223372036854775807) => (write_back (W := W) c HBS.out.bytes (by rw [← ht]; exact HR.out) hs hc hcm).1)
    have HRT := Lib.hid (fun W A L c (ht : t = texts L) (hs : RSrc W A L) (hc : L.length ≤ c) (hcm : c ≤ 9223372036854775807) => (write_back (W := W) c HBS.out.bytes (by rw [← ht]; exact HR.out) hs hc hcm).2)
    go_enter Try.func5, Try.ntmps5
    go_wp2_with (go_at_call 11; refine HGR.out.mono ?_; rintro e w1 ⟨⟨b, rfl, hbb⟩, rfl⟩; cases b)
    · clear hbb
      go_wp2_with (first
        | (go_at_call 15; (with_reducible refine (HWP.out _ (bl_alloc (Below.refl _ _) _)).mono ?_); rintro e w1 ⟨A1, c1, rfl, ho1, hb1⟩; (have HB1 := Lib.hid (bl_step (bl_alloc (Below.refl w.heap.size w) _) hb1); have ROW1 := Lib.hid ((Row.made w 24 #[.int .i64 a, .int .i64 b', .slice A n cap]).later hb1); have HRX1 := Lib.hid (HRX.out w1 A1 c1 _ ho1); clear hb1 ho1))
        | (go_at_call 21; (with_reducible refine HRX1.out.mono ?_); rintro e w2 ⟨L2, A2, c2, ht2, rfl, ho2, hl2, hc2, hb2⟩; (have HB2 := Lib.hid (HB1.out.trans (hb2.mono HB1.out.size)); have ROW2 := Lib.hid ((ROW1.out.later hb2).more (.cells #[.int .i64 a, .int .i64 b', .slice A2 L2.length c2] 24)); have HO2 := Lib.hid ho2; have HT2 := Lib.hid ht2; clear hb2 ho2 ht2)))
      have ROWQ := Lib.hid (Row.made w2 24 #[.int .i64 a, .int .i64 b', .slice A2 L2.length c2])
      have HBQ := Lib.hid (bl_alloc HB2.out (.cells #[.int .i64 a, .int .i64 b', .slice A2 L2.length c2] 24))
      have HOQ := Lib.hid (HO2.out.later (bl_alloc (Below.refl _ _) (.cells #[.int .i64 a, .int .i64 b', .slice A2 L2.length c2] 24)))
      generalize hwq : w2.alloc (.cells #[.int .i64 a, .int .i64 b', .slice A2 L2.length c2] 24) = wq at *
      clear hwq
      have kq := keep6 ROW2.out ROWQ.out (bl_drew (Below.refl wq.heap.size wq))
      have HASP := Lib.hid (fun W => as_any (.int .i64 a) (.int .i64 b') A n cap a b' W rfl rfl)
      have HASQ := Lib.hid (fun W => as_any (.int .i64 a) (.int .i64 b') A2 L2.length c2 a b' W rfl rfl)
      have HSM := Lib.hid (fun W (hb : Below wq.heap.size wq W) => (show Calls Try.prog 19 #[.agg #[.int .i64 a, .int .i64 b', .slice A n cap], .agg #[.int .i64 a, .int .i64 b', .slice A2 L2.length c2]] W fun e w' => e = .returned (.bool true) ∧ Below W.heap.size W w' from by
        have h1 := rsame_any (A := A) (B := A2) a b' a b' n L2.length cap c2 W HL.out rfl hn9 (HS.out.later (HBQ.out.trans (hb.mono HBQ.out.size))) ((HOQ.out.later hb).src)
        rw [← HT2.out, eqP_self] at h1
        exact h1))
      go_wp2_with fail
      go_region_held3 (fun w' => w'.cell? ⟨w.heap.size, 0, none⟩ = some (.int .i64 a) ∧ w'.cell? ⟨w.heap.size, 1, none⟩ = some (.int .i64 b') ∧ w'.cell? ⟨w.heap.size, 2, none⟩ = some (.slice A n cap) ∧ w'.cell? ⟨w2.heap.size, 0, none⟩ = some (.int .i64 a) ∧ w'.cell? ⟨w2.heap.size, 1, none⟩ = some (.int .i64 b') ∧ w'.cell? ⟨w2.heap.size, 2, none⟩ = some (.slice A2 L2.length c2)) (first | assumption | go_keep) (first
        | (go_at_call 14; (with_reducible refine (HASP.out _).mono ?_); rintro e v1 ⟨rfl, hv1⟩; have h01 := bl_step (bl_drew (Below.refl wq.heap.size wq)) hv1; have k1 := keep6 ROW2.out ROWQ.out h01; have H01 := Lib.hid h01)
        | (go_at_call 14; (with_reducible refine (HASQ.out _).mono ?_); rintro e v2 ⟨rfl, hv2⟩; have h02 := bl_step H01.out hv2; have k2 := keep6 ROW2.out ROWQ.out h02; have H02 := Lib.hid h02)
        | (go_at_call 19; (with_reducible refine (HSM.out _ H02.out).mono ?_); rintro e v3 ⟨rfl, hv3⟩; have h03 := bl_step H02.out hv3; have k3 := keep6 ROW2.out ROWQ.out h03; have H03 := Lib.hid h03; have HZ3 := Lib.hid (HSZ.out v3 (HBQ.out.trans (h03.mono HBQ.out.size))))
        | (go_at_call 16; (with_reducible refine HZ3.out.mono ?_); rintro e v4 ⟨rfl, hv4⟩; have h04 := bl_step H03.out hv4; have k4 := keep6 ROW2.out ROWQ.out h04; have HV4 := Lib.hid (HBQ.out.trans (h04.mono HBQ.out.size))))
      go_wp2_with (first
        | (go_at_call 21; (with_reducible refine (HRB.out v4 HV4.out).mono ?_); rintro e w7 ⟨L7, A7, c7, ht7, rfl, ho7, hl7, hc7, hb7⟩; (have HT7 := Lib.hid ht7; have HO7 := Lib.hid ho7; have HB7 := Lib.hid (HV4.out.trans (hb7.mono HV4.out.size)); have HW7 := Lib.hid (HWB.out (w7.alloc (.cells #[.int .i64 q0, .int .i64 q1, .slice A7 L7.length c7] 24)) A7 L7 c7 ht7 ((ho7.later (bl_alloc (Below.refl _ _) _)).src) hl7 hc7); clear hb7 ho7 ht7))
        | (go_at_call 15; (with_reducible refine HW7.out.mono ?_); rintro e w8 ⟨y8, rfl, hy8, hb8⟩; obtain ⟨Ay, cy, hyv, _⟩ := hy8.form; rw [HBS.out.len] at hyv; subst hyv; (have HY8 := Lib.hid hy8; have HB78 := Lib.hid (bl_step (bl_alloc (Below.refl w7.heap.size w7) _) hb8); have HB8 := Lib.hid (HB7.out.trans (HB78.out.mono HB7.out.size)); have ROW8 := Lib.hid ((Row.made w7 24 #[.int .i64 q0, .int .i64 q1, .slice A7 L7.length c7]).later hb8); clear hb8 hy8))
        | (go_at_call 12; (with_reducible refine (ualive_any _).mono ?_); rintro e w9 ⟨rfl, hb9⟩; (have HB9 := Lib.hid (HB8.out.trans (hb9.mono HB8.out.size)); have r9 := ROW8.out.later hb9; have r90 := r9.read (i := 0) rfl; have r91 := r9.read (i := 1) rfl; have r92 := r9.read (i := 2) rfl; have HY9 := Lib.hid (HY8.out.later hb9); have HRI := Lib.hid (HRT.out w9 A7 L7 c7 HT7.out (((HO7.out.later HB78.out).later hb9).src) hl7 hc7); clear hb9 r9))
        | (go_at_call 17; (with_reducible refine HRI.out.mono ?_); rintro e w10 ⟨rfl, hb10⟩; (have HB10 := Lib.hid (HB9.out.trans (hb10.mono HB9.out.size)); have cv1 := (HY9.out.later hb10).conv HBS.out.bytes; have cv2 := conv_src nb cb HBS.out.len (src_later HBS.out.src HB10.out) HBS.out.bytes; clear hb10)))
      go_ret
      exact ⟨rfl, HB10.out⟩
    · go_wp2_with (go_at_call 12; refine (ualive_any _).mono ?_; rintro e w2 ⟨rfl, hb2⟩)
      go_ret
      exact ⟨rfl, bl_step (bl_alloc (Below.refl _ _) _) hb2⟩
  · have hr : ∀ d' : Nat, (d : Int) = d' → (umdRd bs d').1 ≠ 0 := fun d' hd h0 => hg ⟨(umdRd bs d).2.1, (umdRd bs d).2.2.1, (umdRd bs d).2.2.2, by
      obtain rfl : d = d' := by omega
      rw [← h0]⟩
    have HRB := Lib.hid (fun W hb => HBS.out.bad hr W hb)
    clear hr hg
    go_enter Try.func5, Try.ntmps5
    go_wp2_with (go_at_call 11; refine HGR.out.mono ?_; rintro e w1 ⟨⟨b, rfl, hbb⟩, rfl⟩; cases b)
    · clear hbb
      go_wp2_with (first
        | (go_at_call 15; (with_reducible refine (HWP.out _ (bl_alloc (Below.refl _ _) _)).mono ?_); rintro e w1 ⟨A1, c1, rfl, ho1, hb1⟩; (have HB1 := Lib.hid (bl_step (bl_alloc (Below.refl w.heap.size w) _) hb1); have ROW1 := Lib.hid ((Row.made w 24 #[.int .i64 a, .int .i64 b', .slice A n cap]).later hb1); have HRX1 := Lib.hid (HRX.out w1 A1 c1 _ ho1); clear hb1 ho1))
        | (go_at_call 21; (with_reducible refine HRX1.out.mono ?_); rintro e w2 ⟨L2, A2, c2, ht2, rfl, ho2, hl2, hc2, hb2⟩; (have HB2 := Lib.hid (HB1.out.trans (hb2.mono HB1.out.size)); have ROW2 := Lib.hid ((ROW1.out.later hb2).more (.cells #[.int .i64 a, .int .i64 b', .slice A2 L2.length c2] 24)); have HO2 := Lib.hid ho2; have HT2 := Lib.hid ht2; clear hb2 ho2 ht2)))
      have ROWQ := Lib.hid (Row.made w2 24 #[.int .i64 a, .int .i64 b', .slice A2 L2.length c2])
      have HBQ := Lib.hid (bl_alloc HB2.out (.cells #[.int .i64 a, .int .i64 b', .slice A2 L2.length c2] 24))
      have HOQ := Lib.hid (HO2.out.later (bl_alloc (Below.refl _ _) (.cells #[.int .i64 a, .int .i64 b', .slice A2 L2.length c2] 24)))
      generalize hwq : w2.alloc (.cells #[.int .i64 a, .int .i64 b', .slice A2 L2.length c2] 24) = wq at *
      clear hwq
      have kq := keep6 ROW2.out ROWQ.out (bl_drew (Below.refl wq.heap.size wq))
      have HASP := Lib.hid (fun W => as_any (.int .i64 a) (.int .i64 b') A n cap a b' W rfl rfl)
      have HASQ := Lib.hid (fun W => as_any (.int .i64 a) (.int .i64 b') A2 L2.length c2 a b' W rfl rfl)
      have HSM := Lib.hid (fun W (hb : Below wq.heap.size wq W) => (show Calls Try.prog 19 #[.agg #[.int .i64 a, .int .i64 b', .slice A n cap], .agg #[.int .i64 a, .int .i64 b', .slice A2 L2.length c2]] W fun e w' => e = .returned (.bool true) ∧ Below W.heap.size W w' from by
        have h1 := rsame_any (A := A) (B := A2) a b' a b' n L2.length cap c2 W HL.out rfl hn9 (HS.out.later (HBQ.out.trans (hb.mono HBQ.out.size))) ((HOQ.out.later hb).src)
        rw [← HT2.out, eqP_self] at h1
        exact h1))
      go_wp2_with fail
      go_region_held3 (fun w' => w'.cell? ⟨w.heap.size, 0, none⟩ = some (.int .i64 a) ∧ w'.cell? ⟨w.heap.size, 1, none⟩ = some (.int .i64 b') ∧ w'.cell? ⟨w.heap.size, 2, none⟩ = some (.slice A n cap) ∧ w'.cell? ⟨w2.heap.size, 0, none⟩ = some (.int .i64 a) ∧ w'.cell? ⟨w2.heap.size, 1, none⟩ = some (.int .i64 b') ∧ w'.cell? ⟨w2.heap.size, 2, none⟩ = some (.slice A2 L2.length c2)) (first | assumption | go_keep) (first
        | (go_at_call 14; (with_reducible refine (HASP.out _).mono ?_); rintro e v1 ⟨rfl, hv1⟩; have h01 := bl_step (bl_drew (Below.refl wq.heap.size wq)) hv1; have k1 := keep6 ROW2.out ROWQ.out h01; have H01 := Lib.hid h01)
        | (go_at_call 14; (with_reducible refine (HASQ.out _).mono ?_); rintro e v2 ⟨rfl, hv2⟩; have h02 := bl_step H01.out hv2; have k2 := keep6 ROW2.out ROWQ.out h02; have H02 := Lib.hid h02)
        | (go_at_call 19; (with_reducible refine (HSM.out _ H02.out).mono ?_); rintro e v3 ⟨rfl, hv3⟩; have h03 := bl_step H02.out hv3; have k3 := keep6 ROW2.out ROWQ.out h03; have H03 := Lib.hid h03; have HZ3 := Lib.hid (HSZ.out v3 (HBQ.out.trans (h03.mono HBQ.out.size))))
        | (go_at_call 16; (with_reducible refine HZ3.out.mono ?_); rintro e v4 ⟨rfl, hv4⟩; have h04 := bl_step H03.out hv4; have k4 := keep6 ROW2.out ROWQ.out h04; have HV4 := Lib.hid (HBQ.out.trans (h04.mono HBQ.out.size))))
      go_wp2_with (first
        | (go_at_call 21; (with_reducible refine (HRB.out v4 HV4.out).mono ?_); rintro e w7 ⟨er7, he7, rfl, hb7⟩; (have her7 : (er7 != 0) = true := by simpa using he7); (have HB7 := Lib.hid (HV4.out.trans (hb7.mono HV4.out.size)); clear hb7 he7))
        | (go_at_call 15; (with_reducible refine (write_none _ d).mono ?_); rintro e w8 ⟨er8, rfl, hb8⟩; (have HB8 := Lib.hid (HB7.out.trans ((bl_step (bl_alloc (Below.refl w7.heap.size w7) _) hb8).mono HB7.out.size)); clear hb8))
        | (go_at_call 12; (with_reducible refine (ualive_any _).mono ?_); rintro e w9 ⟨rfl, hb9⟩; (have HB9 := Lib.hid (HB8.out.trans (hb9.mono HB8.out.size)); clear hb9)))
      go_ret
      exact ⟨rfl, HB9.out⟩
    · go_wp2_with (go_at_call 12; refine (ualive_any _).mono ?_; rintro e w2 ⟨rfl, hb2⟩)
      go_ret
      exact ⟨rfl, bl_step (bl_alloc (Below.refl _ _) _) hb2⟩
end Go.Proofs.Ytdklddpkklodnaa
