/-
  UmdGrows: the law walked. UmdGrows: for every packet and every byte. A law's row follows from its walk: the call returns true, and below the heap's old size the world is as it was; then every argument reads as it did. How the packets and bytes that a statement draws read.
-/
import Derived.Test.YtdlgceddhlagnaaJUmdGrows11
import Derived.Test.YtdlgceddhlagnaaJUmdGrows12
import Derived.Test.YtdlgceddhlagnaaJUmdGrows07
import Derived.Test.YtdlgceddhlagnaaRows
import Derived.WalkKit
import Derived.ProofKit
import Derived.OpenShut
import Derived.SizedLaws
import Derived.Deep.Matrix
import Derived.Lib.SmallJoins
namespace Go.Proofs.Ytdlgceddhlagnaa
open Go.RowKit

set_option maxRecDepth 100000 in
set_option maxHeartbeats 32000000 in
theorem ugrows_walk {ad : Addr} {L : List RowB} (fi sn c : Int) (n cap : Nat) (w : World) (hL : L.length = n) (hn0 : 0 < n) (hn : n ≤ 9223372036854775807) (hcap : n ≤ cap) (_hcm : cap ≤ 9223372036854775807) (hs : RSrc w (some ad) L) (hm : ∀ m ∈ lens L, m ≤ 9223372036854775807)
    (hc0 : 0 ≤ c) (hc1 : c < 256) :
    Calls Try.prog 3 #[.agg #[.int .i64 fi, .int .i64 sn, .slice (some ad) n cap], .int .u8 c] w fun e w' => e = .returned (.bool true) ∧ Below w.heap.size w w' := by
  have HGR := Lib.hid (great_any n cap (w.alloc (.cells #[.int .i64 fi, .int .i64 sn, .slice (some ad) n cap] 24)) hL hn (hs.later (bl_alloc (Below.refl _ _) _)) hm)
  have hz : ((n : Int) == 0) = false := by simp; omega
  have HS5 := Lib.hid (fun W (hb : Below w.heap.size w W) => usize_any (A := some ad) fi sn 5 n cap W hL hn (hs.later hb) hm)
  have HS10 := Lib.hid (fun W (hb : Below w.heap.size w W) => usize_any (A := some ad) fi sn 10 n cap W hL hn (hs.later hb) hm)
  have HT := Lib.hid (show growsB (umdF fi sn (lens L) 5) (umdF fi sn (lens L) 10) (umdF fi sn (grown (lens L)) 10) = true from grows_true (by rw [length_lens]; omega))
  have hb5 := umdF_big fi sn (lens L) 5
  have hp5 := umdF_nonneg fi sn (lens L) 5
  have hb10 := umdF_big fi sn (lens L) 10
  have hp10 := umdF_nonneg fi sn (lens L) 10
  generalize hXe : umdF fi sn (grown (lens L)) 10 = sX at HT
  generalize umdF fi sn (lens L) 5 = s5 at *
  generalize umdF fi sn (lens L) 10 = s10 at *
  have HS := Lib.hid hs
  have HL := Lib.hid hL
  have HM := Lib.hid hm
  have ROW0 := Lib.hid (Row.made w 24 #[.int .i64 fi, .int .i64 sn, .slice (some ad) n cap])
  clear hs hL hm
  go_enter Try.func3, Try.ntmps3
  go_wp2_with (go_at_call 14; refine HGR.out.mono ?_; rintro e w1 ⟨⟨b, rfl, hbb⟩, rfl⟩; cases b)
  · obtain ⟨hn40, hs9⟩ := hbb (by first | rfl | trivial)
    go_wp2_with fail
    have k0 := cells_of (w' := (w.alloc (.cells #[.int .i64 fi, .int .i64 sn, .slice (some ad) n cap] 24)).drew) ROW0.out (bl_drew (Below.refl _ _))
    obtain ⟨k00, k01, k02⟩ := k0
    go_region_held3 (fun w' => w'.cell? ⟨w.heap.size, 0, none⟩ = some (.int .i64 fi) ∧ w'.cell? ⟨w.heap.size, 1, none⟩ = some (.int .i64 sn) ∧ w'.cell? ⟨w.heap.size, 2, none⟩ = some (.slice (some ad) n cap)) (first | assumption | go_keep) (first
      | (go_at_call 16; (with_reducible refine (HS5.out _ (bl_drew (bl_alloc (Below.refl _ _) _))).mono ?_); rintro e w2 ⟨rfl, hb2⟩; have k2 := cells_of (ROW0.out.later (bl_drew (Below.refl _ _))) hb2)
      | (go_at_call 16; (with_reducible refine (HS10.out _ (bl_step (bl_drew (bl_alloc (Below.refl _ _) _)) hb2)).mono ?_); rintro e w3 ⟨rfl, hb3⟩; have k3 := cells_of ((ROW0.out.later (bl_drew (Below.refl _ _))).later hb2) hb3))
    have hb03 : Below w.heap.size w w3 := bl_step (bl_step (bl_drew (bl_alloc (Below.refl w.heap.size w) _)) hb2) hb3
    have hsz3 : w.heap.size < w3.heap.size := by
      have h1 := hb2.size
      have h2 := hb3.size
      have h3 : ((w.alloc (.cells #[.int .i64 fi, .int .i64 sn, .slice (some ad) n cap] 24)).drew).heap.size = w.heap.size + 1 := by show (w.alloc _).heap.size = _; simp
      omega
    have ROW3 := Lib.hid (((ROW0.out.later (bl_drew (Below.refl _ _))).later hb2).later hb3)
    have HB3 := Lib.hid hb03
    clear k2 hb2 hb3 k00 k01 k02 hb03
    obtain ⟨k30, k31, k32⟩ := k3
    have HSR := HS.out.later HB3.out
    obtain ⟨ad', hx, hcells⟩ := HSR (by rw [HL.out]; exact hn0)
    injection hx with hx
    subst hx
    have hc3 : ∀ V, Below w3.heap.size w3 V → ∀ (j : Nat) (r : RowB), L[j]? = some r → V.cell? (ad.add j) = some r.v := fun V hV j r hr => cell_below hV (hcells j r hr).1
    have hd3 : Below w3.heap.size w3 w3.drew := bl_drew (Below.refl _ _)
    have hE1 := bl_alloc hd3 (.cells #[] 28)
    have hE2 := bl_alloc hE1 (.cells #[.int .i64 0, .int .i64 0, .slice none 0 0] 24)
    have hZ1 := bl_alloc hd3 (.cells #[.int .i64 0, .int .i64 0, .slice none 0 0] 24)
    have hZ2 := bl_alloc hZ1 (.cells #[] 28)
    have e3 : w3.drew.heap.size = w3.heap.size := rfl
    have e4 : (w3.drew.alloc (.cells #[.int .i64 0, .int .i64 0, .slice none 0 0] 24)).heap.size = w3.heap.size + 1 := by simp
    obtain ⟨gA, cA, wA, hrA, howA, hbA, honA⟩ := grow_row (B := w3.heap.size) (cap := cap) (s := w3.heap.size) (Nat.le_refl _) hE1.size (Row.made w3.drew 28 #[]) HL.out hn0 hn40 hE1 (hc3 _ hE1)
    obtain ⟨gB, cB, wB, hrB, howB, hbB, honB⟩ := grow_row (B := w3.heap.size) (cap := cap) (s := w3.heap.size) (Nat.le_refl _) hE2.size ((Row.made w3.drew 28 #[]).more _) HL.out hn0 hn40 hE2 (hc3 _ hE2)
    obtain ⟨gC, cC, wC, hrC, howC, hbC, honC⟩ := grow_row (B := w3.heap.size) (cap := cap) (s := w3.heap.size + 1) (Nat.le_succ _) hZ2.size (by have h := Row.made (w3.drew.alloc (.cells #[.int .i64 0, .int .i64 0, .slice none 0 0] 24)) 28 #[]; rwa [e4] at h) HL.out hn0 hn40 hZ2 (hc3 _ hZ2)
    have HRA := Lib.hid hrA
    have HRB := Lib.hid hrB
    have HRC := Lib.hid hrC
    have zB : Row wB (w3.heap.size + 1) 24 #[.int .i64 0, .int .i64 0, .slice none 0 0] := by
      have h := Row.made (w3.drew.alloc (.cells #[] 28)) 24 #[.int .i64 0, .int .i64 0, .slice none 0 0]
      rw [show (w3.drew.alloc (.cells #[] 28)).heap.size = w3.heap.size + 1 by simp] at h
      exact h.only honB (by omega)
    have zC : Row wC w3.heap.size 24 #[.int .i64 0, .int .i64 0, .slice none 0 0] := ((Row.made w3.drew 24 #[.int .i64 0, .int .i64 0, .slice none 0 0]).more _).only honC (by omega)
    have zB0 := zB.read (i := 0) rfl
    have zB1 := zB.read (i := 1) rfl
    have zB2 := zB.read (i := 2) rfl
    have zB3 := zB.free 0
    have zB4 := zB.free 1
    have zB5 := zB.free 2
    have zC0 := zC.read (i := 0) rfl
    have zC1 := zC.read (i := 1) rfl
    have zC2 := zC.read (i := 2) rfl
    have zC3 := zC.free 0
    have zC4 := zC.free 1
    have zC5 := zC.free 2
    have kE1 := cells_of ROW3.out hE1
    have kE2 := cells_of ROW3.out hE2
    have kZ1 := cells_of ROW3.out hZ1
    have kZ2 := cells_of ROW3.out hZ2
    have kA := cells_of ROW3.out hbA
    have kB := cells_of ROW3.out hbB
    have kC := cells_of ROW3.out hbC
    have kA2 := cells_of ROW3.out (bl_alloc hbA (.cells #[.int .i64 0, .int .i64 0, .slice none 0 0] 24))
    have hne1 : w.heap.size ≠ w3.heap.size := by omega
    have hne2 : w.heap.size ≠ w3.heap.size + 1 := by omega
    have hne3 : w.heap.size ≠ wA.heap.size := by have := hbA.size; omega
    have RA := Lib.hid ((ROW3.out.later hbA).more (.cells #[.int .i64 0, .int .i64 0, .slice none 0 0] 24))
    have RB := Lib.hid (ROW3.out.later hbB)
    have RC := Lib.hid (ROW3.out.later hbC)
    have hAsz := hbA.size
    have hBsz := hbB.size
    have hCsz := hbC.size
    clear hrA hrB hrC hcells HSR
    have k3d : w3.drew.cell? ⟨w.heap.size, 0, none⟩ = some (.int .i64 fi) ∧ w3.drew.cell? ⟨w.heap.size, 1, none⟩ = some (.int .i64 sn) ∧ w3.drew.cell? ⟨w.heap.size, 2, none⟩ = some (.slice (some ad) n cap) := ⟨k30, k31, k32⟩
    go_wp2_with fail
    go_region_held3 (fun w' => w'.cell? ⟨w.heap.size, 0, none⟩ = some (.int .i64 fi) ∧ w'.cell? ⟨w.heap.size, 1, none⟩ = some (.int .i64 sn) ∧ w'.cell? ⟨w.heap.size, 2, none⟩ = some (.slice (some ad) n cap)) (first | assumption | go_keep | exact cells_of (((RB.out.elsewhere hne2 _).elsewhere hne2 _).elsewhere hne2 _) (Below.refl _ _) | exact cells_of (((RC.out.elsewhere hne1 _).elsewhere hne1 _).elsewhere hne1 _) (Below.refl _ _) | exact cells_of (((RA.out.elsewhere hne3 _).elsewhere hne3 _).elsewhere hne3 _) (Below.refl _ _)) (first
      | (refine step_run (by rfl) (.tmp 28) (.tmp 30) 22 (by rfl) (.slice (some ⟨w3.heap.size, 0, none⟩) 0 0) (.slice (some ad) n cap) (by rfl) (by rfl) HRA.out ?_)
      | (refine step_run (by rfl) (.tmp 28) (.tmp 30) 22 (by rfl) (.slice (some ⟨w3.heap.size, 0, none⟩) 0 0) (.slice (some ad) n cap) (by rfl) (by rfl) HRB.out ?_)
      | (refine step_run (by rfl) (.tmp 28) (.tmp 30) 22 (by rfl) (.slice (some ⟨w3.heap.size + 1, 0, none⟩) 0 0) (.slice (some ad) n cap) (by rfl) (by rfl) HRC.out ?_))
    · have HF := Lib.hid (gotA hsz3 HB3.out (ROW3.out.later hbA) howA hbA)
      generalize (wA.alloc (.cells #[.int .i64 fi, .int .i64 sn, .slice (some ⟨gA, 0, none⟩) n cA] 24)) = V at HF ⊢
      generalize wA.heap.size = P at HF ⊢
      generalize gA = g at HF ⊢
      generalize cA = cg at HF ⊢
      try clear kE1
      try clear kE2
      try clear kZ1
      try clear kZ2
      try clear kA
      try clear kB
      try clear kC
      try clear kA2
      try clear zB
      try clear zC
      try clear zB0
      try clear zB1
      try clear zB2
      try clear zB3
      try clear zB4
      try clear zB5
      try clear zC0
      try clear zC1
      try clear zC2
      try clear zC3
      try clear zC4
      try clear zC5
      try clear HRA
      try clear HRB
      try clear HRC
      try clear RA
      try clear RB
      try clear RC
      try clear hE1
      try clear hE2
      try clear hZ1
      try clear hZ2
      try clear hc3
      try clear hd3
      try clear e3
      try clear e4
      try clear hne1
      try clear hne2
      try clear hne3
      try clear k3d
      try clear k30
      try clear k31
      try clear k32
      try clear hAsz
      try clear hBsz
      try clear hCsz
      try clear HS5
      try clear HS10
      try clear HGR
      try clear ROW3
      try clear ROW0
      try clear honA
      try clear honB
      try clear honC
      try clear howA
      try clear howB
      try clear howC
      try clear hbA
      try clear hbB
      try clear hbC
      obtain ⟨k, rfl⟩ : ∃ k, n = k + 1 := ⟨n - 1, by omega⟩
      obtain ⟨⟨A, cp, bs⟩, hr⟩ : ∃ r, L[k]? = some r := ⟨L[k]'(by rw [HL.out]; omega), by simp⟩
      obtain ⟨b, rfl⟩ : ∃ b : Nat, c = (b : Int) := ⟨c.toNat, by omega⟩
      have hm9 : bs.length ≤ 9000 := Nat.le_trans (le_sum_at (lens_at hr)) (by omega)
      have hb256 : b < 256 := by omega
      obtain ⟨m, hm⟩ : ∃ m, bs.length = m := ⟨_, rfl⟩
      rw [hm] at hm9
      obtain ⟨R1, R2, R3⟩ := six (b := b) HF.out HS.out hr hm hm9
      obtain ⟨A1, c1, w1, p1, A2, c2, w2, p2, p3, p4, p5, p6, p7⟩ := R1
      obtain ⟨B1, d1, v1, q1, B2, d2, v2, q2, q3, q4, q5, q6, q7⟩ := R2
      obtain ⟨D1, f1, u1, s1, D2, f2, u2, s2, s3, s4, s5', s6, s7⟩ := R3
      have ev : (RowB.mk A cp bs).v = .slice A m cp := by unfold RowB.v; rw [hm]
      have hX0 : Below V.heap.size V V.drew := bl_drew (Below.refl _ _)
      have hX1 := bl_alloc hX0 (.cells #[] 5)
      have hX2 := bl_alloc hX1 (.cells #[.int .u8 b] 5)
      have hX3 := bl_alloc hX0 (.cells #[.int .u8 b] 5)
      have hX4 := bl_alloc hX3 (.cells #[] 5)
      replace s6 : Below V.heap.size V u2 := hX0.trans s6
      replace s7 : Below V.heap.size V u1 := hX0.trans s7
      have hX5 : Below V.heap.size V (u1.alloc (.cells #[.int .u8 b] 5)) := bl_alloc s7 _
      have HK := Lib.hid (fun W hb => kp6 (V' := W) HF.out HS.out hr hb)
      rw [ev] at HK
      have HA1 := Lib.hid (after6 HF.out HS.out hr hm hb256 p3 p4 p5 p6)
      have HA2 := Lib.hid (after6 HF.out HS.out hr hm hb256 q3 q4 q5 q6)
      have HA3 := Lib.hid (after6 HF.out HS.out hr hm hb256 s3 s4 s5' s6)
      have z0 := (HK.out _ (Below.refl _ _)).1
      have z1 := (HK.out _ hX0).1
      have z2 := (HK.out _ hX1).1
      have z3 := (HK.out _ hX2).1
      have z4 := (HK.out _ hX3).1
      have z5 := (HK.out _ hX4).1
      have z6 := (HK.out _ hX5).1
      obtain ⟨z7, z7c, z7f⟩ := HK.out _ p6
      have z8 := (HK.out _ p7).1
      obtain ⟨z9, z9c, z9f⟩ := HK.out _ q6
      have y0 := (HK.out _ q7).1
      obtain ⟨y1, y1c, y1f⟩ := HK.out _ s6
      have y2 := (HK.out _ s7).1
      obtain ⟨zz0, zz1, zz2⟩ := z0
      have t0 := kp_after (.slice A2 (m + 1) c2) HF.out HS.out hr p6
      have t1 := kp_after (.slice B2 (m + 1) d2) HF.out HS.out hr q6
      have t2 := kp_after (.slice D2 (m + 1) f2) HF.out HS.out hr s6
      rw [ev] at t0 t1 t2
      clear hX0 hX1 hX2 hX3 hX4 hX5 p3 p4 p5 p6 p7 q3 q4 q5 q6 q7 s3 s4 s5' s6 s7 ev
      go_wp2_with fail
      have z1' := z1
      have i0 : (0 : Int) ≤ (k : Int) := by omega
      have i1 : (k : Int) < ((k + 1 : Nat) : Int) := by omega
      have i2 : (k : Int) < (k : Int) + 1 := by omega
      go_region_held3 (fun w' => w'.cell? ⟨w.heap.size, 2, none⟩ = some (.slice (some ad) (k + 1) cap) ∧ w'.cell? ⟨P, 2, none⟩ = some (.slice (some ⟨g, 0, none⟩) (k + 1) cg) ∧ w'.cell? (ad.add k) = some (.slice A m cp)) (first | assumption | go_keep) (first
        | (refine step_run (by rfl) (.tmp 40) (.tmp 45) 28 (by rfl) (.slice (some ⟨V.heap.size, 0, none⟩) 0 0) (.slice A m cp) (by rfl) (by rfl) p1 ?_)
        | (refine step_run (by rfl) (.tmp 40) (.tmp 45) 28 (by rfl) (.slice (some ⟨V.heap.size + 1, 0, none⟩) 0 0) (.slice A m cp) (by rfl) (by rfl) q1 ?_)
        | (refine step_run (by rfl) (.tmp 40) (.tmp 45) 28 (by rfl) (.slice (some ⟨V.heap.size, 0, none⟩) 0 0) (.slice A m cp) (by rfl) (by rfl) s1 ?_)
        | (refine step_run (by rfl) (.tmp 46) (.tmp 48) 28 (by rfl) (.slice A1 m c1) (.slice (some ⟨V.heap.size + 1, 0, none⟩) 1 1) (by rfl) (by rfl) p2 ?_)
        | (refine step_run (by rfl) (.tmp 46) (.tmp 48) 28 (by rfl) (.slice B1 m d1) (.slice (some ⟨V.heap.size, 0, none⟩) 1 1) (by rfl) (by rfl) q2 ?_)
        | (refine step_run (by rfl) (.tmp 46) (.tmp 48) 28 (by rfl) (.slice D1 m f1) (.slice (some ⟨u1.heap.size, 0, none⟩) 1 1) (by rfl) (by rfl) s2 ?_))
      all_goals first
        | (show Exit.then _ _ Exit.normal _ (w2.setCell ⟨g, k, none⟩ (.slice A2 (m + 1) c2)); have HQ := HA1; have HS7 := Lib.hid (size7 HL.out hn hr HQ.out); generalize (w2.setCell ⟨g, k, none⟩ (.slice A2 (m + 1) c2)) = Y at HQ HS7 ⊢)
        | (show Exit.then _ _ Exit.normal _ (v2.setCell ⟨g, k, none⟩ (.slice B2 (m + 1) d2)); have HQ := HA2; have HS7 := Lib.hid (size7 HL.out hn hr HQ.out); generalize (v2.setCell ⟨g, k, none⟩ (.slice B2 (m + 1) d2)) = Y at HQ HS7 ⊢)
        | (show Exit.then _ _ Exit.normal _ (u2.setCell ⟨g, k, none⟩ (.slice D2 (m + 1) f2)); have HQ := HA3; have HS7 := Lib.hid (size7 HL.out hn hr HQ.out); generalize (u2.setCell ⟨g, k, none⟩ (.slice D2 (m + 1) f2)) = Y at HQ HS7 ⊢)
      all_goals
        rw [hXe] at HS7
        obtain ⟨n1, _, n3⟩ := HQ.out
        have o0 := n1.read (i := 0) rfl
        have o1 := n1.read (i := 1) rfl
        have o2 := n1.read (i := 2) rfl
        have HY := Lib.hid n3
        clear n1 n3 HA1 HA2 HA3 HQ z1 z2 z3 z4 z5 z6 z7 z8 z9 y0 y1 y2 zz0 zz1 zz2 z7c z7f z9c z9f y1c y1f t0 t1 t2 p1 p2 q1 q2 s1 s2 HK HF z1'
        rcases grows_case HT.out hp5 with ⟨g1, g2⟩ | ⟨g1, g2, g3⟩ | ⟨g1, g2, g3, g4, g5⟩ | ⟨g1, g2, g3⟩ | ⟨g1, g2, g3, g4, g5⟩ | ⟨g1, g2, g3, g4, g5⟩ | ⟨g1, g2, g3, g4, g5, g6, g7⟩
        all_goals
          go_wp2_with (first
            | (go_at_call 16; (with_reducible refine HS7.out.mono ?_); rintro e w7 ⟨rfl, hb7⟩)
            | (go_at_call 15; refine (ualive_any _).mono ?_; rintro e w8 ⟨rfl, hb8⟩))
          go_ret
          exact ⟨rfl, HY.out.trans ((hb7.trans (hb8.mono hb7.size)).mono HY.out.size)⟩
    · have HF := Lib.hid (gotB (P := w3.heap.size + 1) hsz3 HB3.out (Nat.le_succ _) zB (ROW3.out.later hbB) howB hbB)
      generalize (((wB.setCell ⟨w3.heap.size + 1, 0, none⟩ (.int .i64 fi)).setCell ⟨w3.heap.size + 1, 1, none⟩ (.int .i64 sn)).setCell ⟨w3.heap.size + 1, 2, none⟩ (.slice (some ⟨gB, 0, none⟩) n cB)) = V at HF ⊢
      generalize w3.heap.size + 1 = P at HF ⊢
      generalize gB = g at HF ⊢
      generalize cB = cg at HF ⊢
      try clear kE1
      try clear kE2
      try clear kZ1
      try clear kZ2
      try clear kA
      try clear kB
      try clear kC
      try clear kA2
      try clear zB
      try clear zC
      try clear zB0
      try clear zB1
      try clear zB2
      try clear zB3
      try clear zB4
      try clear zB5
      try clear zC0
      try clear zC1
      try clear zC2
      try clear zC3
      try clear zC4
      try clear zC5
      try clear HRA
      try clear HRB
      try clear HRC
      try clear RA
      try clear RB
      try clear RC
      try clear hE1
      try clear hE2
      try clear hZ1
      try clear hZ2
      try clear hc3
      try clear hd3
      try clear e3
      try clear e4
      try clear hne1
      try clear hne2
      try clear hne3
      try clear k3d
      try clear k30
      try clear k31
      try clear k32
      try clear hAsz
      try clear hBsz
      try clear hCsz
      try clear HS5
      try clear HS10
      try clear HGR
      try clear ROW3
      try clear ROW0
      try clear honA
      try clear honB
      try clear honC
      try clear howA
      try clear howB
      try clear howC
      try clear hbA
      try clear hbB
      try clear hbC
      obtain ⟨k, rfl⟩ : ∃ k, n = k + 1 := ⟨n - 1, by omega⟩
      obtain ⟨⟨A, cp, bs⟩, hr⟩ : ∃ r, L[k]? = some r := ⟨L[k]'(by rw [HL.out]; omega), by simp⟩
      obtain ⟨b, rfl⟩ : ∃ b : Nat, c = (b : Int) := ⟨c.toNat, by omega⟩
      have hm9 : bs.length ≤ 9000 := Nat.le_trans (le_sum_at (lens_at hr)) (by omega)
      have hb256 : b < 256 := by omega
      obtain ⟨m, hm⟩ : ∃ m, bs.length = m := ⟨_, rfl⟩
      rw [hm] at hm9
      obtain ⟨R1, R2, R3⟩ := six (b := b) HF.out HS.out hr hm hm9
      obtain ⟨A1, c1, w1, p1, A2, c2, w2, p2, p3, p4, p5, p6, p7⟩ := R1
      obtain ⟨B1, d1, v1, q1, B2, d2, v2, q2, q3, q4, q5, q6, q7⟩ := R2
      obtain ⟨D1, f1, u1, s1, D2, f2, u2, s2, s3, s4, s5', s6, s7⟩ := R3
      have ev : (RowB.mk A cp bs).v = .slice A m cp := by unfold RowB.v; rw [hm]
      have hX0 : Below V.heap.size V V.drew := bl_drew (Below.refl _ _)
      have hX1 := bl_alloc hX0 (.cells #[] 5)
      have hX2 := bl_alloc hX1 (.cells #[.int .u8 b] 5)
      have hX3 := bl_alloc hX0 (.cells #[.int .u8 b] 5)
      have hX4 := bl_alloc hX3 (.cells #[] 5)
      replace s6 : Below V.heap.size V u2 := hX0.trans s6
      replace s7 : Below V.heap.size V u1 := hX0.trans s7
      have hX5 : Below V.heap.size V (u1.alloc (.cells #[.int .u8 b] 5)) := bl_alloc s7 _
      have HK := Lib.hid (fun W hb => kp6 (V' := W) HF.out HS.out hr hb)
      rw [ev] at HK
      have HA1 := Lib.hid (after6 HF.out HS.out hr hm hb256 p3 p4 p5 p6)
      have HA2 := Lib.hid (after6 HF.out HS.out hr hm hb256 q3 q4 q5 q6)
      have HA3 := Lib.hid (after6 HF.out HS.out hr hm hb256 s3 s4 s5' s6)
      have z0 := (HK.out _ (Below.refl _ _)).1
      have z1 := (HK.out _ hX0).1
      have z2 := (HK.out _ hX1).1
      have z3 := (HK.out _ hX2).1
      have z4 := (HK.out _ hX3).1
      have z5 := (HK.out _ hX4).1
      have z6 := (HK.out _ hX5).1
      obtain ⟨z7, z7c, z7f⟩ := HK.out _ p6
      have z8 := (HK.out _ p7).1
      obtain ⟨z9, z9c, z9f⟩ := HK.out _ q6
      have y0 := (HK.out _ q7).1
      obtain ⟨y1, y1c, y1f⟩ := HK.out _ s6
      have y2 := (HK.out _ s7).1
      obtain ⟨zz0, zz1, zz2⟩ := z0
      have t0 := kp_after (.slice A2 (m + 1) c2) HF.out HS.out hr p6
      have t1 := kp_after (.slice B2 (m + 1) d2) HF.out HS.out hr q6
      have t2 := kp_after (.slice D2 (m + 1) f2) HF.out HS.out hr s6
      rw [ev] at t0 t1 t2
      clear hX0 hX1 hX2 hX3 hX4 hX5 p3 p4 p5 p6 p7 q3 q4 q5 q6 q7 s3 s4 s5' s6 s7 ev
      go_wp2_with fail
      have z1' := z1
      have i0 : (0 : Int) ≤ (k : Int) := by omega
      have i1 : (k : Int) < ((k + 1 : Nat) : Int) := by omega
      have i2 : (k : Int) < (k : Int) + 1 := by omega
      go_region_held3 (fun w' => w'.cell? ⟨w.heap.size, 2, none⟩ = some (.slice (some ad) (k + 1) cap) ∧ w'.cell? ⟨P, 2, none⟩ = some (.slice (some ⟨g, 0, none⟩) (k + 1) cg) ∧ w'.cell? (ad.add k) = some (.slice A m cp)) (first | assumption | go_keep) (first
        | (refine step_run (by rfl) (.tmp 40) (.tmp 45) 28 (by rfl) (.slice (some ⟨V.heap.size, 0, none⟩) 0 0) (.slice A m cp) (by rfl) (by rfl) p1 ?_)
        | (refine step_run (by rfl) (.tmp 40) (.tmp 45) 28 (by rfl) (.slice (some ⟨V.heap.size + 1, 0, none⟩) 0 0) (.slice A m cp) (by rfl) (by rfl) q1 ?_)
        | (refine step_run (by rfl) (.tmp 40) (.tmp 45) 28 (by rfl) (.slice (some ⟨V.heap.size, 0, none⟩) 0 0) (.slice A m cp) (by rfl) (by rfl) s1 ?_)
        | (refine step_run (by rfl) (.tmp 46) (.tmp 48) 28 (by rfl) (.slice A1 m c1) (.slice (some ⟨V.heap.size + 1, 0, none⟩) 1 1) (by rfl) (by rfl) p2 ?_)
        | (refine step_run (by rfl) (.tmp 46) (.tmp 48) 28 (by rfl) (.slice B1 m d1) (.slice (some ⟨V.heap.size, 0, none⟩) 1 1) (by rfl) (by rfl) q2 ?_)
        | (refine step_run (by rfl) (.tmp 46) (.tmp 48) 28 (by rfl) (.slice D1 m f1) (.slice (some ⟨u1.heap.size, 0, none⟩) 1 1) (by rfl) (by rfl) s2 ?_))
      all_goals first
        | (show Exit.then _ _ Exit.normal _ (w2.setCell ⟨g, k, none⟩ (.slice A2 (m + 1) c2)); have HQ := HA1; have HS7 := Lib.hid (size7 HL.out hn hr HQ.out); generalize (w2.setCell ⟨g, k, none⟩ (.slice A2 (m + 1) c2)) = Y at HQ HS7 ⊢)
        | (show Exit.then _ _ Exit.normal _ (v2.setCell ⟨g, k, none⟩ (.slice B2 (m + 1) d2)); have HQ := HA2; have HS7 := Lib.hid (size7 HL.out hn hr HQ.out); generalize (v2.setCell ⟨g, k, none⟩ (.slice B2 (m + 1) d2)) = Y at HQ HS7 ⊢)
        | (show Exit.then _ _ Exit.normal _ (u2.setCell ⟨g, k, none⟩ (.slice D2 (m + 1) f2)); have HQ := HA3; have HS7 := Lib.hid (size7 HL.out hn hr HQ.out); generalize (u2.setCell ⟨g, k, none⟩ (.slice D2 (m + 1) f2)) = Y at HQ HS7 ⊢)
      all_goals
        rw [hXe] at HS7
        obtain ⟨n1, _, n3⟩ := HQ.out
        have o0 := n1.read (i := 0) rfl
        have o1 := n1.read (i := 1) rfl
        have o2 := n1.read (i := 2) rfl
        have HY := Lib.hid n3
        clear n1 n3 HA1 HA2 HA3 HQ z1 z2 z3 z4 z5 z6 z7 z8 z9 y0 y1 y2 zz0 zz1 zz2 z7c z7f z9c z9f y1c y1f t0 t1 t2 p1 p2 q1 q2 s1 s2 HK HF z1'
        rcases grows_case HT.out hp5 with ⟨g1, g2⟩ | ⟨g1, g2, g3⟩ | ⟨g1, g2, g3, g4, g5⟩ | ⟨g1, g2, g3⟩ | ⟨g1, g2, g3, g4, g5⟩ | ⟨g1, g2, g3, g4, g5⟩ | ⟨g1, g2, g3, g4, g5, g6, g7⟩
        all_goals
          go_wp2_with (first
            | (go_at_call 16; (with_reducible refine HS7.out.mono ?_); rintro e w7 ⟨rfl, hb7⟩)
            | (go_at_call 15; refine (ualive_any _).mono ?_; rintro e w8 ⟨rfl, hb8⟩))
          go_ret
          exact ⟨rfl, HY.out.trans ((hb7.trans (hb8.mono hb7.size)).mono HY.out.size)⟩
    · have HF := Lib.hid (gotB hsz3 HB3.out (Nat.le_refl _) zC (ROW3.out.later hbC) howC hbC)
      generalize (((wC.setCell ⟨w3.heap.size, 0, none⟩ (.int .i64 fi)).setCell ⟨w3.heap.size, 1, none⟩ (.int .i64 sn)).setCell ⟨w3.heap.size, 2, none⟩ (.slice (some ⟨gC, 0, none⟩) n cC)) = V at HF ⊢
      generalize w3.heap.size = P at HF ⊢
      generalize gC = g at HF ⊢
      generalize cC = cg at HF ⊢
      try clear kE1
      try clear kE2
      try clear kZ1
      try clear kZ2
      try clear kA
      try clear kB
      try clear kC
      try clear kA2
      try clear zB
      try clear zC
      try clear zB0
      try clear zB1
      try clear zB2
      try clear zB3
      try clear zB4
      try clear zB5
      try clear zC0
      try clear zC1
      try clear zC2
      try clear zC3
      try clear zC4
      try clear zC5
      try clear HRA
      try clear HRB
      try clear HRC
      try clear RA
      try clear RB
      try clear RC
      try clear hE1
      try clear hE2
      try clear hZ1
      try clear hZ2
      try clear hc3
      try clear hd3
      try clear e3
      try clear e4
      try clear hne1
      try clear hne2
      try clear hne3
      try clear k3d
      try clear k30
      try clear k31
      try clear k32
      try clear hAsz
      try clear hBsz
      try clear hCsz
      try clear HS5
      try clear HS10
      try clear HGR
      try clear ROW3
      try clear ROW0
      try clear honA
      try clear honB
      try clear honC
      try clear howA
      try clear howB
      try clear howC
      try clear hbA
      try clear hbB
      try clear hbC
      obtain ⟨k, rfl⟩ : ∃ k, n = k + 1 := ⟨n - 1, by omega⟩
      obtain ⟨⟨A, cp, bs⟩, hr⟩ : ∃ r, L[k]? = some r := ⟨L[k]'(by rw [HL.out]; omega), by simp⟩
      obtain ⟨b, rfl⟩ : ∃ b : Nat, c = (b : Int) := ⟨c.toNat, by omega⟩
      have hm9 : bs.length ≤ 9000 := Nat.le_trans (le_sum_at (lens_at hr)) (by omega)
      have hb256 : b < 256 := by omega
      obtain ⟨m, hm⟩ : ∃ m, bs.length = m := ⟨_, rfl⟩
      rw [hm] at hm9
      obtain ⟨R1, R2, R3⟩ := six (b := b) HF.out HS.out hr hm hm9
      obtain ⟨A1, c1, w1, p1, A2, c2, w2, p2, p3, p4, p5, p6, p7⟩ := R1
      obtain ⟨B1, d1, v1, q1, B2, d2, v2, q2, q3, q4, q5, q6, q7⟩ := R2
      obtain ⟨D1, f1, u1, s1, D2, f2, u2, s2, s3, s4, s5', s6, s7⟩ := R3
      have ev : (RowB.mk A cp bs).v = .slice A m cp := by unfold RowB.v; rw [hm]
      have hX0 : Below V.heap.size V V.drew := bl_drew (Below.refl _ _)
      have hX1 := bl_alloc hX0 (.cells #[] 5)
      have hX2 := bl_alloc hX1 (.cells #[.int .u8 b] 5)
      have hX3 := bl_alloc hX0 (.cells #[.int .u8 b] 5)
      have hX4 := bl_alloc hX3 (.cells #[] 5)
      replace s6 : Below V.heap.size V u2 := hX0.trans s6
      replace s7 : Below V.heap.size V u1 := hX0.trans s7
      have hX5 : Below V.heap.size V (u1.alloc (.cells #[.int .u8 b] 5)) := bl_alloc s7 _
      have HK := Lib.hid (fun W hb => kp6 (V' := W) HF.out HS.out hr hb)
      rw [ev] at HK
      have HA1 := Lib.hid (after6 HF.out HS.out hr hm hb256 p3 p4 p5 p6)
      have HA2 := Lib.hid (after6 HF.out HS.out hr hm hb256 q3 q4 q5 q6)
      have HA3 := Lib.hid (after6 HF.out HS.out hr hm hb256 s3 s4 s5' s6)
      have z0 := (HK.out _ (Below.refl _ _)).1
      have z1 := (HK.out _ hX0).1
      have z2 := (HK.out _ hX1).1
      have z3 := (HK.out _ hX2).1
      have z4 := (HK.out _ hX3).1
      have z5 := (HK.out _ hX4).1
      have z6 := (HK.out _ hX5).1
      obtain ⟨z7, z7c, z7f⟩ := HK.out _ p6
      have z8 := (HK.out _ p7).1
      obtain ⟨z9, z9c, z9f⟩ := HK.out _ q6
      have y0 := (HK.out _ q7).1
      obtain ⟨y1, y1c, y1f⟩ := HK.out _ s6
      have y2 := (HK.out _ s7).1
      obtain ⟨zz0, zz1, zz2⟩ := z0
      have t0 := kp_after (.slice A2 (m + 1) c2) HF.out HS.out hr p6
      have t1 := kp_after (.slice B2 (m + 1) d2) HF.out HS.out hr q6
      have t2 := kp_after (.slice D2 (m + 1) f2) HF.out HS.out hr s6
      rw [ev] at t0 t1 t2
      clear hX0 hX1 hX2 hX3 hX4 hX5 p3 p4 p5 p6 p7 q3 q4 q5 q6 q7 s3 s4 s5' s6 s7 ev
      go_wp2_with fail
      have z1' := z1
      have i0 : (0 : Int) ≤ (k : Int) := by omega
      have i1 : (k : Int) < ((k + 1 : Nat) : Int) := by omega
      have i2 : (k : Int) < (k : Int) + 1 := by omega
      go_region_held3 (fun w' => w'.cell? ⟨w.heap.size, 2, none⟩ = some (.slice (some ad) (k + 1) cap) ∧ w'.cell? ⟨P, 2, none⟩ = some (.slice (some ⟨g, 0, none⟩) (k + 1) cg) ∧ w'.cell? (ad.add k) = some (.slice A m cp)) (first | assumption | go_keep) (first
        | (refine step_run (by rfl) (.tmp 40) (.tmp 45) 28 (by rfl) (.slice (some ⟨V.heap.size, 0, none⟩) 0 0) (.slice A m cp) (by rfl) (by rfl) p1 ?_)
        | (refine step_run (by rfl) (.tmp 40) (.tmp 45) 28 (by rfl) (.slice (some ⟨V.heap.size + 1, 0, none⟩) 0 0) (.slice A m cp) (by rfl) (by rfl) q1 ?_)
        | (refine step_run (by rfl) (.tmp 40) (.tmp 45) 28 (by rfl) (.slice (some ⟨V.heap.size, 0, none⟩) 0 0) (.slice A m cp) (by rfl) (by rfl) s1 ?_)
        | (refine step_run (by rfl) (.tmp 46) (.tmp 48) 28 (by rfl) (.slice A1 m c1) (.slice (some ⟨V.heap.size + 1, 0, none⟩) 1 1) (by rfl) (by rfl) p2 ?_)
        | (refine step_run (by rfl) (.tmp 46) (.tmp 48) 28 (by rfl) (.slice B1 m d1) (.slice (some ⟨V.heap.size, 0, none⟩) 1 1) (by rfl) (by rfl) q2 ?_)
        | (refine step_run (by rfl) (.tmp 46) (.tmp 48) 28 (by rfl) (.slice D1 m f1) (.slice (some ⟨u1.heap.size, 0, none⟩) 1 1) (by rfl) (by rfl) s2 ?_))
      all_goals first
        | (show Exit.then _ _ Exit.normal _ (w2.setCell ⟨g, k, none⟩ (.slice A2 (m + 1) c2)); have HQ := HA1; have HS7 := Lib.hid (size7 HL.out hn hr HQ.out); generalize (w2.setCell ⟨g, k, none⟩ (.slice A2 (m + 1) c2)) = Y at HQ HS7 ⊢)
        | (show Exit.then _ _ Exit.normal _ (v2.setCell ⟨g, k, none⟩ (.slice B2 (m + 1) d2)); have HQ := HA2; have HS7 := Lib.hid (size7 HL.out hn hr HQ.out); generalize (v2.setCell ⟨g, k, none⟩ (.slice B2 (m + 1) d2)) = Y at HQ HS7 ⊢)
        | (show Exit.then _ _ Exit.normal _ (u2.setCell ⟨g, k, none⟩ (.slice D2 (m + 1) f2)); have HQ := HA3; have HS7 := Lib.hid (size7 HL.out hn hr HQ.out); generalize (u2.setCell ⟨g, k, none⟩ (.slice D2 (m + 1) f2)) = Y at HQ HS7 ⊢)
      all_goals
        rw [hXe] at HS7
        obtain ⟨n1, _, n3⟩ := HQ.out
        have o0 := n1.read (i := 0) rfl
        have o1 := n1.read (i := 1) rfl
        have o2 := n1.read (i := 2) rfl
        have HY := Lib.hid n3
        clear n1 n3 HA1 HA2 HA3 HQ z1 z2 z3 z4 z5 z6 z7 z8 z9 y0 y1 y2 zz0 zz1 zz2 z7c z7f z9c z9f y1c y1f t0 t1 t2 p1 p2 q1 q2 s1 s2 HK HF z1'
        rcases grows_case HT.out hp5 with ⟨g1, g2⟩ | ⟨g1, g2, g3⟩ | ⟨g1, g2, g3, g4, g5⟩ | ⟨g1, g2, g3⟩ | ⟨g1, g2, g3, g4, g5⟩ | ⟨g1, g2, g3, g4, g5⟩ | ⟨g1, g2, g3, g4, g5, g6, g7⟩
        all_goals
          go_wp2_with (first
            | (go_at_call 16; (with_reducible refine HS7.out.mono ?_); rintro e w7 ⟨rfl, hb7⟩)
            | (go_at_call 15; refine (ualive_any _).mono ?_; rintro e w8 ⟨rfl, hb8⟩))
          go_ret
          exact ⟨rfl, HY.out.trans ((hb7.trans (hb8.mono hb7.size)).mono HY.out.size)⟩
  · go_wp2_with (go_at_call 15; refine (ualive_any _).mono ?_; rintro e w2 ⟨rfl, hb2⟩)
    go_ret
    exact ⟨rfl, bl_step (bl_alloc (Below.refl _ _) _) hb2⟩
end Go.Proofs.Ytdlgceddhlagnaa
namespace Go.Proofs.Ytdlgceddhlagnaa
open Go.RowKit

set_option maxRecDepth 100000 in
set_option maxHeartbeats 800000 in
theorem ugrows_none {A : Option Addr} {L : List RowB} (fi sn c : Int) (cap : Nat) (w : World) (hL : L.length = 0) (hs : RSrc w A L) (hm : ∀ m ∈ lens L, m ≤ 9223372036854775807) :
    Calls Try.prog 3 #[.agg #[.int .i64 fi, .int .i64 sn, .slice A 0 cap], .int .u8 c] w fun e w' => e = .returned (.bool true) ∧ Below w.heap.size w w' := by
  have HGR := Lib.hid (great_any (A := A) 0 cap (w.alloc (.cells #[.int .i64 fi, .int .i64 sn, .slice A 0 cap] 24)) hL (by omega) (hs.later (bl_alloc (Below.refl _ _) _)) hm)
  clear hs hL hm
  go_enter Try.func3, Try.ntmps3
  go_wp2_with (go_at_call 14; refine HGR.out.mono ?_; rintro e w1 ⟨⟨b, rfl, hbb⟩, rfl⟩; cases b)
  all_goals
    go_wp2_with (go_at_call 15; refine (ualive_any _).mono ?_; rintro e w2 ⟨rfl, hb2⟩)
    go_ret
    exact ⟨rfl, bl_step (bl_alloc (Below.refl _ _) _) hb2⟩
theorem ugrows_all {A : Option Addr} (fi sn c : Int) (L : List RowB) (cap : Nat) (w : World) (hcap : L.length ≤ cap) (hcm : cap ≤ 9223372036854775807) (hs : RSrc w A L) (hm : ∀ m ∈ lens L, m ≤ 9223372036854775807) (hc0 : 0 ≤ c) (hc1 : c < 256) :
    Calls Try.prog 3 #[.agg #[.int .i64 fi, .int .i64 sn, .slice A L.length cap], .int .u8 c] w fun e w' => e = .returned (.bool true) ∧ Below w.heap.size w w' := by
  rcases Nat.eq_zero_or_pos L.length with h0 | h0
  · rw [h0]
    exact ugrows_none fi sn c cap w h0 hs hm
  · obtain ⟨ad, rfl, _⟩ := hs h0
    exact ugrows_walk fi sn c L.length cap w rfl h0 (by omega) hcap hcm hs hm hc0 hc1
end Go.Proofs.Ytdlgceddhlagnaa
namespace Go.Proofs.Ytdlgceddhlagnaa
open Go.ChangeShapes Go.WideShapes Go.ChangeAt Go.RowKit

theorem lawOwn : ownKnob Try.prog.godebug = none := by kernel_rfl
theorem lawLaid : laidOutB Try.prog = true := by kernel_rfl

section
variable {H : Type} {enc : TypeId × Value → H} {P : Program}
/-- what was read in the old world is read in the new one -/
theorem args_stay (hl : laidOutB P = true) {W W' : World} (hb : Below W.heap.size W W') : ∀ (ts : List TypeId) (vs : List Value) (ds : List (DataW H)) (ps : List MemPlace),
    (∀ t ∈ ts, P.readableRec t = true ∧ t < P.types.size) → DataW.TrodAll enc P W 0 (fun _ => true) true ts vs ds ps → (∀ x ∈ ps, x.block < W.heap.size) →
    DataW.TrodAll enc P W' 0 (fun b => decide (b < W.heap.size)) true ts vs ds ps := by
  intro ts
  induction ts with
  | nil =>
    intro vs ds ps _ h _
    obtain ⟨rfl, rfl, rfl⟩ := trodAll_nil h
    exact trodAll_mk0
  | cons t ts ih =>
    intro vs ds ps hr h hlt
    obtain ⟨v, vs', d, ds', p, q, rfl, rfl, rfl, h1, h2⟩ := trodAll_cons h
    have ht := hr t (List.mem_cons_self ..)
    exact trodAll_cons_mk (Below.trod hl ht.1 ht.2 h1 hb fun x hx => hlt x (List.mem_append_left _ hx))
      (ih vs' ds' q (fun u hu => hr u (List.mem_cons_of_mem _ hu)) h2 fun x hx => hlt x (List.mem_append_right _ hx))

theorem law_post {f : Func} {s : ChangeSpec} {W W' : World} {args : Array Value} {ds gs : List (DataW H)} {before : List MemPlace} {B : TypeId}
    (hl : laidOutB P = true) (hr : f.params.toList.all (fun t => P.readableRec t && decide (t < P.types.size)) = true) (hv : s.vars = [])
    (hW : DataW.Whole enc P f.params.toList s.vars false W args.toList ds gs before)
    (hs : s.fn H (ds ++ gs) = { results := [.lit (.bool true)], args := ds }) (ht : f.resultTypes = #[B]) (hB : P.underlying B = some .bool)
    (hb : Below W.heap.size W W') : s.post enc P f false true false false W args (.bool true) W' := by
  have hW' := hW
  obtain ⟨p, q, hA, hV, rfl, _, _⟩ := hW
  rw [hv] at hV
  obtain ⟨rfl, rfl⟩ := trodVars_none hV
  refine ⟨ds, [], p ++ [], [], p, [], hW', ?_, ?_, ?_, hb.frame _, fun h => by cases h⟩
  · rw [hs, ht]
    exact trodAll_mk1 (shut_bool hB true)
  · rw [hs]
    exact args_stay hl hb _ _ _ _ (fun t h => by have := List.all_eq_true.1 hr t h; simpa using this) hA fun x hx => hW'.lt x (List.mem_append_left _ hx)
  · rw [hs, hv]
    exact rfl
end
end Go.Proofs.Ytdlgceddhlagnaa
namespace Go.Proofs.Ytdlgceddhlagnaa
open Go.ChangeShapes Go.WideShapes Go.ChangeAt Go.RowKit Go.Deep


theorem Try.cells5 : Try.prog.cellsOf 5 = 1 := by kernel_rfl
theorem Try.cells28 : Try.prog.cellsOf 28 = 1 := by kernel_rfl
theorem nums_src {W : World} {a : Addr} {cap len : Nat} {zs : List Int} (hl : len ≤ cap) (hz : zs.length = cap) (hc : ∀ j, j < cap → W.cell? (a.add j) = some (.int .u8 (zs.getD j 0))) (hw : ∀ n ∈ zs, (Lit.int .u8 n).wf = true) :
    ((zs.take len).map Int.toNat).length = len ∧ Src W (some a) (bts ((zs.take len).map Int.toNat)) ∧ ∀ b ∈ (zs.take len).map Int.toNat, b < 256 := by
  have hlen : ((zs.take len).map Int.toNat).length = len := by rw [List.length_map, List.length_take]; omega
  refine ⟨hlen, fun h0 => ⟨a, rfl, fun j u hu => ?_⟩, fun b hb => ?_⟩
  · have hj : j < len := by
      have h1 := (List.getElem?_eq_some_iff.1 hu).1
      rw [length_bts, hlen] at h1
      exact h1
    have h2 := hc j (by omega)
    rw [h2]
    have hjz : j < zs.length := by omega
    have hww := bounds_u8 (hw zs[j] (List.getElem_mem hjz))
    have h3 : ((zs.take len).map Int.toNat)[j]? = some zs[j].toNat := by
      rw [List.getElem?_map, List.getElem?_take, if_pos hj, List.getElem?_eq_getElem hjz]
      rfl
    have h4 := bts_at h3
    rw [h4] at hu
    injection hu with hu
    rw [← hu, List.getD_eq_getElem?_getD, List.getElem?_eq_getElem hjz]
    simp only [Option.getD_some]
    rw [Int.toNat_of_nonneg hww.1]
  · rw [List.mem_map] at hb
    obtain ⟨z, hz2, rfl⟩ := hb
    have hww := bounds_u8 (hw z (List.mem_of_mem_take hz2))
    omega
set_option maxRecDepth 100000 in
theorem bytes_arg {H : Type} {enc : TypeId × Value → H} {W : World} {base : Nat} {v : Value} {d : DataW H} {p : List MemPlace} (hok : Value.okWide Try.prog W .any base 28 v)
    (h : DataW.Trod enc Try.prog W 0 (fun _ => true) true 28 v d p) : ∃ (A : Option Addr) (cap : Nat) (l : List Nat), v = .slice A l.length cap ∧ l.length ≤ cap ∧ cap ≤ 9223372036854775807 ∧ Src W A (bts l) ∧ ∀ b ∈ l, b < 256 := by
  obtain ⟨a0, len, cap, rfl⟩ := okWide_slice Try.underlying28 hok
  obtain ⟨fuel, hf⟩ := h
  rcases open_ints Try.underlying28 Try.underlying5 Try.cells5 hf with ⟨hcs, _⟩ | ⟨a, len', cap', zs, hcs, _, hl, hm, hz, _, hcell, hwz⟩
  · simp only [Value.cells] at hcs
    have e : Value.slice a0 len cap = .slice none 0 0 := by simpa using hcs
    rw [e]
    exact ⟨none, 0, [], rfl, Nat.le_refl _, by omega, fun h0 => absurd h0 (by simp [bts]), fun b hb => by cases hb⟩
  · have e : Value.slice a0 len cap = .slice (some a) len' cap' := by simpa [Value.cells] using hcs
    rw [e]
    have hz' : zs.length = cap' := by simpa using hz
    obtain ⟨h1, h2, h3⟩ := nums_src (W := W) (a := a) hl hz' (fun j hj => hcell j (by omega)) hwz
    exact ⟨some a, cap', _, by rw [h1], by omega, by unfold maxLen at hm; exact hm, h2, h3⟩
set_option maxRecDepth 100000 in
theorem rows_cells {H : Type} {enc : TypeId × Value → H} {W : World} {fuel : Nat} {v : Value} {y : DataW H × List MemPlace} (hf : DataW.trod enc Try.prog W 0 (fun _ => true) true fuel 22 [v] = some y) :
    ∃ (A : Option Addr) (cap : Nat) (L : List RowB), v = .slice A L.length cap ∧ L.length ≤ cap ∧ cap ≤ 9223372036854775807 ∧ RSrc W A L ∧ ∀ m ∈ lens L, m ≤ 9223372036854775807 := by
  rcases open_int_rows Try.underlying22 Try.underlying28 Try.underlying5 Try.cells28 Try.cells5 hf with ⟨hcs, _⟩ | ⟨a, len', cap', A, L, C, Z, hcs, _, hl, hm, _, hx⟩
  · have e : v = .slice none 0 0 := by simpa [Value.cells] using hcs
    rw [e]
    exact ⟨none, 0, [], rfl, Nat.le_refl _, by omega, fun h0 => absurd h0 (by simp), fun m hm => by cases hm⟩
  · have e : v = .slice (some a) len' cap' := by simpa [Value.cells] using hcs
    rw [e]
    have hlen : ((List.range len').map fun k => (⟨A k, C k, ((Z k).take (L k)).map Int.toNat⟩ : RowB)).length = len' := by simp
    have hrow : ∀ k r, ((List.range len').map fun k => (⟨A k, C k, ((Z k).take (L k)).map Int.toNat⟩ : RowB))[k]? = some r → W.cell? (a.add k) = some r.v ∧ r.ok W := by
      intro k r hr
      have hk : k < len' := by
        have h1 := (List.getElem?_eq_some_iff.1 hr).1
        rw [hlen] at h1
        exact h1
      have hr' : r = ⟨A k, C k, ((Z k).take (L k)).map Int.toNat⟩ := by
        rw [List.getElem?_map, List.getElem?_range hk] at hr
        simp only [Option.map_some, Option.some.injEq] at hr
        exact hr.symm
      subst hr'
      obtain ⟨h1, h2, h3, h4, h5, h6, h7⟩ := hx k (by omega)
      unfold maxLen at h3
      have hll : (((Z k).take (L k)).map Int.toNat).length = L k := by rw [List.length_map, List.length_take]; omega
      refine ⟨by rw [h1]; show _ = some (Value.slice (A k) (((Z k).take (L k)).map Int.toNat).length (C k)); rw [hll], ?_⟩
      cases hA : A k with
      | none =>
        have hc0 := h6 hA
        have hl0 : L k = 0 := by omega
        refine ⟨fun h0 => ?_, by rw [hll]; exact h2, h3, fun b hb => ?_⟩
        · rw [length_bts, hll] at h0; omega
        · rw [hl0] at hb; simp at hb
      | some a' =>
        obtain ⟨_, hc⟩ := h7 a' hA
        obtain ⟨_, g2, g3⟩ := nums_src (W := W) h2 h4 hc h5
        exact ⟨g2, by rw [hll]; exact h2, h3, g3⟩
    refine ⟨some a, cap', (List.range len').map fun k => ⟨A k, C k, ((Z k).take (L k)).map Int.toNat⟩, by rw [hlen], by omega, by unfold maxLen at hm; exact hm, fun h0 => ⟨a, rfl, hrow⟩, fun m hm2 => ?_⟩
    obtain ⟨k, hk⟩ := List.getElem?_of_mem hm2
    simp only [lens, List.getElem?_map, Option.map_eq_some_iff] at hk
    obtain ⟨r, hr, rfl⟩ := hk
    have h9 := (hrow k r (by rw [List.getElem?_map, Option.map_eq_some_iff]; exact hr)).2
    have := h9.2.1
    have := h9.2.2.1
    omega
set_option maxRecDepth 100000 in
/-- a packet of umd as it came in -/
theorem upack_arg {H : Type} {enc : TypeId × Value → H} {W : World} {base : Nat} {v : Value} {d : DataW H} {p : List MemPlace} (hok : Value.okWide Try.prog W .any base 24 v)
    (h : DataW.Trod enc Try.prog W 0 (fun _ => true) true 24 v d p) : ∃ (fi sn : Int) (A : Option Addr) (cap : Nat) (L : List RowB), v = .agg #[.int .i64 fi, .int .i64 sn, .slice A L.length cap] ∧ L.length ≤ cap ∧ cap ≤ 9223372036854775807 ∧ RSrc W A L ∧ ∀ m ∈ lens L, m ≤ 9223372036854775807 := by
  obtain ⟨v0, v1, v2, y0, y1, y2, k, rfl, _, _, h0, h1, h2⟩ := Joins.open_agg3 Try.underlying24 (by kernel_rfl) (by kernel_rfl) hok h
  obtain ⟨A, cap, L, rfl, g1, g2, g3, g4⟩ := rows_cells h2
  obtain ⟨fi, rfl⟩ : ∃ fi, v0 = .int .i64 fi := by
    obtain ⟨n, h9, _⟩ := DataW.trod_int Try.underlying3 h0
    exact ⟨n, by simpa using h9⟩
  obtain ⟨sn, rfl⟩ : ∃ sn, v1 = .int .i64 sn := by
    obtain ⟨n, h9, _⟩ := DataW.trod_int Try.underlying3 h1
    exact ⟨n, by simpa using h9⟩
  exact ⟨fi, sn, A, cap, L, rfl, g1, g2, g3, g4⟩
end Go.Proofs.Ytdlgceddhlagnaa
