/-
  AmdWrites: the law walked.
-/
import Derived.Test.YtgdpjaojlhdhdaaJAmdWrites28
import Derived.Test.YtgdpjaojlhdhdaaJAmdWrites27
namespace Go.Proofs.Ytgdpjaojlhdhdaa
open Go.RowKit

theorem conv_own2 {B : Nat} {w : World} {v : Value} {l : List Nat} (h : OwnY B w v l) (hb : ∀ b ∈ l, b < 256) : (convert 30 9 v).run Try.prog w = .ok (.string (strOf l)) w := h.conv hb
set_option maxRecDepth 100000 in
set_option maxHeartbeats 12800000 in
theorem awrites_walk {A B : Option Addr} {L M : List RowB} (poll part last : Bool) (fi sn off : Int) (poll' part' last' : Bool) (fi' sn' off' wd : Int) (n cap m capb : Nat) (w : World) (hL : L.length = n) (hM : M.length = m) (hcap : n ≤ cap) (hcm : cap ≤ 9223372036854775807) (hn9 : n ≤ 9223372036854775807) (hm9 : m ≤ 9223372036854775807)
    (hs : RSrc w A L) (hs' : RSrc w B M) (hm : ∀ m ∈ lens L, m ≤ 9223372036854775807) (hm' : ∀ m ∈ lens M, m ≤ 9223372036854775807) :
    Calls Try.prog 6 #[.agg #[.bool poll, .int .i64 fi, .int .i64 sn, .bool part, .bool last, .int .i64 off, .slice A n cap], .agg #[.bool poll', .int .i64 fi', .int .i64 sn', .bool part', .bool last', .int .i64 off', .slice B m capb], .int .i64 wd] w fun e w' => e = .returned (.bool true) ∧ Below w.heap.size w w' := by
  obtain ⟨W2, hW2⟩ : ∃ W2, (w.alloc (.cells #[.bool poll, .int .i64 fi, .int .i64 sn, .bool part, .bool last, .int .i64 off, .slice A n cap] 57)).alloc (.cells #[.bool poll', .int .i64 fi', .int .i64 sn', .bool part', .bool last', .int .i64 off', .slice B m capb] 57) = W2 := ⟨_, rfl⟩
  have HB2 := Lib.hid (show Below w.heap.size w W2 by rw [← hW2]; exact bl_alloc (bl_alloc (Below.refl _ _) _) _)
  have ROWP := Lib.hid (show Row W2 w.heap.size 57 #[.bool poll, .int .i64 fi, .int .i64 sn, .bool part, .bool last, .int .i64 off, .slice A n cap] by rw [← hW2]; exact (Row.made w 57 _).more _)
  have ROWQ := Lib.hid (show Row W2 (w.heap.size + 1) 57 #[.bool poll', .int .i64 fi', .int .i64 sn', .bool part', .bool last', .int .i64 off', .slice B m capb] by rw [← hW2]; have h := Row.made (w.alloc (.cells #[.bool poll, .int .i64 fi, .int .i64 sn, .bool part, .bool last, .int .i64 off, .slice A n cap] 57)) 57 #[.bool poll', .int .i64 fi', .int .i64 sn', .bool part', .bool last', .int .i64 off', .slice B m capb]; rwa [show (w.alloc (.cells #[.bool poll, .int .i64 fi, .int .i64 sn, .bool part, .bool last, .int .i64 off, .slice A n cap] 57)).heap.size = w.heap.size + 1 by simp] at h)
  have HGP := Lib.hid (great_any n cap W2 hL hn9 (hs.later HB2.out) hm)
  have HGQ := Lib.hid (great_any m capb W2 hM hm9 (hs'.later HB2.out) hm')
  have HDS := Lib.hid (fun W (hb : Below W2.heap.size W2 W) hn hq => rasize_any (A := A) (L := L) poll part last fi sn off wd n cap W hL hn hq (hs.later (HB2.out.trans (hb.mono HB2.out.size))))
  have HSZ := Lib.hid (fun W (hb : Below W2.heap.size W2 W) => asize_any (A := A) poll part last fi sn off wd n cap W hL hn9 (hs.later (HB2.out.trans (hb.mono HB2.out.size))) hm)
  have HRT := Lib.hid (fun W (hb : Below W2.heap.size W2 W) => aright_any (A := A) poll part last fi sn off wd n cap W hL hn9 (hs.later (HB2.out.trans (hb.mono HB2.out.size))) hm)
  have HWR := Lib.hid (fun W (hb : Below W2.heap.size W2 W) => awrite_un (A := A) poll part last fi sn off wd n cap W hL hcap hcm (hs.later (HB2.out.trans (hb.mono HB2.out.size))) hm)
  have HRW := Lib.hid (fun W (hb : Below W2.heap.size W2 W) hw => rawrite_un (A := A) (L := L) poll part last fi sn off wd n cap W hL (hs.later (HB2.out.trans (hb.mono HB2.out.size))) hw)
  have HSM := Lib.hid (fun W (hb : Below W2.heap.size W2 W) => asame_any (A := A) (B := B) poll part last fi sn off poll' part' last' fi' sn' off' n m cap capb W hL hM hn9 (hs.later (HB2.out.trans (hb.mono HB2.out.size))) (hs'.later (HB2.out.trans (hb.mono HB2.out.size))))
  have HRS := Lib.hid (fun W (hb : Below W2.heap.size W2 W) => rasame_any (A := A) (B := B) poll part last fi sn off poll' part' last' fi' sn' off' n m cap capb W hL hM hn9 (hs.later (HB2.out.trans (hb.mono HB2.out.size))) (hs'.later (HB2.out.trans (hb.mono HB2.out.size))))
  have HASP := Lib.hid (fun W => aas_any poll part last fi sn off A n cap W)
  have HASQ := Lib.hid (fun W => aas_any poll' part' last' fi' sn' off' B m capb W)
  have HHD := Lib.hid (fun W => ahead_any part wd W)
  have HRH := Lib.hid (fun W => rahead_any part wd W)
  have HDJ := Lib.hid (fun W (hb : Below W2.heap.size W2 W) hq => adata_any (A := A) (L := L) poll part last fi sn off n cap W hL hn9 (hs.later (HB2.out.trans (hb.mono HB2.out.size))) hq)
  have HDR := Lib.hid (fun W (hb : Below W2.heap.size W2 W) hn hq => radata_any (A := A) (L := L) poll part last fi sn off n cap W hL hn (hs.later (HB2.out.trans (hb.mono HB2.out.size))) hq)
  have HCF := Lib.hid (fun V x BB (ho : OwnY BB V x (flat L)) => conv_own2 ho (flat_small hs))
  have HSB := Lib.hid (amd_small hs poll part last fi.toNat sn.toNat off.toNat wd.toNat)
  have hFpos : amdF part last fi sn off (lens L) wd ≠ 0 → wd = 10 ∨ wd = 16 := fun h => (amdF_pos h).1
  have hnn := amdF_nonneg part last fi sn off (lens L) wd
  generalize amdF part last fi sn off (lens L) wd = F at *
  generalize eqA poll part last fi sn off poll' part' last' fi' sn' off' (texts L) (texts M) = q at *
  generalize headA part wd = hp at *
  generalize (lens L).sum = sm at *
  have HFP := Lib.hid hFpos
  have hFF : (F != F) = false := by simp
  have hhp : (hp != hp) = false := by simp
  clear hs hs' hm hm' hL hM hFpos
  obtain ⟨k20, k21, k22, k23, k24, k25, k26⟩ := cells_amd ROWP.out (Below.refl _ _)
  obtain ⟨l20, l21, l22, l23, l24, l25, l26⟩ := cells_amd ROWQ.out (Below.refl _ _)
  go_enter Try.func6, Try.ntmps6
  go_wp2_with (go_at_call 38; (with_reducible refine HGP.out.mono ?_); rintro e w1 ⟨⟨b, rfl, hbb⟩, rfl⟩; cases b)
  · obtain ⟨hn40, hs9⟩ := hbb (by first | rfl | trivial)
    have HDD := Lib.hid (fun W (hb : Below W2.heap.size W2 W) => HDS.out W hb hn40 hs9)
    have HDA := Lib.hid (fun W (hb : Below W2.heap.size W2 W) => (HDJ.out W hb (by omega)).mono fun e w' h => (show ∃ Ad cd, e = .returned (.slice Ad (flat L).length cd) ∧ OwnY W.heap.size w' (.slice Ad (flat L).length cd) (flat L) ∧ Below W.heap.size W w' from by
      obtain ⟨v, rfl, ho, hbl⟩ := h
      obtain ⟨Ad, cd, rfl, _⟩ := ho.form
      exact ⟨Ad, cd, rfl, ho, hbl⟩))
    have HRD := Lib.hid (fun W (hb : Below W2.heap.size W2 W) => (HDR.out W hb hn40 hs9))
    generalize (flat L).length = fl at HDA
    generalize flat L = flt at *
    clear hn40 hs9 hbb HDS HDJ HDR
    go_wp2_with (go_at_call 38; (with_reducible refine HGQ.out.mono ?_); rintro e w1 ⟨⟨b, rfl, hbb⟩, rfl⟩; cases b)
    · clear hbb
      go_wp2_with (first
        | (go_at_call 37; (with_reducible refine (HASP.out _).mono ?_); rintro e w3 ⟨rfl, hb3⟩; have HB3 := Lib.hid hb3; clear hb3)
        | (go_at_call 39; (with_reducible refine (HDD.out _ HB3.out).mono ?_); rintro e w4 ⟨rfl, hb4⟩; have HB4 := Lib.hid (bl_step HB3.out hb4); obtain ⟨k40, k41, k42, k43, k44, k45, k46⟩ := cells_amd ROWP.out HB4.out; clear hb4)
        | (go_at_call 40; (with_reducible refine (HWR.out _ HB4.out).mono ?_); rintro e w5 ⟨Aw, nw, cw, er, rfl, HW0, HW1, hb5⟩; have HB5 := Lib.hid (bl_step HB4.out hb5); clear hb5))
      clear k20 k21 k22 k23 k24 k25 k26 l20 l21 l22 l23 l24 l25 l26 k40 k41 k42 k43 k44 k45 k46 HGP HGQ HWR HDD
      refine wp_of_frame [none, none, some (.int .i64 wd), some (.pointer (some ⟨w.heap.size, 0, none⟩)), some (.pointer (some ⟨w.heap.size + 1, 0, none⟩)), none, none, some (.int .i64 F), some (.slice Aw nw cw), some (.int .i64 er), none, none, none, none, none, none, none, none, none, none, none, none, none, none, none, none, none, none, none, none, none, none, none, none, none, none, none, none, none, none, none, none, none, none, none, none, none, none, none, none, none, none, none, none, none, none, none, none, none, none, none, none, none, none, none, none, none, none, none, none, none, none, none, none, none, none, none, none, none, none, none, none, none, none, none, none, none, none, none, none, none, none, none, none, none, none, none, none, none, none, none, none, none, none, none, none, none, none, none, none, none, none, none, none, none, none, none, none, none, none, none, none, none] (by
        simp only [Fr, Holes]
        repeat apply Exists.intro
        rfl) ?_
      intro a' hfr
      simp only [Fr, Holes] at hfr
      repeat (obtain ⟨_, hfr⟩ := hfr)
      refine wp_region_noPanic ?_
      refine wp_region_held_drew (S := fun W => Below w5.heap.size w5 W) (by kernel_rfl) (bl_drew (Below.refl _ _)) (fun hS => ?_)
      refine take_at 0 29 (v := ?vr50) (by simp only [List.getElem?_toArray, List.getElem?_cons_zero]; rfl) rfl (by kernel_rfl) (by kernel_rfl) (by kernel_rfl) (fun _ _ _ h => h) (Or.inl ⟨by rfl, ?yr50⟩) hS ?_
      case yr50 =>
        intro W hSW
        (try dsimp only at hSW)
        obtain ⟨z0, z1, z2, z3, z4, z5, z6⟩ := cells_amd ROWP.out (bl_step HB5.out hSW)
        go_simp
        first | done | with_reducible rfl
      simp only [Act.put, List.setIfInBounds_toArray, List.set_cons_zero, List.set_cons_succ]
      refine take_at 1 30 (v := ?vr51) (by simp only [List.getElem?_toArray, List.getElem?_cons_succ, List.getElem?_cons_zero]; rfl) rfl (by kernel_rfl) (by kernel_rfl) (by kernel_rfl) (fun _ _ _ h => h) (Or.inl ⟨by rfl, ?yr51⟩) hS ?_
      case yr51 =>
        intro W hSW
        (try dsimp only at hSW)
        go_simp
        first | done | with_reducible rfl
      simp only [Act.put, List.setIfInBounds_toArray, List.set_cons_zero, List.set_cons_succ]
      refine take_at 3 32 (v := ?vr53) (by simp only [List.getElem?_toArray, List.getElem?_cons_succ, List.getElem?_cons_zero]; rfl) rfl (by kernel_rfl) (by kernel_rfl) (by kernel_rfl) (fun _ _ _ h => h) (Or.inl ⟨by rfl, ?yr53⟩) hS ?_
      case yr53 =>
        intro W hSW
        (try dsimp only at hSW)
        go_simp
        first | done | with_reducible rfl
      simp only [Act.put, List.setIfInBounds_toArray, List.set_cons_zero, List.set_cons_succ]
      refine wpAnyH_ready (rs := [2]) (by kernel_rfl) (by simp) ?_
      refine AllReadyH.cons rfl (fun K hK => ?_) AllReadyH.nil
      go_simp
      refine (HSZ.out _ (bl_step HB5.out hS)).mono ?_
      rintro e v1 ⟨rfl, h1⟩
      try go_simp
      refine hK.out _ _ (bl_step hS h1) (fun hS => ?_)
      clear hK K
      try simp only [Act.put, List.setIfInBounds_toArray, List.set_cons_zero, List.set_cons_succ]
      have hBv1 : Below w5.heap.size w5 v1 := hS
      refine wpAnyH_more (S' := fun W => Below v1.heap.size v1 W) ?_ (fun _ h => bl_step hBv1 h)
      clear hS
      have hS : (fun W => Below v1.heap.size v1 W) v1 := Below.refl _ _
      refine take_at 4 33 (v := ?vr54) (by simp only [List.getElem?_toArray, List.getElem?_cons_succ, List.getElem?_cons_zero]; rfl) rfl (by kernel_rfl) (by kernel_rfl) (by kernel_rfl) (fun _ _ _ h => h) (Or.inl ⟨by rfl, ?yr54⟩) hS ?_
      case yr54 =>
        intro W hSW
        (try dsimp only at hSW)
        go_simp
        first | done | with_reducible rfl
      simp only [Act.put, List.setIfInBounds_toArray, List.set_cons_zero, List.set_cons_succ]
      refine take_at 5 34 (v := ?vr55) (by simp only [List.getElem?_toArray, List.getElem?_cons_succ, List.getElem?_cons_zero]; rfl) rfl (by kernel_rfl) (by kernel_rfl) (by kernel_rfl) (fun _ _ _ h => h) (Or.inl ⟨by rfl, ?yr55⟩) hS ?_
      case yr55 =>
        intro W hSW
        (try dsimp only at hSW)
        go_simp
        first | done | with_reducible rfl
      simp only [Act.put, List.setIfInBounds_toArray, List.set_cons_zero, List.set_cons_succ]
      refine take_at 6 35 (v := ?vr56) (by simp only [List.getElem?_toArray, List.getElem?_cons_succ, List.getElem?_cons_zero]; rfl) rfl (by kernel_rfl) (by kernel_rfl) (by kernel_rfl) (fun _ _ _ h => h) (Or.inl ⟨by rfl, ?yr56⟩) hS ?_
      case yr56 =>
        intro W hSW
        (try dsimp only at hSW)
        obtain ⟨z0, z1, z2, z3, z4, z5, z6⟩ := cells_amd ROWP.out (bl_step (bl_step HB5.out hBv1) hSW)
        go_simp
        first | done | with_reducible rfl
      simp only [Act.put, List.setIfInBounds_toArray, List.set_cons_zero, List.set_cons_succ]
      refine take_at 7 36 (v := ?vr57) (by simp only [List.getElem?_toArray, List.getElem?_cons_succ, List.getElem?_cons_zero]; rfl) rfl (by kernel_rfl) (by kernel_rfl) (by kernel_rfl) (fun _ _ _ h => h) (Or.inl ⟨by rfl, ?yr57⟩) hS ?_
      case yr57 =>
        intro W hSW
        (try dsimp only at hSW)
        go_simp
        first | done | with_reducible rfl
      simp only [Act.put, List.setIfInBounds_toArray, List.set_cons_zero, List.set_cons_succ]
      refine take_at 9 38 (v := ?vr59) (by simp only [List.getElem?_toArray, List.getElem?_cons_succ, List.getElem?_cons_zero]; rfl) rfl (by kernel_rfl) (by kernel_rfl) (by kernel_rfl) (fun _ _ _ h => h) (Or.inl ⟨by rfl, ?yr59⟩) hS ?_
      case yr59 =>
        intro W hSW
        (try dsimp only at hSW)
        go_simp
        first | done | with_reducible rfl
      simp only [Act.put, List.setIfInBounds_toArray, List.set_cons_zero, List.set_cons_succ]
      refine take_at 10 39 (v := ?vr510) (by simp only [List.getElem?_toArray, List.getElem?_cons_succ, List.getElem?_cons_zero]; rfl) rfl (by kernel_rfl) (by kernel_rfl) (by kernel_rfl) (fun _ _ _ h => h) (Or.inl ⟨by rfl, ?yr510⟩) hS ?_
      case yr510 =>
        intro W hSW
        (try dsimp only at hSW)
        go_simp
        first | done | with_reducible rfl
      simp only [Act.put, List.setIfInBounds_toArray, List.set_cons_zero, List.set_cons_succ]
      refine wpAnyH_ready (rs := [8]) (by kernel_rfl) (by simp) ?_
      refine AllReadyH.cons rfl (fun K hK => ?_) AllReadyH.nil
      go_simp
      refine (HRT.out _ (bl_step (bl_step HB5.out hBv1) hS)).mono ?_
      rintro e v2 ⟨rfl, h2⟩
      try go_simp
      refine hK.out _ _ (bl_step hS h2) (fun hS => ?_)
      clear hK K
      try simp only [Act.put, List.setIfInBounds_toArray, List.set_cons_zero, List.set_cons_succ]
      have hBv2 : Below v1.heap.size v1 v2 := hS
      refine wpAnyH_more (S' := fun W => Below v2.heap.size v2 W) ?_ (fun _ h => bl_step hBv2 h)
      clear hS
      have hS : (fun W => Below v2.heap.size v2 W) v2 := Below.refl _ _
      refine take_at 11 40 (v := ?vr511) (by simp only [List.getElem?_toArray, List.getElem?_cons_succ, List.getElem?_cons_zero]; rfl) rfl (by kernel_rfl) (by kernel_rfl) (by kernel_rfl) (fun _ _ _ h => h) (Or.inl ⟨by rfl, ?yr511⟩) hS ?_
      case yr511 =>
        intro W hSW
        (try dsimp only at hSW)
        go_simp
        first | done | with_reducible rfl
      simp only [Act.put, List.setIfInBounds_toArray, List.set_cons_zero, List.set_cons_succ]
      refine take_at 12 41 (v := ?vr512) (by simp only [List.getElem?_toArray, List.getElem?_cons_succ, List.getElem?_cons_zero]; rfl) rfl (by kernel_rfl) (by kernel_rfl) (by kernel_rfl) (fun _ _ _ h => h) (Or.inl ⟨by rfl, ?yr512⟩) hS ?_
      case yr512 =>
        intro W hSW
        (try dsimp only at hSW)
        go_simp
        first | done | with_reducible rfl
      simp only [Act.put, List.setIfInBounds_toArray, List.set_cons_zero, List.set_cons_succ]
      refine take_at 13 42 (v := ?vr513) (by simp only [List.getElem?_toArray, List.getElem?_cons_succ, List.getElem?_cons_zero]; rfl) rfl (by kernel_rfl) (by kernel_rfl) (by kernel_rfl) (fun _ _ _ h => h) (Or.inl ⟨by rfl, ?yr513⟩) hS ?_
      case yr513 =>
        intro W hSW
        (try dsimp only at hSW)
        go_simp
        first | done | with_reducible rfl
      simp only [Act.put, List.setIfInBounds_toArray, List.set_cons_zero, List.set_cons_succ]
      refine take_at 14 43 (v := ?vr514) (by simp only [List.getElem?_toArray, List.getElem?_cons_succ, List.getElem?_cons_zero]; rfl) rfl (by kernel_rfl) (by kernel_rfl) (by kernel_rfl) (fun _ _ _ h => h) (Or.inl ⟨by rfl, ?yr514⟩) hS ?_
      case yr514 =>
        intro W hSW
        (try dsimp only at hSW)
        obtain ⟨z0, z1, z2, z3, z4, z5, z6⟩ := cells_amd ROWP.out (bl_step (bl_step (bl_step HB5.out hBv1) hBv2) hSW)
        go_simp
        first | done | with_reducible rfl
      simp only [Act.put, List.setIfInBounds_toArray, List.set_cons_zero, List.set_cons_succ]
      refine take_at 15 44 (v := ?vr515) (by simp only [List.getElem?_toArray, List.getElem?_cons_succ, List.getElem?_cons_zero]; rfl) rfl (by kernel_rfl) (by kernel_rfl) (by kernel_rfl) (fun _ _ _ h => h) (Or.inl ⟨by rfl, ?yr515⟩) hS ?_
      case yr515 =>
        intro W hSW
        (try dsimp only at hSW)
        obtain ⟨z0, z1, z2, z3, z4, z5, z6⟩ := cells_amd ROWQ.out (bl_step (bl_step (bl_step HB5.out hBv1) hBv2) hSW)
        go_simp
        first | done | with_reducible rfl
      simp only [Act.put, List.setIfInBounds_toArray, List.set_cons_zero, List.set_cons_succ]
      refine take_at 17 46 (v := ?vr517) (by simp only [List.getElem?_toArray, List.getElem?_cons_succ, List.getElem?_cons_zero]; rfl) rfl (by kernel_rfl) (by kernel_rfl) (by kernel_rfl) (fun _ _ _ h => h) (Or.inl ⟨by rfl, ?yr517⟩) hS ?_
      case yr517 =>
        intro W hSW
        (try dsimp only at hSW)
        obtain ⟨z0, z1, z2, z3, z4, z5, z6⟩ := cells_amd ROWP.out (bl_step (bl_step (bl_step HB5.out hBv1) hBv2) hSW)
        go_simp
        first | done | with_reducible rfl
      simp only [Act.put, List.setIfInBounds_toArray, List.set_cons_zero, List.set_cons_succ]
      refine take_at 19 48 (v := ?vr519) (by simp only [List.getElem?_toArray, List.getElem?_cons_succ, List.getElem?_cons_zero]; rfl) rfl (by kernel_rfl) (by kernel_rfl) (by kernel_rfl) (fun _ _ _ h => h) (Or.inl ⟨by rfl, ?yr519⟩) hS ?_
      case yr519 =>
        intro W hSW
        (try dsimp only at hSW)
        obtain ⟨z0, z1, z2, z3, z4, z5, z6⟩ := cells_amd ROWQ.out (bl_step (bl_step (bl_step HB5.out hBv1) hBv2) hSW)
        go_simp
        first | done | with_reducible rfl
      simp only [Act.put, List.setIfInBounds_toArray, List.set_cons_zero, List.set_cons_succ]
      refine wpAnyH_ready (rs := [16]) (by kernel_rfl) (by simp) ?_
      refine AllReadyH.cons rfl (fun K hK => ?_) AllReadyH.nil
      go_simp
      refine (HSM.out _ (bl_step (bl_step (bl_step HB5.out hBv1) hBv2) hS)).mono ?_
      rintro e v3 ⟨rfl, h3⟩
      try go_simp
      refine hK.out _ _ (bl_step hS h3) (fun hS => ?_)
      clear hK K
      try simp only [Act.put, List.setIfInBounds_toArray, List.set_cons_zero, List.set_cons_succ]
      have hBv3 : Below v2.heap.size v2 v3 := hS
      refine wpAnyH_more (S' := fun W => Below v3.heap.size v3 W) ?_ (fun _ h => bl_step hBv3 h)
      clear hS
      have hS : (fun W => Below v3.heap.size v3 W) v3 := Below.refl _ _
      refine wpAnyH_ready (rs := [18]) (by kernel_rfl) (by simp) ?_
      refine AllReadyH.cons rfl (fun K hK => ?_) AllReadyH.nil
      go_simp
      refine (HASP.out _).mono ?_
      rintro e v4 ⟨rfl, h4⟩
      try go_simp
      refine hK.out _ _ (bl_step hS h4) (fun hS => ?_)
      clear hK K
      try simp only [Act.put, List.setIfInBounds_toArray, List.set_cons_zero, List.set_cons_succ]
      have hBv4 : Below v3.heap.size v3 v4 := hS
      refine wpAnyH_more (S' := fun W => Below v4.heap.size v4 W) ?_ (fun _ h => bl_step hBv4 h)
      clear hS
      have hS : (fun W => Below v4.heap.size v4 W) v4 := Below.refl _ _
      refine wpAnyH_ready (rs := [20]) (by kernel_rfl) (by simp) ?_
      refine AllReadyH.cons rfl (fun K hK => ?_) AllReadyH.nil
      go_simp
      refine (HASQ.out _).mono ?_
      rintro e v5 ⟨rfl, h5⟩
      try go_simp
      refine hK.out _ _ (bl_step hS h5) (fun hS => ?_)
      clear hK K
      try simp only [Act.put, List.setIfInBounds_toArray, List.set_cons_zero, List.set_cons_succ]
      have hBv5 : Below v4.heap.size v4 v5 := hS
      refine wpAnyH_more (S' := fun W => Below v5.heap.size v5 W) ?_ (fun _ h => bl_step hBv5 h)
      clear hS
      have hS : (fun W => Below v5.heap.size v5 W) v5 := Below.refl _ _
      refine wpAnyH_ready (rs := [21]) (by kernel_rfl) (by simp) ?_
      refine AllReadyH.cons rfl (fun K hK => ?_) AllReadyH.nil
      go_simp
      refine (HRS.out _ (bl_step (bl_step (bl_step (bl_step (bl_step (bl_step HB5.out hBv1) hBv2) hBv3) hBv4) hBv5) hS)).mono ?_
      rintro e v6 ⟨rfl, h6⟩
      try go_simp
      refine hK.out _ _ (bl_step hS h6) (fun hS => ?_)
      clear hK K
      try simp only [Act.put, List.setIfInBounds_toArray, List.set_cons_zero, List.set_cons_succ]
      have hBv6 : Below v5.heap.size v5 v6 := hS
      refine wpAnyH_more (S' := fun W => Below v6.heap.size v6 W) ?_ (fun _ h => bl_step hBv6 h)
      clear hS
      have hS : (fun W => Below v6.heap.size v6 W) v6 := Below.refl _ _
      refine take_at 22 51 (v := ?vr522) (by simp only [List.getElem?_toArray, List.getElem?_cons_succ, List.getElem?_cons_zero]; rfl) rfl (by kernel_rfl) (by kernel_rfl) (by kernel_rfl) (fun _ _ _ h => h) (Or.inl ⟨by rfl, ?yr522⟩) hS ?_
      case yr522 =>
        intro W hSW
        (try dsimp only at hSW)
        go_simp
        first | done | with_reducible rfl
      simp only [Act.put, List.setIfInBounds_toArray, List.set_cons_zero, List.set_cons_succ]
      refine take_at 23 52 (v := ?vr523) (by simp only [List.getElem?_toArray, List.getElem?_cons_succ, List.getElem?_cons_zero]; rfl) rfl (by kernel_rfl) (by kernel_rfl) (by kernel_rfl) (fun _ _ _ h => h) (Or.inl ⟨by rfl, ?yr523⟩) hS ?_
      case yr523 =>
        intro W hSW
        (try dsimp only at hSW)
        go_simp
        first | done | with_reducible rfl
      simp only [Act.put, List.setIfInBounds_toArray, List.set_cons_zero, List.set_cons_succ]
      refine take_at 24 53 (v := ?vr524) (by simp only [List.getElem?_toArray, List.getElem?_cons_succ, List.getElem?_cons_zero]; rfl) rfl (by kernel_rfl) (by kernel_rfl) (by kernel_rfl) (fun _ _ _ h => h) (Or.inl ⟨by rfl, ?yr524⟩) hS ?_
      case yr524 =>
        intro W hSW
        (try dsimp only at hSW)
        go_simp
        first | done | with_reducible rfl
      simp only [Act.put, List.setIfInBounds_toArray, List.set_cons_zero, List.set_cons_succ]
      refine take_at 25 54 (v := ?vr525) (by simp only [List.getElem?_toArray, List.getElem?_cons_succ, List.getElem?_cons_zero]; rfl) rfl (by kernel_rfl) (by kernel_rfl) (by kernel_rfl) (fun _ _ _ h => h) (Or.inl ⟨by rfl, ?yr525⟩) hS ?_
      case yr525 =>
        intro W hSW
        (try dsimp only at hSW)
        go_simp
        first | done | with_reducible rfl
      simp only [Act.put, List.setIfInBounds_toArray, List.set_cons_zero, List.set_cons_succ]
      refine take_at 26 55 (v := ?vr526) (by simp only [List.getElem?_toArray, List.getElem?_cons_succ, List.getElem?_cons_zero]; rfl) rfl (by kernel_rfl) (by kernel_rfl) (by kernel_rfl) (fun _ _ _ h => h) (Or.inl ⟨by rfl, ?yr526⟩) hS ?_
      case yr526 =>
        intro W hSW
        (try dsimp only at hSW)
        obtain ⟨z0, z1, z2, z3, z4, z5, z6⟩ := cells_amd ROWP.out (bl_step (bl_step (bl_step (bl_step (bl_step (bl_step (bl_step HB5.out hBv1) hBv2) hBv3) hBv4) hBv5) hBv6) hSW)
        go_simp
        first | done | with_reducible rfl
      simp only [Act.put, List.setIfInBounds_toArray, List.set_cons_zero, List.set_cons_succ]
      refine take_at 27 56 (v := ?vr527) (by simp only [List.getElem?_toArray, List.getElem?_cons_succ, List.getElem?_cons_zero]; rfl) rfl (by kernel_rfl) (by kernel_rfl) (by kernel_rfl) (fun _ _ _ h => h) (Or.inl ⟨by rfl, ?yr527⟩) hS ?_
      case yr527 =>
        intro W hSW
        (try dsimp only at hSW)
        go_simp
        first | done | with_reducible rfl
      simp only [Act.put, List.setIfInBounds_toArray, List.set_cons_zero, List.set_cons_succ]
      refine take_at 29 58 (v := ?vr529) (by simp only [List.getElem?_toArray, List.getElem?_cons_succ, List.getElem?_cons_zero]; rfl) rfl (by kernel_rfl) (by kernel_rfl) (by kernel_rfl) (fun _ _ _ h => h) (Or.inl ⟨by rfl, ?yr529⟩) hS ?_
      case yr529 =>
        intro W hSW
        (try dsimp only at hSW)
        go_simp
        first | done | with_reducible rfl
      simp only [Act.put, List.setIfInBounds_toArray, List.set_cons_zero, List.set_cons_succ]
      refine take_at 30 59 (v := ?vr530) (by simp only [List.getElem?_toArray, List.getElem?_cons_succ, List.getElem?_cons_zero]; rfl) rfl (by kernel_rfl) (by kernel_rfl) (by kernel_rfl) (fun _ _ _ h => h) (Or.inl ⟨by rfl, ?yr530⟩) hS ?_
      case yr530 =>
        intro W hSW
        (try dsimp only at hSW)
        obtain ⟨z0, z1, z2, z3, z4, z5, z6⟩ := cells_amd ROWP.out (bl_step (bl_step (bl_step (bl_step (bl_step (bl_step (bl_step HB5.out hBv1) hBv2) hBv3) hBv4) hBv5) hBv6) hSW)
        go_simp
        first | done | with_reducible rfl
      simp only [Act.put, List.setIfInBounds_toArray, List.set_cons_zero, List.set_cons_succ]
      refine take_at 31 60 (v := ?vr531) (by simp only [List.getElem?_toArray, List.getElem?_cons_succ, List.getElem?_cons_zero]; rfl) rfl (by kernel_rfl) (by kernel_rfl) (by kernel_rfl) (fun _ _ _ h => h) (Or.inl ⟨by rfl, ?yr531⟩) hS ?_
      case yr531 =>
        intro W hSW
        (try dsimp only at hSW)
        go_simp
        first | done | with_reducible rfl
      simp only [Act.put, List.setIfInBounds_toArray, List.set_cons_zero, List.set_cons_succ]
      refine wpAnyH_ready (rs := [28]) (by kernel_rfl) (by simp) ?_
      refine AllReadyH.cons rfl (fun K hK => ?_) AllReadyH.nil
      go_simp
      refine (HHD.out _).mono ?_
      rintro e vx ⟨rfl, rfl⟩
      try go_simp
      refine hK.out _ _ hS (fun hS => ?_)
      clear hK K
      try simp only [Act.put, List.setIfInBounds_toArray, List.set_cons_zero, List.set_cons_succ]
      refine wpAnyH_ready (rs := [32]) (by kernel_rfl) (by simp) ?_
      refine AllReadyH.cons rfl (fun K hK => ?_) AllReadyH.nil
      go_simp
      refine (HRH.out _).mono ?_
      rintro e vx ⟨rfl, rfl⟩
      try go_simp
      refine hK.out _ _ hS (fun hS => ?_)
      clear hK K
      try simp only [Act.put, List.setIfInBounds_toArray, List.set_cons_zero, List.set_cons_succ]
      refine take_at 33 62 (v := ?vr533) (by simp only [List.getElem?_toArray, List.getElem?_cons_succ, List.getElem?_cons_zero]; rfl) rfl (by kernel_rfl) (by kernel_rfl) (by kernel_rfl) (fun _ _ _ h => h) (Or.inl ⟨by rfl, ?yr533⟩) hS ?_
      case yr533 =>
        intro W hSW
        (try dsimp only at hSW)
        go_simp
        first | done | with_reducible rfl
      simp only [Act.put, List.setIfInBounds_toArray, List.set_cons_zero, List.set_cons_succ]
      refine take_at 34 63 (v := ?vr534) (by simp only [List.getElem?_toArray, List.getElem?_cons_succ, List.getElem?_cons_zero]; rfl) rfl (by kernel_rfl) (by kernel_rfl) (by kernel_rfl) (fun _ _ _ h => h) (Or.inl ⟨by rfl, ?yr534⟩) hS ?_
      case yr534 =>
        intro W hSW
        (try dsimp only at hSW)
        go_simp
        first | done | with_reducible rfl
      simp only [Act.put, List.setIfInBounds_toArray, List.set_cons_zero, List.set_cons_succ]
      refine take_at 35 64 (v := ?vr535) (by simp only [List.getElem?_toArray, List.getElem?_cons_succ, List.getElem?_cons_zero]; rfl) rfl (by kernel_rfl) (by kernel_rfl) (by kernel_rfl) (fun _ _ _ h => h) (Or.inl ⟨by rfl, ?yr535⟩) hS ?_
      case yr535 =>
        intro W hSW
        (try dsimp only at hSW)
        go_simp
        first | done | with_reducible rfl
      simp only [Act.put, List.setIfInBounds_toArray, List.set_cons_zero, List.set_cons_succ]
      refine take_at 36 65 (v := ?vr536) (by simp only [List.getElem?_toArray, List.getElem?_cons_succ, List.getElem?_cons_zero]; rfl) rfl (by kernel_rfl) (by kernel_rfl) (by kernel_rfl) (fun _ _ _ h => h) (Or.inl ⟨by rfl, ?yr536⟩) hS ?_
      case yr536 =>
        intro W hSW
        (try dsimp only at hSW)
        obtain ⟨z0, z1, z2, z3, z4, z5, z6⟩ := cells_amd ROWP.out (bl_step (bl_step (bl_step (bl_step (bl_step (bl_step (bl_step HB5.out hBv1) hBv2) hBv3) hBv4) hBv5) hBv6) hSW)
        go_simp
        first | done | with_reducible rfl
      simp only [Act.put, List.setIfInBounds_toArray, List.set_cons_zero, List.set_cons_succ]
      refine take_at 39 68 (v := ?vr539) (by simp only [List.getElem?_toArray, List.getElem?_cons_succ, List.getElem?_cons_zero]; rfl) rfl (by kernel_rfl) (by kernel_rfl) (by kernel_rfl) (fun _ _ _ h => h) (Or.inl ⟨by rfl, ?yr539⟩) hS ?_
      case yr539 =>
        intro W hSW
        (try dsimp only at hSW)
        obtain ⟨z0, z1, z2, z3, z4, z5, z6⟩ := cells_amd ROWP.out (bl_step (bl_step (bl_step (bl_step (bl_step (bl_step (bl_step HB5.out hBv1) hBv2) hBv3) hBv4) hBv5) hBv6) hSW)
        go_simp
        first | done | with_reducible rfl
      simp only [Act.put, List.setIfInBounds_toArray, List.set_cons_zero, List.set_cons_succ]
      refine wpAnyH_ready (rs := [37]) (by kernel_rfl) (by simp) ?_
      refine AllReadyH.cons rfl (fun K hK => ?_) AllReadyH.nil
      go_simp
      refine (HDA.out _ (bl_step (bl_step (bl_step (bl_step (bl_step (bl_step (bl_step HB5.out hBv1) hBv2) hBv3) hBv4) hBv5) hBv6) hS)).mono ?_
      rintro e v7 ⟨Ad, cd, rfl, ho7, h7⟩; have HO7 := Lib.hid ho7; clear ho7
      try go_simp
      refine hK.out _ _ (bl_step hS h7) (fun hS => ?_)
      clear hK K
      try simp only [Act.put, List.setIfInBounds_toArray, List.set_cons_zero, List.set_cons_succ]
      have hBv7 : Below v6.heap.size v6 v7 := hS
      refine wpAnyH_more (S' := fun W => Below v7.heap.size v7 W) ?_ (fun _ h => bl_step hBv7 h)
      clear hS
      have hS : (fun W => Below v7.heap.size v7 W) v7 := Below.refl _ _
      refine take_at 38 67 (v := ?vr538) (by simp only [List.getElem?_toArray, List.getElem?_cons_succ, List.getElem?_cons_zero]; rfl) rfl (by kernel_rfl) (by kernel_rfl) (by kernel_rfl) (fun _ _ _ h => h) (Or.inl ⟨by rfl, ?yr538⟩) hS ?_
      case yr538 =>
        intro W hSW
        (try dsimp only at hSW)
        have z := HCF.out W _ _ (HO7.out.later hSW)
        go_simp
        first | done | with_reducible rfl
      simp only [Act.put, List.setIfInBounds_toArray, List.set_cons_zero, List.set_cons_succ]
      refine wpAnyH_ready (rs := [40]) (by kernel_rfl) (by simp) ?_
      refine AllReadyH.cons rfl (fun K hK => ?_) AllReadyH.nil
      go_simp
      refine (HASP.out _).mono ?_
      rintro e v8 ⟨rfl, h8⟩
      try go_simp
      refine hK.out _ _ (bl_step hS h8) (fun hS => ?_)
      clear hK K
      try simp only [Act.put, List.setIfInBounds_toArray, List.set_cons_zero, List.set_cons_succ]
      have hBv8 : Below v7.heap.size v7 v8 := hS
      refine wpAnyH_more (S' := fun W => Below v8.heap.size v8 W) ?_ (fun _ h => bl_step hBv8 h)
      clear hS
      have hS : (fun W => Below v8.heap.size v8 W) v8 := Below.refl _ _
      refine wpAnyH_ready (rs := [41]) (by kernel_rfl) (by simp) ?_
      refine AllReadyH.cons rfl (fun K hK => ?_) AllReadyH.nil
      go_simp
      refine (HRD.out _ (bl_step (bl_step (bl_step (bl_step (bl_step (bl_step (bl_step (bl_step (bl_step HB5.out hBv1) hBv2) hBv3) hBv4) hBv5) hBv6) hBv7) hBv8) hS)).mono ?_
      rintro e v9 ⟨x9, rfl, ho9, h9⟩; have HO9 := Lib.hid ho9; clear ho9
      try go_simp
      refine hK.out _ _ (bl_step hS h9) (fun hS => ?_)
      clear hK K
      try simp only [Act.put, List.setIfInBounds_toArray, List.set_cons_zero, List.set_cons_succ]
      have hBv9 : Below v8.heap.size v8 v9 := hS
      refine wpAnyH_more (S' := fun W => Below v9.heap.size v9 W) ?_ (fun _ h => bl_step hBv9 h)
      clear hS
      have hS : (fun W => Below v9.heap.size v9 W) v9 := Below.refl _ _
      refine take_at 42 71 (v := ?vr542) (by simp only [List.getElem?_toArray, List.getElem?_cons_succ, List.getElem?_cons_zero]; rfl) rfl (by kernel_rfl) (by kernel_rfl) (by kernel_rfl) (fun _ _ _ h => h) (Or.inl ⟨by rfl, ?yr542⟩) hS ?_
      case yr542 =>
        intro W hSW
        (try dsimp only at hSW)
        have z := HCF.out W _ _ (HO9.out.later hSW)
        go_simp
        first | done | with_reducible rfl
      simp only [Act.put, List.setIfInBounds_toArray, List.set_cons_zero, List.set_cons_succ]
      refine take_at 43 72 (v := ?vr543) (by simp only [List.getElem?_toArray, List.getElem?_cons_succ, List.getElem?_cons_zero]; rfl) rfl (by kernel_rfl) (by kernel_rfl) (by kernel_rfl) (fun _ _ _ h => h) (Or.inl ⟨by rfl, ?yr543⟩) hS ?_
      case yr543 =>
        intro W hSW
        (try dsimp only at hSW)
        go_simp
        first | done | with_reducible rfl
      simp only [Act.put, List.setIfInBounds_toArray, List.set_cons_zero, List.set_cons_succ]
      refine take_at 44 73 (v := ?vr544) (by simp only [List.getElem?_toArray, List.getElem?_cons_succ, List.getElem?_cons_zero]; rfl) rfl (by kernel_rfl) (by kernel_rfl) (by kernel_rfl) (fun _ _ _ h => h) (Or.inl ⟨by rfl, ?yr544⟩) hS ?_
      case yr544 =>
        intro W hSW
        (try dsimp only at hSW)
        go_simp
        first | done | with_reducible rfl
      simp only [Act.put, List.setIfInBounds_toArray, List.set_cons_zero, List.set_cons_succ]
      refine wpAnyH_done (by kernel_rfl) ?_ _
      refine NoPanic.normal ?_
      have H06 := Lib.hid (bl_step (bl_step (bl_step (bl_step (bl_step (bl_step (bl_step (bl_step (bl_step HB5.out hBv1) hBv2) hBv3) hBv4) hBv5) hBv6) hBv7) hBv8) hBv9)
      have HV6 := Lib.hid (bl_step (bl_step (bl_step (bl_step (bl_step (bl_step (bl_step (bl_step hBv1 hBv2) hBv3) hBv4) hBv5) hBv6) hBv7) hBv8) hBv9)
      have HBW := Lib.hid (HB2.out.trans (H06.out.mono HB2.out.size))
      clear hS hBv1 hBv2 hBv3 hBv4 hBv5 hBv6 hBv7 hBv8 hBv9 h1 h2 h3 h4 h5 h6 h7 h8 h9 HSM HRS HRT HSZ HASQ HHD HRH HDA HRD HCF
      by_cases hF : F = 0
      · obtain ⟨hnw, her⟩ := HW0.out hF
        subst hnw
        subst hF
        clear HW0 HW1 hFF hnn
        by_cases hw : wd = 10 ∨ wd = 16
        · rw [if_pos hw] at her
          subst her
          clear HFP HRW HSB
          rcases hw with rfl | rfl
          all_goals
            go_wp2_with (go_at_call 33; refine (aalive_any _).mono ?_; rintro e w2 ⟨rfl, hb2⟩)
            go_ret
            exact ⟨rfl, HBW.out.trans (hb2.mono HBW.out.size)⟩
        · rw [if_neg hw] at her
          subst her
          have h5 : (wd != 10) = true := by simp; omega
          have h10 : (wd != 16) = true := by simp; omega
          clear HFP HRW HSB hw
          go_wp2_with (go_at_call 33; refine (aalive_any _).mono ?_; rintro e w2 ⟨rfl, hb2⟩)
          go_ret
          exact ⟨rfl, HBW.out.trans (hb2.mono HBW.out.size)⟩
      · obtain ⟨her, hnw, hoy⟩ := HW1.out hF
        subst her
        have hw := HFP.out hF
        have hf0 : (F == 0) = false := by simpa using hF
        have hnF : ((nw : Int) == F) = true := by simpa using hnw
        have HR := Lib.hid (fun W hb => HRW.out W hb hF)
        generalize amdBytes poll part last fi.toNat sn.toNat off.toNat L wd.toNat = bytes at *
        have HCV := Lib.hid (fun V (hV : Below w5.heap.size w5 V) => (hoy.later hV).conv HSB.out)
        have HCX := Lib.hid (fun V x BB (ho : OwnY BB V x bytes) => ho.conv HSB.out)
        generalize strOf bytes = st at *
        clear HW0 HW1 HFP HRW hoy hF hnw
        rcases hw with rfl | rfl
        · skip
          go_wp2_with fail
          refine wp_of_frame [none, none, some (.int .i64 10), some (.pointer (some ⟨w.heap.size, 0, none⟩)), none, none, none, some (.int .i64 F), some (.slice Aw nw cw), some (.int .i64 0), none, none, none, none, none, none, none, none, none, none, none, none, none, none, none, none, none, none, none, none, none, none, none, none, none, none, none, none, none, none, none, none, none, none, none, none, none, none, none, none, none, none, none, none, none, none, none, none, none, none, none, none, none, none, none, none, none, none, none, none, none, none, none, none, none, none, none, none, none, none, none, none, none, none, none, none, none, none, none, none, none, none, none, none, none, none, none, none, none, none, none, none, none, none, none, none, none, none, none, none, none, none, none, none, none, none, none, none, none, none, none, none, none] (by
            simp only [Fr, Holes]
            repeat apply Exists.intro
            rfl) ?_
          intro a' hfr
          simp only [Fr, Holes] at hfr
          repeat (obtain ⟨_, hfr⟩ := hfr)
          refine wp_region_noPanic ?_
          refine wp_region_held_drew (S := fun W => Below v9.heap.size v9 W) (by kernel_rfl) (bl_drew (Below.refl _ _)) (fun hS => ?_)
          refine wpAnyH_ready (rs := [0]) (by kernel_rfl) (by simp) ?_
          refine AllReadyH.cons rfl (fun K hK => ?_) AllReadyH.nil
          go_simp
          refine (aalive_any _).mono ?_
          rintro e u1 ⟨rfl, g1⟩
          try go_simp
          refine hK.out _ _ (bl_step hS g1) (fun hS => ?_)
          clear hK K
          try simp only [Act.put, List.setIfInBounds_toArray, List.set_cons_zero, List.set_cons_succ]
          have hBu1 : Below v9.heap.size v9 u1 := hS
          refine wpAnyH_more (S' := fun W => Below u1.heap.size u1 W) ?_ (fun _ h => bl_step hBu1 h)
          clear hS
          have hS : (fun W => Below u1.heap.size u1 W) u1 := Below.refl _ _
          refine take_at 1 103 (v := ?vq101) (by simp only [List.getElem?_toArray, List.getElem?_cons_succ, List.getElem?_cons_zero]; rfl) rfl (by kernel_rfl) (by kernel_rfl) (by kernel_rfl) (fun _ _ _ h => h) (Or.inl ⟨by rfl, ?yq101⟩) hS ?_
          case yq101 =>
            intro W hSW
            (try dsimp only at hSW)
            go_simp
            first | done | with_reducible rfl
          simp only [Act.put, List.setIfInBounds_toArray, List.set_cons_zero, List.set_cons_succ]
          refine take_at 2 104 (v := ?vq102) (by simp only [List.getElem?_toArray, List.getElem?_cons_succ, List.getElem?_cons_zero]; rfl) rfl (by kernel_rfl) (by kernel_rfl) (by kernel_rfl) (fun _ _ _ h => h) (Or.inl ⟨by rfl, ?yq102⟩) hS ?_
          case yq102 =>
            intro W hSW
            (try dsimp only at hSW)
            go_simp
            first | done | with_reducible rfl
          simp only [Act.put, List.setIfInBounds_toArray, List.set_cons_zero, List.set_cons_succ]
          refine take_at 3 105 (v := ?vq103) (by simp only [List.getElem?_toArray, List.getElem?_cons_succ, List.getElem?_cons_zero]; rfl) rfl (by kernel_rfl) (by kernel_rfl) (by kernel_rfl) (fun _ _ _ h => h) (Or.inl ⟨by rfl, ?yq103⟩) hS ?_
          case yq103 =>
            intro W hSW
            (try dsimp only at hSW)
            go_simp
            first | done | with_reducible rfl
          simp only [Act.put, List.setIfInBounds_toArray, List.set_cons_zero, List.set_cons_succ]
          refine take_at 4 106 (v := ?vq104) (by simp only [List.getElem?_toArray, List.getElem?_cons_succ, List.getElem?_cons_zero]; rfl) rfl (by kernel_rfl) (by kernel_rfl) (by kernel_rfl) (fun _ _ _ h => h) (Or.inl ⟨by rfl, ?yq104⟩) hS ?_
          case yq104 =>
            intro W hSW
            (try dsimp only at hSW)
            go_simp
            first | done | with_reducible rfl
          simp only [Act.put, List.setIfInBounds_toArray, List.set_cons_zero, List.set_cons_succ]
          refine take_at 5 107 (v := ?vq105) (by simp only [List.getElem?_toArray, List.getElem?_cons_succ, List.getElem?_cons_zero]; rfl) rfl (by kernel_rfl) (by kernel_rfl) (by kernel_rfl) (fun _ _ _ h => h) (Or.inl ⟨by rfl, ?yq105⟩) hS ?_
          case yq105 =>
            intro W hSW
            (try dsimp only at hSW)
            go_simp
            first | done | with_reducible rfl
          simp only [Act.put, List.setIfInBounds_toArray, List.set_cons_zero, List.set_cons_succ]
          refine take_at 6 108 (v := ?vq106) (by simp only [List.getElem?_toArray, List.getElem?_cons_succ, List.getElem?_cons_zero]; rfl) rfl (by kernel_rfl) (by kernel_rfl) (by kernel_rfl) (fun _ _ _ h => h) (Or.inl ⟨by rfl, ?yq106⟩) hS ?_
          case yq106 =>
            intro W hSW
            (try dsimp only at hSW)
            go_simp
            first | done | with_reducible rfl
          simp only [Act.put, List.setIfInBounds_toArray, List.set_cons_zero, List.set_cons_succ]
          refine take_at 7 109 (v := ?vq107) (by simp only [List.getElem?_toArray, List.getElem?_cons_succ, List.getElem?_cons_zero]; rfl) rfl (by kernel_rfl) (by kernel_rfl) (by kernel_rfl) (fun _ _ _ h => h) (Or.inl ⟨by rfl, ?yq107⟩) hS ?_
          case yq107 =>
            intro W hSW
            (try dsimp only at hSW)
            go_simp
            first | done | with_reducible rfl
          simp only [Act.put, List.setIfInBounds_toArray, List.set_cons_zero, List.set_cons_succ]
          refine take_at 8 110 (v := ?vq108) (by simp only [List.getElem?_toArray, List.getElem?_cons_succ, List.getElem?_cons_zero]; rfl) rfl (by kernel_rfl) (by kernel_rfl) (by kernel_rfl) (fun _ _ _ h => h) (Or.inl ⟨by rfl, ?yq108⟩) hS ?_
          case yq108 =>
            intro W hSW
            (try dsimp only at hSW)
            go_simp
            first | done | with_reducible rfl
          simp only [Act.put, List.setIfInBounds_toArray, List.set_cons_zero, List.set_cons_succ]
          refine take_at 9 111 (v := ?vq109) (by simp only [List.getElem?_toArray, List.getElem?_cons_succ, List.getElem?_cons_zero]; rfl) rfl (by kernel_rfl) (by kernel_rfl) (by kernel_rfl) (fun _ _ _ h => h) (Or.inl ⟨by rfl, ?yq109⟩) hS ?_
          case yq109 =>
            intro W hSW
            (try dsimp only at hSW)
            go_simp
            first | done | with_reducible rfl
          simp only [Act.put, List.setIfInBounds_toArray, List.set_cons_zero, List.set_cons_succ]
          refine take_at 10 112 (v := ?vq1010) (by simp only [List.getElem?_toArray, List.getElem?_cons_succ, List.getElem?_cons_zero]; rfl) rfl (by kernel_rfl) (by kernel_rfl) (by kernel_rfl) (fun _ _ _ h => h) (Or.inl ⟨by rfl, ?yq1010⟩) hS ?_
          case yq1010 =>
            intro W hSW
            (try dsimp only at hSW)
            go_simp
            first | done | with_reducible rfl
          simp only [Act.put, List.setIfInBounds_toArray, List.set_cons_zero, List.set_cons_succ]
          refine take_at 11 113 (v := ?vq1011) (by simp only [List.getElem?_toArray, List.getElem?_cons_succ, List.getElem?_cons_zero]; rfl) rfl (by kernel_rfl) (by kernel_rfl) (by kernel_rfl) (fun _ _ _ h => h) (Or.inl ⟨by rfl, ?yq1011⟩) hS ?_
          case yq1011 =>
            intro W hSW
            (try dsimp only at hSW)
            go_simp
            first | done | with_reducible rfl
          simp only [Act.put, List.setIfInBounds_toArray, List.set_cons_zero, List.set_cons_succ]
          refine take_at 12 114 (v := ?vq1012) (by simp only [List.getElem?_toArray, List.getElem?_cons_succ, List.getElem?_cons_zero]; rfl) rfl (by kernel_rfl) (by kernel_rfl) (by kernel_rfl) (fun _ _ _ h => h) (Or.inl ⟨by rfl, ?yq1012⟩) hS ?_
          case yq1012 =>
            intro W hSW
            (try dsimp only at hSW)
            go_simp
            first | done | with_reducible rfl
          simp only [Act.put, List.setIfInBounds_toArray, List.set_cons_zero, List.set_cons_succ]
          refine take_at 13 115 (v := ?vq1013) (by simp only [List.getElem?_toArray, List.getElem?_cons_succ, List.getElem?_cons_zero]; rfl) rfl (by kernel_rfl) (by kernel_rfl) (by kernel_rfl) (fun _ _ _ h => h) (Or.inl ⟨by rfl, ?yq1013⟩) hS ?_
          case yq1013 =>
            intro W hSW
            (try dsimp only at hSW)
            have z := HCV.out W (bl_step (bl_step HV6.out hBu1) hSW)
            go_simp
            first | done | with_reducible rfl
          simp only [Act.put, List.setIfInBounds_toArray, List.set_cons_zero, List.set_cons_succ]
          refine take_at 14 116 (v := ?vq1014) (by simp only [List.getElem?_toArray, List.getElem?_cons_succ, List.getElem?_cons_zero]; rfl) rfl (by kernel_rfl) (by kernel_rfl) (by kernel_rfl) (fun _ _ _ h => h) (Or.inl ⟨by rfl, ?yq1014⟩) hS ?_
          case yq1014 =>
            intro W hSW
            (try dsimp only at hSW)
            obtain ⟨z0, z1, z2, z3, z4, z5, z6⟩ := cells_amd ROWP.out (bl_step (bl_step H06.out hBu1) hSW)
            go_simp
            first | done | with_reducible rfl
          simp only [Act.put, List.setIfInBounds_toArray, List.set_cons_zero, List.set_cons_succ]
          refine take_at 16 118 (v := ?vq1016) (by simp only [List.getElem?_toArray, List.getElem?_cons_succ, List.getElem?_cons_zero]; rfl) rfl (by kernel_rfl) (by kernel_rfl) (by kernel_rfl) (fun _ _ _ h => h) (Or.inl ⟨by rfl, ?yq1016⟩) hS ?_
          case yq1016 =>
            intro W hSW
            (try dsimp only at hSW)
            go_simp
            first | done | with_reducible rfl
          simp only [Act.put, List.setIfInBounds_toArray, List.set_cons_zero, List.set_cons_succ]
          refine wpAnyH_ready (rs := [15]) (by kernel_rfl) (by simp) ?_
          refine AllReadyH.cons rfl (fun K hK => ?_) AllReadyH.nil
          go_simp
          refine (HASP.out _).mono ?_
          rintro e u2 ⟨rfl, g2⟩
          try go_simp
          refine hK.out _ _ (bl_step hS g2) (fun hS => ?_)
          clear hK K
          try simp only [Act.put, List.setIfInBounds_toArray, List.set_cons_zero, List.set_cons_succ]
          have hBu2 : Below u1.heap.size u1 u2 := hS
          refine wpAnyH_more (S' := fun W => Below u2.heap.size u2 W) ?_ (fun _ h => bl_step hBu2 h)
          clear hS
          have hS : (fun W => Below u2.heap.size u2 W) u2 := Below.refl _ _
          refine wpAnyH_ready (rs := [17]) (by kernel_rfl) (by simp) ?_
          refine AllReadyH.cons rfl (fun K hK => ?_) AllReadyH.nil
          go_simp
          refine (HR.out _ (bl_step (bl_step (bl_step H06.out hBu1) hBu2) hS)).mono ?_
          rintro e u3 ⟨y3, rfl, ho3, g3⟩; have HY3 := Lib.hid ho3; clear ho3
          try go_simp
          refine hK.out _ _ (bl_step hS g3) (fun hS => ?_)
          clear hK K
          try simp only [Act.put, List.setIfInBounds_toArray, List.set_cons_zero, List.set_cons_succ]
          have hBu3 : Below u2.heap.size u2 u3 := hS
          refine wpAnyH_more (S' := fun W => Below u3.heap.size u3 W) ?_ (fun _ h => bl_step hBu3 h)
          clear hS
          have hS : (fun W => Below u3.heap.size u3 W) u3 := Below.refl _ _
          refine take_at 18 120 (v := ?vq1018) (by simp only [List.getElem?_toArray, List.getElem?_cons_succ, List.getElem?_cons_zero]; rfl) rfl (by kernel_rfl) (by kernel_rfl) (by kernel_rfl) (fun _ _ _ h => h) (Or.inl ⟨by rfl, ?yq1018⟩) hS ?_
          case yq1018 =>
            intro W hSW
            (try dsimp only at hSW)
            have z := HCX.out W _ _ (HY3.out.later hSW)
            go_simp
            first | done | with_reducible rfl
          simp only [Act.put, List.setIfInBounds_toArray, List.set_cons_zero, List.set_cons_succ]
          refine take_at 19 121 (v := ?vq1019) (by simp only [List.getElem?_toArray, List.getElem?_cons_succ, List.getElem?_cons_zero]; rfl) rfl (by kernel_rfl) (by kernel_rfl) (by kernel_rfl) (fun _ _ _ h => h) (Or.inl ⟨by rfl, ?yq1019⟩) hS ?_
          case yq1019 =>
            intro W hSW
            (try dsimp only at hSW)
            go_simp
            first | done | with_reducible rfl
          simp only [Act.put, List.setIfInBounds_toArray, List.set_cons_zero, List.set_cons_succ]
          refine take_at 20 122 (v := ?vq1020) (by simp only [List.getElem?_toArray, List.getElem?_cons_succ, List.getElem?_cons_zero]; rfl) rfl (by kernel_rfl) (by kernel_rfl) (by kernel_rfl) (fun _ _ _ h => h) (Or.inl ⟨by rfl, ?yq1020⟩) hS ?_
          case yq1020 =>
            intro W hSW
            (try dsimp only at hSW)
            go_simp
            first | done | with_reducible rfl
          simp only [Act.put, List.setIfInBounds_toArray, List.set_cons_zero, List.set_cons_succ]
          refine take_at 21 6 (v := ?vq1021) (by simp only [List.getElem?_toArray, List.getElem?_cons_succ, List.getElem?_cons_zero]; rfl) rfl (by kernel_rfl) (by kernel_rfl) (by kernel_rfl) (fun _ _ _ h => h) (Or.inl ⟨by rfl, ?yq1021⟩) hS ?_
          case yq1021 =>
            intro W hSW
            (try dsimp only at hSW)
            go_simp
            first | done | with_reducible rfl
          simp only [Act.put, List.setIfInBounds_toArray, List.set_cons_zero, List.set_cons_succ]
          refine wpAnyH_done (by kernel_rfl) ?_ _
          refine NoPanic.normal ?_
          go_wp2_with fail
          go_ret
          exact ⟨rfl, HB2.out.trans ((bl_step (bl_step (bl_step H06.out hBu1) hBu2) hBu3).mono HB2.out.size)⟩
        · skip
          go_wp2_with fail
          refine wp_of_frame [none, none, some (.int .i64 16), some (.pointer (some ⟨w.heap.size, 0, none⟩)), none, none, none, some (.int .i64 F), some (.slice Aw nw cw), some (.int .i64 0), none, none, none, none, none, none, none, none, none, none, none, none, none, none, none, none, none, none, none, none, none, none, none, none, none, none, none, none, none, none, none, none, none, none, none, none, none, none, none, none, none, none, none, none, none, none, none, none, none, none, none, none, none, none, none, none, none, none, none, none, none, none, none, none, none, none, none, none, none, none, none, none, none, none, none, none, none, none, none, none, none, none, none, none, none, none, none, none, none, none, none, none, none, none, none, none, none, none, none, none, none, none, none, none, none, none, none, none, none, none, none, none, none] (by
            simp only [Fr, Holes]
            repeat apply Exists.intro
            rfl) ?_
          intro a' hfr
          simp only [Fr, Holes] at hfr
          repeat (obtain ⟨_, hfr⟩ := hfr)
          refine wp_region_noPanic ?_
          refine wp_region_held_drew (S := fun W => Below v9.heap.size v9 W) (by kernel_rfl) (bl_drew (Below.refl _ _)) (fun hS => ?_)
          refine wpAnyH_ready (rs := [0]) (by kernel_rfl) (by simp) ?_
          refine AllReadyH.cons rfl (fun K hK => ?_) AllReadyH.nil
          go_simp
          refine (aalive_any _).mono ?_
          rintro e u1 ⟨rfl, g1⟩
          try go_simp
          refine hK.out _ _ (bl_step hS g1) (fun hS => ?_)
          clear hK K
          try simp only [Act.put, List.setIfInBounds_toArray, List.set_cons_zero, List.set_cons_succ]
          have hBu1 : Below v9.heap.size v9 u1 := hS
          refine wpAnyH_more (S' := fun W => Below u1.heap.size u1 W) ?_ (fun _ h => bl_step hBu1 h)
          clear hS
          have hS : (fun W => Below u1.heap.size u1 W) u1 := Below.refl _ _
          refine take_at 1 103 (v := ?vq161) (by simp only [List.getElem?_toArray, List.getElem?_cons_succ, List.getElem?_cons_zero]; rfl) rfl (by kernel_rfl) (by kernel_rfl) (by kernel_rfl) (fun _ _ _ h => h) (Or.inl ⟨by rfl, ?yq161⟩) hS ?_
          case yq161 =>
            intro W hSW
            (try dsimp only at hSW)
            go_simp
            first | done | with_reducible rfl
          simp only [Act.put, List.setIfInBounds_toArray, List.set_cons_zero, List.set_cons_succ]
          refine take_at 2 104 (v := ?vq162) (by simp only [List.getElem?_toArray, List.getElem?_cons_succ, List.getElem?_cons_zero]; rfl) rfl (by kernel_rfl) (by kernel_rfl) (by kernel_rfl) (fun _ _ _ h => h) (Or.inl ⟨by rfl, ?yq162⟩) hS ?_
          case yq162 =>
            intro W hSW
            (try dsimp only at hSW)
            go_simp
            first | done | with_reducible rfl
          simp only [Act.put, List.setIfInBounds_toArray, List.set_cons_zero, List.set_cons_succ]
          refine take_at 3 105 (v := ?vq163) (by simp only [List.getElem?_toArray, List.getElem?_cons_succ, List.getElem?_cons_zero]; rfl) rfl (by kernel_rfl) (by kernel_rfl) (by kernel_rfl) (fun _ _ _ h => h) (Or.inl ⟨by rfl, ?yq163⟩) hS ?_
          case yq163 =>
            intro W hSW
            (try dsimp only at hSW)
            go_simp
            first | done | with_reducible rfl
          simp only [Act.put, List.setIfInBounds_toArray, List.set_cons_zero, List.set_cons_succ]
          refine take_at 4 106 (v := ?vq164) (by simp only [List.getElem?_toArray, List.getElem?_cons_succ, List.getElem?_cons_zero]; rfl) rfl (by kernel_rfl) (by kernel_rfl) (by kernel_rfl) (fun _ _ _ h => h) (Or.inl ⟨by rfl, ?yq164⟩) hS ?_
          case yq164 =>
            intro W hSW
            (try dsimp only at hSW)
            go_simp
            first | done | with_reducible rfl
          simp only [Act.put, List.setIfInBounds_toArray, List.set_cons_zero, List.set_cons_succ]
          refine take_at 5 107 (v := ?vq165) (by simp only [List.getElem?_toArray, List.getElem?_cons_succ, List.getElem?_cons_zero]; rfl) rfl (by kernel_rfl) (by kernel_rfl) (by kernel_rfl) (fun _ _ _ h => h) (Or.inl ⟨by rfl, ?yq165⟩) hS ?_
          case yq165 =>
            intro W hSW
            (try dsimp only at hSW)
            go_simp
            first | done | with_reducible rfl
          simp only [Act.put, List.setIfInBounds_toArray, List.set_cons_zero, List.set_cons_succ]
          refine take_at 6 108 (v := ?vq166) (by simp only [List.getElem?_toArray, List.getElem?_cons_succ, List.getElem?_cons_zero]; rfl) rfl (by kernel_rfl) (by kernel_rfl) (by kernel_rfl) (fun _ _ _ h => h) (Or.inl ⟨by rfl, ?yq166⟩) hS ?_
          case yq166 =>
            intro W hSW
            (try dsimp only at hSW)
            go_simp
            first | done | with_reducible rfl
          simp only [Act.put, List.setIfInBounds_toArray, List.set_cons_zero, List.set_cons_succ]
          refine take_at 7 109 (v := ?vq167) (by simp only [List.getElem?_toArray, List.getElem?_cons_succ, List.getElem?_cons_zero]; rfl) rfl (by kernel_rfl) (by kernel_rfl) (by kernel_rfl) (fun _ _ _ h => h) (Or.inl ⟨by rfl, ?yq167⟩) hS ?_
          case yq167 =>
            intro W hSW
            (try dsimp only at hSW)
            go_simp
            first | done | with_reducible rfl
          simp only [Act.put, List.setIfInBounds_toArray, List.set_cons_zero, List.set_cons_succ]
          refine take_at 8 110 (v := ?vq168) (by simp only [List.getElem?_toArray, List.getElem?_cons_succ, List.getElem?_cons_zero]; rfl) rfl (by kernel_rfl) (by kernel_rfl) (by kernel_rfl) (fun _ _ _ h => h) (Or.inl ⟨by rfl, ?yq168⟩) hS ?_
          case yq168 =>
            intro W hSW
            (try dsimp only at hSW)
            go_simp
            first | done | with_reducible rfl
          simp only [Act.put, List.setIfInBounds_toArray, List.set_cons_zero, List.set_cons_succ]
          refine take_at 9 111 (v := ?vq169) (by simp only [List.getElem?_toArray, List.getElem?_cons_succ, List.getElem?_cons_zero]; rfl) rfl (by kernel_rfl) (by kernel_rfl) (by kernel_rfl) (fun _ _ _ h => h) (Or.inl ⟨by rfl, ?yq169⟩) hS ?_
          case yq169 =>
            intro W hSW
            (try dsimp only at hSW)
            go_simp
            first | done | with_reducible rfl
          simp only [Act.put, List.setIfInBounds_toArray, List.set_cons_zero, List.set_cons_succ]
          refine take_at 10 112 (v := ?vq1610) (by simp only [List.getElem?_toArray, List.getElem?_cons_succ, List.getElem?_cons_zero]; rfl) rfl (by kernel_rfl) (by kernel_rfl) (by kernel_rfl) (fun _ _ _ h => h) (Or.inl ⟨by rfl, ?yq1610⟩) hS ?_
          case yq1610 =>
            intro W hSW
            (try dsimp only at hSW)
            go_simp
            first | done | with_reducible rfl
          simp only [Act.put, List.setIfInBounds_toArray, List.set_cons_zero, List.set_cons_succ]
          refine take_at 11 113 (v := ?vq1611) (by simp only [List.getElem?_toArray, List.getElem?_cons_succ, List.getElem?_cons_zero]; rfl) rfl (by kernel_rfl) (by kernel_rfl) (by kernel_rfl) (fun _ _ _ h => h) (Or.inl ⟨by rfl, ?yq1611⟩) hS ?_
          case yq1611 =>
            intro W hSW
            (try dsimp only at hSW)
            go_simp
            first | done | with_reducible rfl
          simp only [Act.put, List.setIfInBounds_toArray, List.set_cons_zero, List.set_cons_succ]
          refine take_at 12 114 (v := ?vq1612) (by simp only [List.getElem?_toArray, List.getElem?_cons_succ, List.getElem?_cons_zero]; rfl) rfl (by kernel_rfl) (by kernel_rfl) (by kernel_rfl) (fun _ _ _ h => h) (Or.inl ⟨by rfl, ?yq1612⟩) hS ?_
          case yq1612 =>
            intro W hSW
            (try dsimp only at hSW)
            go_simp
            first | done | with_reducible rfl
          simp only [Act.put, List.setIfInBounds_toArray, List.set_cons_zero, List.set_cons_succ]
          refine take_at 13 115 (v := ?vq1613) (by simp only [List.getElem?_toArray, List.getElem?_cons_succ, List.getElem?_cons_zero]; rfl) rfl (by kernel_rfl) (by kernel_rfl) (by kernel_rfl) (fun _ _ _ h => h) (Or.inl ⟨by rfl, ?yq1613⟩) hS ?_
          case yq1613 =>
            intro W hSW
            (try dsimp only at hSW)
            have z := HCV.out W (bl_step (bl_step HV6.out hBu1) hSW)
            go_simp
            first | done | with_reducible rfl
          simp only [Act.put, List.setIfInBounds_toArray, List.set_cons_zero, List.set_cons_succ]
          refine take_at 14 116 (v := ?vq1614) (by simp only [List.getElem?_toArray, List.getElem?_cons_succ, List.getElem?_cons_zero]; rfl) rfl (by kernel_rfl) (by kernel_rfl) (by kernel_rfl) (fun _ _ _ h => h) (Or.inl ⟨by rfl, ?yq1614⟩) hS ?_
          case yq1614 =>
            intro W hSW
            (try dsimp only at hSW)
            obtain ⟨z0, z1, z2, z3, z4, z5, z6⟩ := cells_amd ROWP.out (bl_step (bl_step H06.out hBu1) hSW)
            go_simp
            first | done | with_reducible rfl
          simp only [Act.put, List.setIfInBounds_toArray, List.set_cons_zero, List.set_cons_succ]
          refine take_at 16 118 (v := ?vq1616) (by simp only [List.getElem?_toArray, List.getElem?_cons_succ, List.getElem?_cons_zero]; rfl) rfl (by kernel_rfl) (by kernel_rfl) (by kernel_rfl) (fun _ _ _ h => h) (Or.inl ⟨by rfl, ?yq1616⟩) hS ?_
          case yq1616 =>
            intro W hSW
            (try dsimp only at hSW)
            go_simp
            first | done | with_reducible rfl
          simp only [Act.put, List.setIfInBounds_toArray, List.set_cons_zero, List.set_cons_succ]
          refine wpAnyH_ready (rs := [15]) (by kernel_rfl) (by simp) ?_
          refine AllReadyH.cons rfl (fun K hK => ?_) AllReadyH.nil
          go_simp
          refine (HASP.out _).mono ?_
          rintro e u2 ⟨rfl, g2⟩
          try go_simp
          refine hK.out _ _ (bl_step hS g2) (fun hS => ?_)
          clear hK K
          try simp only [Act.put, List.setIfInBounds_toArray, List.set_cons_zero, List.set_cons_succ]
          have hBu2 : Below u1.heap.size u1 u2 := hS
          refine wpAnyH_more (S' := fun W => Below u2.heap.size u2 W) ?_ (fun _ h => bl_step hBu2 h)
          clear hS
          have hS : (fun W => Below u2.heap.size u2 W) u2 := Below.refl _ _
          refine wpAnyH_ready (rs := [17]) (by kernel_rfl) (by simp) ?_
          refine AllReadyH.cons rfl (fun K hK => ?_) AllReadyH.nil
          go_simp
          refine (HR.out _ (bl_step (bl_step (bl_step H06.out hBu1) hBu2) hS)).mono ?_
          rintro e u3 ⟨y3, rfl, ho3, g3⟩; have HY3 := Lib.hid ho3; clear ho3
          try go_simp
          refine hK.out _ _ (bl_step hS g3) (fun hS => ?_)
          clear hK K
          try simp only [Act.put, List.setIfInBounds_toArray, List.set_cons_zero, List.set_cons_succ]
          have hBu3 : Below u2.heap.size u2 u3 := hS
          refine wpAnyH_more (S' := fun W => Below u3.heap.size u3 W) ?_ (fun _ h => bl_step hBu3 h)
          clear hS
          have hS : (fun W => Below u3.heap.size u3 W) u3 := Below.refl _ _
          refine take_at 18 120 (v := ?vq1618) (by simp only [List.getElem?_toArray, List.getElem?_cons_succ, List.getElem?_cons_zero]; rfl) rfl (by kernel_rfl) (by kernel_rfl) (by kernel_rfl) (fun _ _ _ h => h) (Or.inl ⟨by rfl, ?yq1618⟩) hS ?_
          case yq1618 =>
            intro W hSW
            (try dsimp only at hSW)
            have z := HCX.out W _ _ (HY3.out.later hSW)
            go_simp
            first | done | with_reducible rfl
          simp only [Act.put, List.setIfInBounds_toArray, List.set_cons_zero, List.set_cons_succ]
          refine take_at 19 121 (v := ?vq1619) (by simp only [List.getElem?_toArray, List.getElem?_cons_succ, List.getElem?_cons_zero]; rfl) rfl (by kernel_rfl) (by kernel_rfl) (by kernel_rfl) (fun _ _ _ h => h) (Or.inl ⟨by rfl, ?yq1619⟩) hS ?_
          case yq1619 =>
            intro W hSW
            (try dsimp only at hSW)
            go_simp
            first | done | with_reducible rfl
          simp only [Act.put, List.setIfInBounds_toArray, List.set_cons_zero, List.set_cons_succ]
          refine take_at 20 122 (v := ?vq1620) (by simp only [List.getElem?_toArray, List.getElem?_cons_succ, List.getElem?_cons_zero]; rfl) rfl (by kernel_rfl) (by kernel_rfl) (by kernel_rfl) (fun _ _ _ h => h) (Or.inl ⟨by rfl, ?yq1620⟩) hS ?_
          case yq1620 =>
            intro W hSW
            (try dsimp only at hSW)
            go_simp
            first | done | with_reducible rfl
          simp only [Act.put, List.setIfInBounds_toArray, List.set_cons_zero, List.set_cons_succ]
          refine take_at 21 6 (v := ?vq1621) (by simp only [List.getElem?_toArray, List.getElem?_cons_succ, List.getElem?_cons_zero]; rfl) rfl (by kernel_rfl) (by kernel_rfl) (by kernel_rfl) (fun _ _ _ h => h) (Or.inl ⟨by rfl, ?yq1621⟩) hS ?_
          case yq1621 =>
            intro W hSW
            (try dsimp only at hSW)
            go_simp
            first | done | with_reducible rfl
          simp only [Act.put, List.setIfInBounds_toArray, List.set_cons_zero, List.set_cons_succ]
          refine wpAnyH_done (by kernel_rfl) ?_ _
          refine NoPanic.normal ?_
          go_wp2_with fail
          go_ret
          exact ⟨rfl, HB2.out.trans ((bl_step (bl_step (bl_step H06.out hBu1) hBu2) hBu3).mono HB2.out.size)⟩
    · clear hbb
      go_wp2_with (go_at_call 33; refine (aalive_any _).mono ?_; rintro e w2 ⟨rfl, hb2⟩)
      go_ret
      exact ⟨rfl, HB2.out.trans (hb2.mono HB2.out.size)⟩
  · clear hbb
    go_wp2_with (go_at_call 33; refine (aalive_any _).mono ?_; rintro e w2 ⟨rfl, hb2⟩)
    go_ret
    exact ⟨rfl, HB2.out.trans (hb2.mono HB2.out.size)⟩
theorem awrites_all {A B : Option Addr} (poll part last : Bool) (fi sn off : Int) (poll' part' last' : Bool) (fi' sn' off' wd : Int) (L M : List RowB) (cap capb : Nat) (w : World) (hcap : L.length ≤ cap) (hcm : cap ≤ 9223372036854775807) (hs : RSrc w A L) (hm : ∀ m ∈ lens L, m ≤ 9223372036854775807) (hcap' : M.length ≤ capb) (hcm' : capb ≤ 9223372036854775807) (hs' : RSrc w B M) (hm' : ∀ m ∈ lens M, m ≤ 9223372036854775807) :
    Calls Try.prog 6 #[.agg #[.bool poll, .int .i64 fi, .int .i64 sn, .bool part, .bool last, .int .i64 off, .slice A L.length cap], .agg #[.bool poll', .int .i64 fi', .int .i64 sn', .bool part', .bool last', .int .i64 off', .slice B M.length capb], .int .i64 wd] w fun e w' => e = .returned (.bool true) ∧ Below w.heap.size w w' :=
  awrites_walk poll part last fi sn off poll' part' last' fi' sn' off' wd L.length cap M.length capb w rfl rfl hcap hcm (by omega) (by omega) hs hs' hm hm'
end Go.Proofs.Ytgdpjaojlhdhdaa
