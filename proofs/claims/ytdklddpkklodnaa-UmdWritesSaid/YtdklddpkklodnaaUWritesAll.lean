/-
  UmdWrites: the law walked.
-/
import Derived.Test.YtdklddpkklodnaaUWritesK
import Derived.Test.YtdklddpkklodnaaHand
namespace Go.Proofs.Ytdklddpkklodnaa
open Go.RowKit


set_option maxRecDepth 100000 in
set_option maxHeartbeats 6400000 in
theorem uwrites_walk {A B : Option Addr} {L M : List RowB} (fi sn fi' sn' wd : Int) (n cap m capb : Nat) (w : World) (hL : L.length = n) (hM : M.length = m) (hcap : n ≤ cap) (hcm : cap ≤ 9223372036854775807) (hn9 : n ≤ 9223372036854775807) (hm9 : m ≤ 9223372036854775807)
    (hs : RSrc w A L) (hs' : RSrc w B M) (hm : ∀ m ∈ lens L, m ≤ 9223372036854775807) (hm' : ∀ m ∈ lens M, m ≤ 9223372036854775807) :
    Calls Try.prog 3 #[.agg #[.int .i64 fi, .int .i64 sn, .slice A n cap], .agg #[.int .i64 fi', .int .i64 sn', .slice B m capb], .int .i64 wd] w fun e w' => e = .returned (.bool true) ∧ Below w.heap.size w w' := by
  obtain ⟨W2, hW2⟩ : ∃ W2, (w.alloc (.cells #[.int .i64 fi, .int .i64 sn, .slice A n cap] 24)).alloc (.cells #[.int .i64 fi', .int .i64 sn', .slice B m capb] 24) = W2 := ⟨_, rfl⟩
  have HB2 := Lib.hid (show Below w.heap.size w W2 by rw [← hW2]; exact bl_alloc (bl_alloc (Below.refl _ _) _) _)
  have ROWP := Lib.hid (show Row W2 w.heap.size 24 #[.int .i64 fi, .int .i64 sn, .slice A n cap] by rw [← hW2]; exact (Row.made w 24 _).more _)
  have ROWQ := Lib.hid (show Row W2 (w.heap.size + 1) 24 #[.int .i64 fi', .int .i64 sn', .slice B m capb] by rw [← hW2]; have h := Row.made (w.alloc (.cells #[.int .i64 fi, .int .i64 sn, .slice A n cap] 24)) 24 #[.int .i64 fi', .int .i64 sn', .slice B m capb]; rwa [show (w.alloc (.cells #[.int .i64 fi, .int .i64 sn, .slice A n cap] 24)).heap.size = w.heap.size + 1 by simp] at h)
  have HGP := Lib.hid (great_any n cap W2 hL hn9 (hs.later HB2.out) hm)
  have HGQ := Lib.hid (great_any m capb W2 hM hm9 (hs'.later HB2.out) hm')
  have HDS := Lib.hid (fun W (hb : Below W2.heap.size W2 W) hn hq => drsize_any (A := A) (L := L) fi sn wd n cap W hL hn hq (hs.later (HB2.out.trans (hb.mono HB2.out.size))))
  have HSZ := Lib.hid (fun W (hb : Below W2.heap.size W2 W) => usize_any (A := A) fi sn wd n cap W hL hn9 (hs.later (HB2.out.trans (hb.mono HB2.out.size))) hm)
  have HRT := Lib.hid (fun W (hb : Below W2.heap.size W2 W) => uright_any (A := A) fi sn wd n cap W hL hn9 (hs.later (HB2.out.trans (hb.mono HB2.out.size))) hm)
  have HWR := Lib.hid (fun W (hb : Below W2.heap.size W2 W) => uwrite_un (A := A) fi sn wd n cap W hL hcap hcm (hs.later (HB2.out.trans (hb.mono HB2.out.size))) hm)
  have HRW := Lib.hid (fun W (hb : Below W2.heap.size W2 W) hw => rwrite_un (A := A) (L := L) fi sn wd n cap W hL (hs.later (HB2.out.trans (hb.mono HB2.out.size))) hw)
  have HSM := Lib.hid (fun W (hb : Below W2.heap.size W2 W) => usame_any (A := A) (B := B) fi sn fi' sn' n m cap capb W hL hM hn9 (hs.later (HB2.out.trans (hb.mono HB2.out.size))) (hs'.later (HB2.out.trans (hb.mono HB2.out.size))))
  have HRS := Lib.hid (fun W (hb : Below W2.heap.size W2 W) => rsame_any (A := A) (B := B) fi sn fi' sn' n m cap capb W hL hM hn9 (hs.later (HB2.out.trans (hb.mono HB2.out.size))) (hs'.later (HB2.out.trans (hb.mono HB2.out.size))))
  have HASP := Lib.hid (fun W => as_any (.int .i64 fi) (.int .i64 sn) A n cap fi sn W rfl rfl)
  have HASQ := Lib.hid (fun W => as_any (.int .i64 fi') (.int .i64 sn') B m capb fi' sn' W rfl rfl)
  have HSB := Lib.hid (uw_small hs fi.toNat sn.toNat wd.toNat)
  have hFpos : umdF fi sn (lens L) wd ≠ 0 → wd = 5 ∨ wd = 10 := fun h => (umdF_pos h).1
  have hnn := umdF_nonneg fi sn (lens L) wd
  generalize umdF fi sn (lens L) wd = F at *
  generalize eqP fi sn fi' sn' (texts L) (texts M) = q at *
  have HFP := Lib.hid hFpos
  have hFF : (F != F) = false := by simp
  clear hs hs' hm hm' hL hM hFpos
  obtain ⟨k20, k21, k22, k23, k24, k25⟩ := keep6w ROWP.out ROWQ.out (Below.refl _ _)
  go_enter Try.func3, Try.ntmps3
  go_wp2_with (go_at_call 11; (with_reducible refine HGP.out.mono ?_); rintro e w1 ⟨⟨b, rfl, hbb⟩, rfl⟩; cases b)
  · obtain ⟨hn40, hs9⟩ := hbb (by first | rfl | trivial)
    have HDD := Lib.hid (fun W (hb : Below W2.heap.size W2 W) => HDS.out W hb hn40 hs9)
    clear hn40 hs9 hbb
    go_wp2_with (go_at_call 11; (with_reducible refine HGQ.out.mono ?_); rintro e w1 ⟨⟨b, rfl, hbb⟩, rfl⟩; cases b)
    · clear hbb
      go_wp2_with (first
        | (go_at_call 14; (with_reducible refine (HASP.out _).mono ?_); rintro e w3 ⟨rfl, hb3⟩; have HB3 := Lib.hid hb3; clear hb3)
        | (go_at_call 13; (with_reducible refine (HDD.out _ HB3.out).mono ?_); rintro e w4 ⟨rfl, hb4⟩; have HB4 := Lib.hid (bl_step HB3.out hb4); obtain ⟨k40, k41, k42, k43, k44, k45⟩ := keep6w ROWP.out ROWQ.out HB4.out; clear hb4)
        | (go_at_call 15; (with_reducible refine (HWR.out _ HB4.out).mono ?_); rintro e w5 ⟨Aw, nw, cw, er, rfl, HW0, HW1, hb5⟩; have HB5 := Lib.hid (bl_step HB4.out hb5); have k5 := keep6w ROWP.out ROWQ.out (bl_drew HB5.out); clear hb5))
      go_region_held3 (fun w' => w'.cell? ⟨w.heap.size, 0, none⟩ = some (.int .i64 fi) ∧ w'.cell? ⟨w.heap.size, 1, none⟩ = some (.int .i64 sn) ∧ w'.cell? ⟨w.heap.size, 2, none⟩ = some (.slice A n cap) ∧ w'.cell? ⟨w.heap.size + 1, 0, none⟩ = some (.int .i64 fi') ∧ w'.cell? ⟨w.heap.size + 1, 1, none⟩ = some (.int .i64 sn') ∧ w'.cell? ⟨w.heap.size + 1, 2, none⟩ = some (.slice B m capb)) (first | assumption | go_keep) (first
        | (go_at_call 16; (with_reducible refine (HSZ.out _ (bl_drew HB5.out)).mono ?_); rintro e v1 ⟨rfl, hv1⟩; have H01 := Lib.hid (bl_step (bl_drew HB5.out) hv1); have k1 := keep6w ROWP.out ROWQ.out H01.out)
        | (go_at_call 17; (with_reducible refine (HRT.out _ H01.out).mono ?_); rintro e v2 ⟨rfl, hv2⟩; have H02 := Lib.hid (bl_step H01.out hv2); have k2 := keep6w ROWP.out ROWQ.out H02.out)
        | (go_at_call 18; (with_reducible refine (HSM.out _ H02.out).mono ?_); rintro e v3 ⟨rfl, hv3⟩; have H03 := Lib.hid (bl_step H02.out hv3); have k3 := keep6w ROWP.out ROWQ.out H03.out)
        | (go_at_call 14; (with_reducible refine (HASP.out v3).mono ?_); rintro e v4 ⟨rfl, hv4⟩; have H04 := Lib.hid (bl_step H03.out hv4); have k4 := keep6w ROWP.out ROWQ.out H04.out)
        | (go_at_call 14; (with_reducible refine (HASQ.out v4).mono ?_); rintro e v5 ⟨rfl, hv5⟩; have H05 := Lib.hid (bl_step H04.out hv5); have k5 := keep6w ROWP.out ROWQ.out H05.out)
        | (go_at_call 19; (with_reducible refine (HRS.out v5 H05.out).mono ?_); rintro e v6 ⟨rfl, hv6⟩; have H06 := Lib.hid (bl_step H05.out hv6); have k6 := keep6w ROWP.out ROWQ.out H06.out))
      have HV6 := Lib.hid (show Below w5.heap.size w5 v6 from bl_step (bl_step (bl_step (bl_step (bl_step (bl_step (bl_drew (Below.refl w5.heap.size w5)) hv1) hv2) hv3) hv4) hv5) hv6)
      have HBW := Lib.hid (HB2.out.trans (H06.out.mono HB2.out.size))
      clear hv1 hv2 hv3 hv4 hv5 hv6 k1 k2 k3 k4 k5 k6 k20 k21 k22 k23 k24 k25 k40 k41 k42 k43 k44 k45 H01 H02 H03 H04 H05 HSM HRS HRT HSZ HGP HGQ HWR HDS HDD HASQ
      by_cases hF : F = 0
      · obtain ⟨hnw, her⟩ := HW0.out hF
        subst hnw
        subst hF
        clear HW0 HW1 hFF hnn
        by_cases hw : wd = 5 ∨ wd = 10
        · rw [if_pos hw] at her
          subst her
          clear HFP HRW HSB
          rcases hw with rfl | rfl
          all_goals
            go_wp2_with (go_at_call 12; refine (ualive_any _).mono ?_; rintro e w2 ⟨rfl, hb2⟩)
            go_ret
            exact ⟨rfl, HBW.out.trans (hb2.mono HBW.out.size)⟩
        · rw [if_neg hw] at her
          subst her
          have h5 : (wd != 5) = true := by simp; omega
          have h10 : (wd != 10) = true := by simp; omega
          clear HFP HRW HSB hw
          go_wp2_with (go_at_call 12; refine (ualive_any _).mono ?_; rintro e w2 ⟨rfl, hb2⟩)
          go_ret
          exact ⟨rfl, HBW.out.trans (hb2.mono HBW.out.size)⟩
      · obtain ⟨her, hnw, hoy⟩ := HW1.out hF
        subst her
        have hw := HFP.out hF
        have hf0 : (F == 0) = false := by simpa using hF
        have hnF : ((nw : Int) == F) = true := by simpa using hnw
        have HR := Lib.hid (fun W hb => HRW.out W hb hF)
        generalize umdBytes fi.toNat sn.toNat L wd.toNat = bytes at *
        have HCV := Lib.hid (fun V (hV : Below w5.heap.size w5 V) => (hoy.later hV).conv HSB.out)
        have HSS := Lib.hid (fun V (h1 : Below W2.heap.size W2 V) (h2 : Below w5.heap.size w5 V) => (show V.cell? ⟨w.heap.size, 0, none⟩ = some (.int .i64 fi) ∧ V.cell? ⟨w.heap.size, 1, none⟩ = some (.int .i64 sn) ∧ V.cell? ⟨w.heap.size, 2, none⟩ = some (.slice A n cap) ∧ (convert 30 9 (.slice Aw nw cw)).run Try.prog V = .ok (.string (strOf bytes)) V from
          ⟨(ROWP.out.later h1).read rfl, (ROWP.out.later h1).read rfl, (ROWP.out.later h1).read rfl, HCV.out V h2⟩))
        have HCX := Lib.hid (fun V x BB (ho : OwnY BB V x bytes) => ho.conv HSB.out)
        generalize strOf bytes = st at *
        have k6d := HSS.out v6.drew (bl_drew H06.out) (bl_drew HV6.out)
        have h5n : (wd != 5 && wd != 10) = false := by rcases hw with rfl | rfl <;> rfl
        clear HW0 HW1 HFP HRW hoy hF hnw
        clear k6d
        rcases hw with rfl | rfl
        · skip
          go_wp2_with fail
          refine wp_of_frame [none, none, some (.int .i64 5), some (.pointer (some ⟨w.heap.size, 0, none⟩)), none, none, none, some (.int .i64 F), some (.slice Aw nw cw), some (.int .i64 0), none, none, none, none, none, none, none, none, none, none, none, none, none, none, none, none, none, none, none, none, none, none, none, none, none, none, none, none, none, none, none, none, none, none, none, none, none, none, none, none, none, none, none, none, none, none, none, none, none, none, none, none, none, none, none, none, none, none, none, none, none, none, none, none, none, none, none, none, none, none, none, none, none, none, none, none, none, none, none, none, none, none, none, none, none, none, none, none, none, none, none, none] (by
            simp only [Fr, Holes]
            repeat apply Exists.intro
            rfl) ?_
          intro a' hfr
          simp only [Fr, Holes] at hfr
          repeat (obtain ⟨_, hfr⟩ := hfr)
          refine wp_region_noPanic ?_
          refine wp_region_held_drew (S := fun W => Below v6.heap.size v6 W) (by kernel_rfl) (bl_drew (Below.refl _ _)) (fun hS => ?_)
          refine wpAnyH_ready (rs := [0]) (by kernel_rfl) (by simp) ?_
          refine AllReadyH.cons rfl (fun K hK => ?_) AllReadyH.nil
          go_simp
          refine (ualive_any _).mono ?_
          rintro e v7 ⟨rfl, h7⟩
          try go_simp
          refine hK.out _ _ (bl_step hS h7) (fun hS => ?_)
          clear hK K
          try simp only [Act.put, List.setIfInBounds_toArray, List.set_cons_zero, List.set_cons_succ]
          have hBv7 : Below v6.heap.size v6 v7 := hS
          refine wpAnyH_more (S' := fun W => Below v7.heap.size v7 W) ?_ (fun _ h => bl_step hBv7 h)
          clear hS
          have hS : (fun W => Below v7.heap.size v7 W) v7 := Below.refl _ _
          refine take_at 1 82 (v := ?vq51) (by simp only [List.getElem?_toArray, List.getElem?_cons_succ, List.getElem?_cons_zero]; rfl) rfl (by kernel_rfl) (by kernel_rfl) (by kernel_rfl) (fun _ _ _ h => h) (Or.inl ⟨by rfl, ?yq51⟩) hS ?_
          case yq51 =>
            intro W hSW
            (try dsimp only at hSW)
            go_simp
            first | done | with_reducible rfl
          simp only [Act.put, List.setIfInBounds_toArray, List.set_cons_zero, List.set_cons_succ]
          refine take_at 2 83 (v := ?vq52) (by simp only [List.getElem?_toArray, List.getElem?_cons_succ, List.getElem?_cons_zero]; rfl) rfl (by kernel_rfl) (by kernel_rfl) (by kernel_rfl) (fun _ _ _ h => h) (Or.inl ⟨by rfl, ?yq52⟩) hS ?_
          case yq52 =>
            intro W hSW
            (try dsimp only at hSW)
            go_simp
            first | done | with_reducible rfl
          simp only [Act.put, List.setIfInBounds_toArray, List.set_cons_zero, List.set_cons_succ]
          refine take_at 3 84 (v := ?vq53) (by simp only [List.getElem?_toArray, List.getElem?_cons_succ, List.getElem?_cons_zero]; rfl) rfl (by kernel_rfl) (by kernel_rfl) (by kernel_rfl) (fun _ _ _ h => h) (Or.inl ⟨by rfl, ?yq53⟩) hS ?_
          case yq53 =>
            intro W hSW
            (try dsimp only at hSW)
            go_simp
            first | done | with_reducible rfl
          simp only [Act.put, List.setIfInBounds_toArray, List.set_cons_zero, List.set_cons_succ]
          refine take_at 4 85 (v := ?vq54) (by simp only [List.getElem?_toArray, List.getElem?_cons_succ, List.getElem?_cons_zero]; rfl) rfl (by kernel_rfl) (by kernel_rfl) (by kernel_rfl) (fun _ _ _ h => h) (Or.inl ⟨by rfl, ?yq54⟩) hS ?_
          case yq54 =>
            intro W hSW
            (try dsimp only at hSW)
            go_simp
            first | done | with_reducible rfl
          simp only [Act.put, List.setIfInBounds_toArray, List.set_cons_zero, List.set_cons_succ]
          refine take_at 5 86 (v := ?vq55) (by simp only [List.getElem?_toArray, List.getElem?_cons_succ, List.getElem?_cons_zero]; rfl) rfl (by kernel_rfl) (by kernel_rfl) (by kernel_rfl) (fun _ _ _ h => h) (Or.inl ⟨by rfl, ?yq55⟩) hS ?_
          case yq55 =>
            intro W hSW
            (try dsimp only at hSW)
            go_simp
            first | done | with_reducible rfl
          simp only [Act.put, List.setIfInBounds_toArray, List.set_cons_zero, List.set_cons_succ]
          refine take_at 6 87 (v := ?vq56) (by simp only [List.getElem?_toArray, List.getElem?_cons_succ, List.getElem?_cons_zero]; rfl) rfl (by kernel_rfl) (by kernel_rfl) (by kernel_rfl) (fun _ _ _ h => h) (Or.inl ⟨by rfl, ?yq56⟩) hS ?_
          case yq56 =>
            intro W hSW
            (try dsimp only at hSW)
            go_simp
            first | done | with_reducible rfl
          simp only [Act.put, List.setIfInBounds_toArray, List.set_cons_zero, List.set_cons_succ]
          refine take_at 7 88 (v := ?vq57) (by simp only [List.getElem?_toArray, List.getElem?_cons_succ, List.getElem?_cons_zero]; rfl) rfl (by kernel_rfl) (by kernel_rfl) (by kernel_rfl) (fun _ _ _ h => h) (Or.inl ⟨by rfl, ?yq57⟩) hS ?_
          case yq57 =>
            intro W hSW
            (try dsimp only at hSW)
            go_simp
            first | done | with_reducible rfl
          simp only [Act.put, List.setIfInBounds_toArray, List.set_cons_zero, List.set_cons_succ]
          refine take_at 8 89 (v := ?vq58) (by simp only [List.getElem?_toArray, List.getElem?_cons_succ, List.getElem?_cons_zero]; rfl) rfl (by kernel_rfl) (by kernel_rfl) (by kernel_rfl) (fun _ _ _ h => h) (Or.inl ⟨by rfl, ?yq58⟩) hS ?_
          case yq58 =>
            intro W hSW
            (try dsimp only at hSW)
            go_simp
            first | done | with_reducible rfl
          simp only [Act.put, List.setIfInBounds_toArray, List.set_cons_zero, List.set_cons_succ]
          refine take_at 9 90 (v := ?vq59) (by simp only [List.getElem?_toArray, List.getElem?_cons_succ, List.getElem?_cons_zero]; rfl) rfl (by kernel_rfl) (by kernel_rfl) (by kernel_rfl) (fun _ _ _ h => h) (Or.inl ⟨by rfl, ?yq59⟩) hS ?_
          case yq59 =>
            intro W hSW
            (try dsimp only at hSW)
            go_simp
            first | done | with_reducible rfl
          simp only [Act.put, List.setIfInBounds_toArray, List.set_cons_zero, List.set_cons_succ]
          refine take_at 10 91 (v := ?vq510) (by simp only [List.getElem?_toArray, List.getElem?_cons_succ, List.getElem?_cons_zero]; rfl) rfl (by kernel_rfl) (by kernel_rfl) (by kernel_rfl) (fun _ _ _ h => h) (Or.inl ⟨by rfl, ?yq510⟩) hS ?_
          case yq510 =>
            intro W hSW
            (try dsimp only at hSW)
            go_simp
            first | done | with_reducible rfl
          simp only [Act.put, List.setIfInBounds_toArray, List.set_cons_zero, List.set_cons_succ]
          refine take_at 11 92 (v := ?vq511) (by simp only [List.getElem?_toArray, List.getElem?_cons_succ, List.getElem?_cons_zero]; rfl) rfl (by kernel_rfl) (by kernel_rfl) (by kernel_rfl) (fun _ _ _ h => h) (Or.inl ⟨by rfl, ?yq511⟩) hS ?_
          case yq511 =>
            intro W hSW
            (try dsimp only at hSW)
            go_simp
            first | done | with_reducible rfl
          simp only [Act.put, List.setIfInBounds_toArray, List.set_cons_zero, List.set_cons_succ]
          refine take_at 12 93 (v := ?vq512) (by simp only [List.getElem?_toArray, List.getElem?_cons_succ, List.getElem?_cons_zero]; rfl) rfl (by kernel_rfl) (by kernel_rfl) (by kernel_rfl) (fun _ _ _ h => h) (Or.inl ⟨by rfl, ?yq512⟩) hS ?_
          case yq512 =>
            intro W hSW
            (try dsimp only at hSW)
            go_simp
            first | done | with_reducible rfl
          simp only [Act.put, List.setIfInBounds_toArray, List.set_cons_zero, List.set_cons_succ]
          refine take_at 13 94 (v := ?vq513) (by simp only [List.getElem?_toArray, List.getElem?_cons_succ, List.getElem?_cons_zero]; rfl) rfl (by kernel_rfl) (by kernel_rfl) (by kernel_rfl) (fun _ _ _ h => h) (Or.inl ⟨by rfl, ?yq513⟩) hS ?_
          case yq513 =>
            intro W hSW
            (try dsimp only at hSW)
            have z := (HSS.out W (bl_step (bl_step H06.out hBv7) hSW) (bl_step (bl_step HV6.out hBv7) hSW)).2.2.2
            go_simp
            first | done | with_reducible rfl
          simp only [Act.put, List.setIfInBounds_toArray, List.set_cons_zero, List.set_cons_succ]
          refine take_at 14 95 (v := ?vq514) (by simp only [List.getElem?_toArray, List.getElem?_cons_succ, List.getElem?_cons_zero]; rfl) rfl (by kernel_rfl) (by kernel_rfl) (by kernel_rfl) (fun _ _ _ h => h) (Or.inl ⟨by rfl, ?yq514⟩) hS ?_
          case yq514 =>
            intro W hSW
            (try dsimp only at hSW)
            have z0 := (HSS.out W (bl_step (bl_step H06.out hBv7) hSW) (bl_step (bl_step HV6.out hBv7) hSW)).1
            have z1 := (HSS.out W (bl_step (bl_step H06.out hBv7) hSW) (bl_step (bl_step HV6.out hBv7) hSW)).2.1
            have z2 := (HSS.out W (bl_step (bl_step H06.out hBv7) hSW) (bl_step (bl_step HV6.out hBv7) hSW)).2.2.1
            go_simp
            first | done | with_reducible rfl
          simp only [Act.put, List.setIfInBounds_toArray, List.set_cons_zero, List.set_cons_succ]
          refine take_at 16 97 (v := ?vq516) (by simp only [List.getElem?_toArray, List.getElem?_cons_succ, List.getElem?_cons_zero]; rfl) rfl (by kernel_rfl) (by kernel_rfl) (by kernel_rfl) (fun _ _ _ h => h) (Or.inl ⟨by rfl, ?yq516⟩) hS ?_
          case yq516 =>
            intro W hSW
            (try dsimp only at hSW)
            go_simp
            first | done | with_reducible rfl
          simp only [Act.put, List.setIfInBounds_toArray, List.set_cons_zero, List.set_cons_succ]
          refine wpAnyH_ready (rs := [15]) (by kernel_rfl) (by simp) ?_
          refine AllReadyH.cons rfl (fun K hK => ?_) AllReadyH.nil
          go_simp
          refine (HASP.out _).mono ?_
          rintro e v8 ⟨rfl, h8⟩
          try go_simp
          refine hK.out _ _ (bl_step hS h8) (fun hS => ?_)
          clear hK K
          try simp only [Act.put, List.setIfInBounds_toArray, List.set_cons_zero, List.set_cons_succ]
          have hBv8 : Below v7.heap.size v7 v8 := hS
          refine wpAnyH_more (S' := fun W => Below v8.heap.size v8 W) ?_ (fun _ h => bl_step hBv8 h)
          clear hS
          have hS : (fun W => Below v8.heap.size v8 W) v8 := Below.refl _ _
          refine wpAnyH_ready (rs := [17]) (by kernel_rfl) (by simp) ?_
          refine AllReadyH.cons rfl (fun K hK => ?_) AllReadyH.nil
          go_simp
          refine (HR.out _ (bl_step (bl_step (bl_step H06.out hBv7) hBv8) hS)).mono ?_
          rintro e v9 ⟨x9, rfl, ho9, h9⟩; have HO9 := Lib.hid ho9; clear ho9
          try go_simp
          refine hK.out _ _ (bl_step hS h9) (fun hS => ?_)
          clear hK K
          try simp only [Act.put, List.setIfInBounds_toArray, List.set_cons_zero, List.set_cons_succ]
          have hBv9 : Below v8.heap.size v8 v9 := hS
          refine wpAnyH_more (S' := fun W => Below v9.heap.size v9 W) ?_ (fun _ h => bl_step hBv9 h)
          clear hS
          have hS : (fun W => Below v9.heap.size v9 W) v9 := Below.refl _ _
          refine take_at 18 99 (v := ?vq518) (by simp only [List.getElem?_toArray, List.getElem?_cons_succ, List.getElem?_cons_zero]; rfl) rfl (by kernel_rfl) (by kernel_rfl) (by kernel_rfl) (fun _ _ _ h => h) (Or.inl ⟨by rfl, ?yq518⟩) hS ?_
          case yq518 =>
            intro W hSW
            (try dsimp only at hSW)
            have z := HCX.out W _ _ (HO9.out.later hSW)
            go_simp
            first | done | with_reducible rfl
          simp only [Act.put, List.setIfInBounds_toArray, List.set_cons_zero, List.set_cons_succ]
          refine take_at 19 100 (v := ?vq519) (by simp only [List.getElem?_toArray, List.getElem?_cons_succ, List.getElem?_cons_zero]; rfl) rfl (by kernel_rfl) (by kernel_rfl) (by kernel_rfl) (fun _ _ _ h => h) (Or.inl ⟨by rfl, ?yq519⟩) hS ?_
          case yq519 =>
            intro W hSW
            (try dsimp only at hSW)
            go_simp
            first | done | with_reducible rfl
          simp only [Act.put, List.setIfInBounds_toArray, List.set_cons_zero, List.set_cons_succ]
          refine take_at 20 101 (v := ?vq520) (by simp only [List.getElem?_toArray, List.getElem?_cons_succ, List.getElem?_cons_zero]; rfl) rfl (by kernel_rfl) (by kernel_rfl) (by kernel_rfl) (fun _ _ _ h => h) (Or.inl ⟨by rfl, ?yq520⟩) hS ?_
          case yq520 =>
            intro W hSW
            (try dsimp only at hSW)
            go_simp
            first | done | with_reducible rfl
          simp only [Act.put, List.setIfInBounds_toArray, List.set_cons_zero, List.set_cons_succ]
          refine take_at 21 6 (v := ?vq521) (by simp only [List.getElem?_toArray, List.getElem?_cons_succ, List.getElem?_cons_zero]; rfl) rfl (by kernel_rfl) (by kernel_rfl) (by kernel_rfl) (fun _ _ _ h => h) (Or.inl ⟨by rfl, ?yq521⟩) hS ?_
          case yq521 =>
            intro W hSW
            (try dsimp only at hSW)
            go_simp
            first | done | with_reducible rfl
          simp only [Act.put, List.setIfInBounds_toArray, List.set_cons_zero, List.set_cons_succ]
          refine wpAnyH_done (by kernel_rfl) ?_ _
          refine NoPanic.normal ?_
          go_wp2_with fail
          go_ret
          exact ⟨rfl, HB2.out.trans ((bl_step (bl_step (bl_step H06.out hBv7) hBv8) hBv9).mono HB2.out.size)⟩
        · skip
          go_wp2_with fail
          refine wp_of_frame [none, none, some (.int .i64 10), some (.pointer (some ⟨w.heap.size, 0, none⟩)), none, none, none, some (.int .i64 F), some (.slice Aw nw cw), some (.int .i64 0), none, none, none, none, none, none, none, none, none, none, none, none, none, none, none, none, none, none, none, none, none, none, none, none, none, none, none, none, none, none, none, none, none, none, none, none, none, none, none, none, none, none, none, none, none, none, none, none, none, none, none, none, none, none, none, none, none, none, none, none, none, none, none, none, none, none, none, none, none, none, none, none, none, none, none, none, none, none, none, none, none, none, none, none, none, none, none, none, none, none, none, none] (by
            simp only [Fr, Holes]
            repeat apply Exists.intro
            rfl) ?_
          intro a' hfr
          simp only [Fr, Holes] at hfr
          repeat (obtain ⟨_, hfr⟩ := hfr)
          refine wp_region_noPanic ?_
          refine wp_region_held_drew (S := fun W => Below v6.heap.size v6 W) (by kernel_rfl) (bl_drew (Below.refl _ _)) (fun hS => ?_)
          refine wpAnyH_ready (rs := [0]) (by kernel_rfl) (by simp) ?_
          refine AllReadyH.cons rfl (fun K hK => ?_) AllReadyH.nil
          go_simp
          refine (ualive_any _).mono ?_
          rintro e v7 ⟨rfl, h7⟩
          try go_simp
          refine hK.out _ _ (bl_step hS h7) (fun hS => ?_)
          clear hK K
          try simp only [Act.put, List.setIfInBounds_toArray, List.set_cons_zero, List.set_cons_succ]
          have hBv7 : Below v6.heap.size v6 v7 := hS
          refine wpAnyH_more (S' := fun W => Below v7.heap.size v7 W) ?_ (fun _ h => bl_step hBv7 h)
          clear hS
          have hS : (fun W => Below v7.heap.size v7 W) v7 := Below.refl _ _
          refine take_at 1 82 (v := ?vq101) (by simp only [List.getElem?_toArray, List.getElem?_cons_succ, List.getElem?_cons_zero]; rfl) rfl (by kernel_rfl) (by kernel_rfl) (by kernel_rfl) (fun _ _ _ h => h) (Or.inl ⟨by rfl, ?yq101⟩) hS ?_
          case yq101 =>
            intro W hSW
            (try dsimp only at hSW)
            go_simp
            first | done | with_reducible rfl
          simp only [Act.put, List.setIfInBounds_toArray, List.set_cons_zero, List.set_cons_succ]
          refine take_at 2 83 (v := ?vq102) (by simp only [List.getElem?_toArray, List.getElem?_cons_succ, List.getElem?_cons_zero]; rfl) rfl (by kernel_rfl) (by kernel_rfl) (by kernel_rfl) (fun _ _ _ h => h) (Or.inl ⟨by rfl, ?yq102⟩) hS ?_
          case yq102 =>
            intro W hSW
            (try dsimp only at hSW)
            go_simp
            first | done | with_reducible rfl
          simp only [Act.put, List.setIfInBounds_toArray, List.set_cons_zero, List.set_cons_succ]
          refine take_at 3 84 (v := ?vq103) (by simp only [List.getElem?_toArray, List.getElem?_cons_succ, List.getElem?_cons_zero]; rfl) rfl (by kernel_rfl) (by kernel_rfl) (by kernel_rfl) (fun _ _ _ h => h) (Or.inl ⟨by rfl, ?yq103⟩) hS ?_
          case yq103 =>
            intro W hSW
            (try dsimp only at hSW)
            go_simp
            first | done | with_reducible rfl
          simp only [Act.put, List.setIfInBounds_toArray, List.set_cons_zero, List.set_cons_succ]
          refine take_at 4 85 (v := ?vq104) (by simp only [List.getElem?_toArray, List.getElem?_cons_succ, List.getElem?_cons_zero]; rfl) rfl (by kernel_rfl) (by kernel_rfl) (by kernel_rfl) (fun _ _ _ h => h) (Or.inl ⟨by rfl, ?yq104⟩) hS ?_
          case yq104 =>
            intro W hSW
            (try dsimp only at hSW)
            go_simp
            first | done | with_reducible rfl
          simp only [Act.put, List.setIfInBounds_toArray, List.set_cons_zero, List.set_cons_succ]
          refine take_at 5 86 (v := ?vq105) (by simp only [List.getElem?_toArray, List.getElem?_cons_succ, List.getElem?_cons_zero]; rfl) rfl (by kernel_rfl) (by kernel_rfl) (by kernel_rfl) (fun _ _ _ h => h) (Or.inl ⟨by rfl, ?yq105⟩) hS ?_
          case yq105 =>
            intro W hSW
            (try dsimp only at hSW)
            go_simp
            first | done | with_reducible rfl
          simp only [Act.put, List.setIfInBounds_toArray, List.set_cons_zero, List.set_cons_succ]
          refine take_at 6 87 (v := ?vq106) (by simp only [List.getElem?_toArray, List.getElem?_cons_succ, List.getElem?_cons_zero]; rfl) rfl (by kernel_rfl) (by kernel_rfl) (by kernel_rfl) (fun _ _ _ h => h) (Or.inl ⟨by rfl, ?yq106⟩) hS ?_
          case yq106 =>
            intro W hSW
            (try dsimp only at hSW)
            go_simp
            first | done | with_reducible rfl
          simp only [Act.put, List.setIfInBounds_toArray, List.set_cons_zero, List.set_cons_succ]
          refine take_at 7 88 (v := ?vq107) (by simp only [List.getElem?_toArray, List.getElem?_cons_succ, List.getElem?_cons_zero]; rfl) rfl (by kernel_rfl) (by kernel_rfl) (by kernel_rfl) (fun _ _ _ h => h) (Or.inl ⟨by rfl, ?yq107⟩) hS ?_
          case yq107 =>
            intro W hSW
            (try dsimp only at hSW)
            go_simp
            first | done | with_reducible rfl
          simp only [Act.put, List.setIfInBounds_toArray, List.set_cons_zero, List.set_cons_succ]
          refine take_at 8 89 (v := ?vq108) (by simp only [List.getElem?_toArray, List.getElem?_cons_succ, List.getElem?_cons_zero]; rfl) rfl (by kernel_rfl) (by kernel_rfl) (by kernel_rfl) (fun _ _ _ h => h) (Or.inl ⟨by rfl, ?yq108⟩) hS ?_
          case yq108 =>
            intro W hSW
            (try dsimp only at hSW)
            go_simp
            first | done | with_reducible rfl
          simp only [Act.put, List.setIfInBounds_toArray, List.set_cons_zero, List.set_cons_succ]
          refine take_at 9 90 (v := ?vq109) (by simp only [List.getElem?_toArray, List.getElem?_cons_succ, List.getElem?_cons_zero]; rfl) rfl (by kernel_rfl) (by kernel_rfl) (by kernel_rfl) (fun _ _ _ h => h) (Or.inl ⟨by rfl, ?yq109⟩) hS ?_
          case yq109 =>
            intro W hSW
            (try dsimp only at hSW)
            go_simp
            first | done | with_reducible rfl
          simp only [Act.put, List.setIfInBounds_toArray, List.set_cons_zero, List.set_cons_succ]
          refine take_at 10 91 (v := ?vq1010) (by simp only [List.getElem?_toArray, List.getElem?_cons_succ, List.getElem?_cons_zero]; rfl) rfl (by kernel_rfl) (by kernel_rfl) (by kernel_rfl) (fun _ _ _ h => h) (Or.inl ⟨by rfl, ?yq1010⟩) hS ?_
          case yq1010 =>
            intro W hSW
            (try dsimp only at hSW)
            go_simp
            first | done | with_reducible rfl
          simp only [Act.put, List.setIfInBounds_toArray, List.set_cons_zero, List.set_cons_succ]
          refine take_at 11 92 (v := ?vq1011) (by simp only [List.getElem?_toArray, List.getElem?_cons_succ, List.getElem?_cons_zero]; rfl) rfl (by kernel_rfl) (by kernel_rfl) (by kernel_rfl) (fun _ _ _ h => h) (Or.inl ⟨by rfl, ?yq1011⟩) hS ?_
          case yq1011 =>
            intro W hSW
            (try dsimp only at hSW)
            go_simp
            first | done | with_reducible rfl
          simp only [Act.put, List.setIfInBounds_toArray, List.set_cons_zero, List.set_cons_succ]
          refine take_at 12 93 (v := ?vq1012) (by simp only [List.getElem?_toArray, List.getElem?_cons_succ, List.getElem?_cons_zero]; rfl) rfl (by kernel_rfl) (by kernel_rfl) (by kernel_rfl) (fun _ _ _ h => h) (Or.inl ⟨by rfl, ?yq1012⟩) hS ?_
          case yq1012 =>
            intro W hSW
            (try dsimp only at hSW)
            go_simp
            first | done | with_reducible rfl
          simp only [Act.put, List.setIfInBounds_toArray, List.set_cons_zero, List.set_cons_succ]
          refine take_at 13 94 (v := ?vq1013) (by simp only [List.getElem?_toArray, List.getElem?_cons_succ, List.getElem?_cons_zero]; rfl) rfl (by kernel_rfl) (by kernel_rfl) (by kernel_rfl) (fun _ _ _ h => h) (Or.inl ⟨by rfl, ?yq1013⟩) hS ?_
          case yq1013 =>
            intro W hSW
            (try dsimp only at hSW)
            have z := (HSS.out W (bl_step (bl_step H06.out hBv7) hSW) (bl_step (bl_step HV6.out hBv7) hSW)).2.2.2
            go_simp
            first | done | with_reducible rfl
          simp only [Act.put, List.setIfInBounds_toArray, List.set_cons_zero, List.set_cons_succ]
          refine take_at 14 95 (v := ?vq1014) (by simp only [List.getElem?_toArray, List.getElem?_cons_succ, List.getElem?_cons_zero]; rfl) rfl (by kernel_rfl) (by kernel_rfl) (by kernel_rfl) (fun _ _ _ h => h) (Or.inl ⟨by rfl, ?yq1014⟩) hS ?_
          case yq1014 =>
            intro W hSW
            (try dsimp only at hSW)
            have z0 := (HSS.out W (bl_step (bl_step H06.out hBv7) hSW) (bl_step (bl_step HV6.out hBv7) hSW)).1
            have z1 := (HSS.out W (bl_step (bl_step H06.out hBv7) hSW) (bl_step (bl_step HV6.out hBv7) hSW)).2.1
            have z2 := (HSS.out W (bl_step (bl_step H06.out hBv7) hSW) (bl_step (bl_step HV6.out hBv7) hSW)).2.2.1
            go_simp
            first | done | with_reducible rfl
          simp only [Act.put, List.setIfInBounds_toArray, List.set_cons_zero, List.set_cons_succ]
          refine take_at 16 97 (v := ?vq1016) (by simp only [List.getElem?_toArray, List.getElem?_cons_succ, List.getElem?_cons_zero]; rfl) rfl (by kernel_rfl) (by kernel_rfl) (by kernel_rfl) (fun _ _ _ h => h) (Or.inl ⟨by rfl, ?yq1016⟩) hS ?_
          case yq1016 =>
            intro W hSW
            (try dsimp only at hSW)
            go_simp
            first | done | with_reducible rfl
          simp only [Act.put, List.setIfInBounds_toArray, List.set_cons_zero, List.set_cons_succ]
          refine wpAnyH_ready (rs := [15]) (by kernel_rfl) (by simp) ?_
          refine AllReadyH.cons rfl (fun K hK => ?_) AllReadyH.nil
          go_simp
          refine (HASP.out _).mono ?_
          rintro e v8 ⟨rfl, h8⟩
          try go_simp
          refine hK.out _ _ (bl_step hS h8) (fun hS => ?_)
          clear hK K
          try simp only [Act.put, List.setIfInBounds_toArray, List.set_cons_zero, List.set_cons_succ]
          have hBv8 : Below v7.heap.size v7 v8 := hS
          refine wpAnyH_more (S' := fun W => Below v8.heap.size v8 W) ?_ (fun _ h => bl_step hBv8 h)
          clear hS
          have hS : (fun W => Below v8.heap.size v8 W) v8 := Below.refl _ _
          refine wpAnyH_ready (rs := [17]) (by kernel_rfl) (by simp) ?_
          refine AllReadyH.cons rfl (fun K hK => ?_) AllReadyH.nil
          go_simp
          refine (HR.out _ (bl_step (bl_step (bl_step H06.out hBv7) hBv8) hS)).mono ?_
          rintro e v9 ⟨x9, rfl, ho9, h9⟩; have HO9 := Lib.hid ho9; clear ho9
          try go_simp
          refine hK.out _ _ (bl_step hS h9) (fun hS => ?_)
          clear hK K
          try simp only [Act.put, List.setIfInBounds_toArray, List.set_cons_zero, List.set_cons_succ]
          have hBv9 : Below v8.heap.size v8 v9 := hS
          refine wpAnyH_more (S' := fun W => Below v9.heap.size v9 W) ?_ (fun _ h => bl_step hBv9 h)
          clear hS
          have hS : (fun W => Below v9.heap.size v9 W) v9 := Below.refl _ _
          refine take_at 18 99 (v := ?vq1018) (by simp only [List.getElem?_toArray, List.getElem?_cons_succ, List.getElem?_cons_zero]; rfl) rfl (by kernel_rfl) (by kernel_rfl) (by kernel_rfl) (fun _ _ _ h => h) (Or.inl ⟨by rfl, ?yq1018⟩) hS ?_
          case yq1018 =>
            intro W hSW
            (try dsimp only at hSW)
            have z := HCX.out W _ _ (HO9.out.later hSW)
            go_simp
            first | done | with_reducible rfl
          simp only [Act.put, List.setIfInBounds_toArray, List.set_cons_zero, List.set_cons_succ]
          refine take_at 19 100 (v := ?vq1019) (by simp only [List.getElem?_toArray, List.getElem?_cons_succ, List.getElem?_cons_zero]; rfl) rfl (by kernel_rfl) (by kernel_rfl) (by kernel_rfl) (fun _ _ _ h => h) (Or.inl ⟨by rfl, ?yq1019⟩) hS ?_
          case yq1019 =>
            intro W hSW
            (try dsimp only at hSW)
            go_simp
            first | done | with_reducible rfl
          simp only [Act.put, List.setIfInBounds_toArray, List.set_cons_zero, List.set_cons_succ]
          refine take_at 20 101 (v := ?vq1020) (by simp only [List.getElem?_toArray, List.getElem?_cons_succ, List.getElem?_cons_zero]; rfl) rfl (by kernel_rfl) (by kernel_rfl) (by kernel_rfl) (fun _ _ _ h => h) (Or.inl ⟨by rfl, ?yq1020⟩) hS ?_
          case yq1020 =>
            intro W hSW
            (try dsimp only at hSW)
            go_simp
            first | done | with_reducible rfl
          simp only [Act.put, List.setIfInBounds_toArray, List.set_cons_zero, List.set_cons_succ]
          refine take_at 21 6 (v := ?vq1021) (by simp only [List.getElem?_toArray, List.getElem?_cons_succ, List.getElem?_cons_zero]; rfl) rfl (by kernel_rfl) (by kernel_rfl) (by kernel_rfl) (fun _ _ _ h => h) (Or.inl ⟨by rfl, ?yq1021⟩) hS ?_
          case yq1021 =>
            intro W hSW
            (try dsimp only at hSW)
            go_simp
            first | done | with_reducible rfl
          simp only [Act.put, List.setIfInBounds_toArray, List.set_cons_zero, List.set_cons_succ]
          refine wpAnyH_done (by kernel_rfl) ?_ _
          refine NoPanic.normal ?_
          go_wp2_with fail
          go_ret
          exact ⟨rfl, HB2.out.trans ((bl_step (bl_step (bl_step H06.out hBv7) hBv8) hBv9).mono HB2.out.size)⟩
    · clear hbb
      go_wp2_with (go_at_call 12; refine (ualive_any _).mono ?_; rintro e w2 ⟨rfl, hb2⟩)
      go_ret
      exact ⟨rfl, HB2.out.trans (hb2.mono HB2.out.size)⟩
  · clear hbb
    go_wp2_with (go_at_call 12; refine (ualive_any _).mono ?_; rintro e w2 ⟨rfl, hb2⟩)
    go_ret
    exact ⟨rfl, HB2.out.trans (hb2.mono HB2.out.size)⟩
theorem uwrites_all {A B : Option Addr} (fi sn fi' sn' wd : Int) (L M : List RowB) (cap capb : Nat) (w : World) (hcap : L.length ≤ cap) (hcm : cap ≤ 9223372036854775807) (hs : RSrc w A L) (hm : ∀ m ∈ lens L, m ≤ 9223372036854775807)
    (hcapb : M.length ≤ capb) (hcmb : capb ≤ 9223372036854775807) (hs' : RSrc w B M) (hm' : ∀ m ∈ lens M, m ≤ 9223372036854775807) :
    Calls Try.prog 3 #[.agg #[.int .i64 fi, .int .i64 sn, .slice A L.length cap], .agg #[.int .i64 fi', .int .i64 sn', .slice B M.length capb], .int .i64 wd] w fun e w' => e = .returned (.bool true) ∧ Below w.heap.size w w' :=
  uwrites_walk fi sn fi' sn' wd L.length cap M.length capb w rfl rfl hcap hcm (by omega) (by omega) hs hs' hm hm'
end Go.Proofs.Ytdklddpkklodnaa
