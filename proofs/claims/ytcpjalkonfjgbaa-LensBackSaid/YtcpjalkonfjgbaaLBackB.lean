/-
  LensBack, where the lengths are refused: the law walked.
-/
import Derived.Test.YtcpjalkonfjgbaaLBackK
namespace Go.Proofs.Ytcpjalkonfjgbaa
open Go.RowKit

set_option maxRecDepth 100000 in
set_option maxHeartbeats 6400000 in
theorem back_bad (A A2 A3 : Option Addr) (bs : List Nat) (n n2 n3 cap cap2 cap3 : Nat) (x e1 : Int) (w : World) (h1 : n ≤ 60) (h2 : n2 ≤ 100) (hn3 : bs.length = n3) (h3 : n3 ≤ 200) (hc3 : n3 ≤ cap3) (hs3 : Src w A3 (bts bs)) (hb : ∀ b ∈ bs, b < 256)
    (he1 : e1 ≠ 0) (hw : Calls Try.prog 19 #[.slice A n cap, .int .i64 x] w fun e w' => e = .returned (.tuple #[.slice none 0 0, .int .i64 e1]) ∧ w = w') :
    Calls Try.prog 8 #[.slice A n cap, .int .i64 x, .slice A2 n2 cap2, .slice A3 n3 cap3] w fun e w' => e = .returned (.bool true) ∧ Below w.heap.size w w' := by
  obtain ⟨f, gE, k, S, hfk, hra⟩ := read_again (bs := bs) x n3 hn3 (by omega) hb
  have HRA := Lib.hid hra
  have HFK := Lib.hid hfk
  have HS3 := Lib.hid hs3
  have HC3 := Lib.hid hc3
  have HW := Lib.hid hw
  have h1' : ¬ (60 : Int) < (n : Int) := by omega
  have h2' : ¬ (100 : Int) < (n2 : Int) := by omega
  have h3' : ¬ (200 : Int) < (n3 : Int) := by omega
  have he1' : (e1 == 0) = false := by simpa using he1
  clear hra hfk hs3 hc3 hw hb hn3 he1
  go_enter Try.func8, Try.ntmps8
  go_wp2_with (first
      | (go_at_call 19; (with_reducible refine HW.out.mono ?_); rintro e w1 ⟨rfl, rfl⟩)
      | (go_at_call 23; (with_reducible refine (HRA.out w A3 cap3 HC3.out (src_laterV HS3.out (Below.refl w.heap.size w))).mono ?_); rintro e w5 ⟨Am, lm, cm, rfl, hb5, hwr, hcv⟩; have HB5 := Lib.hid (bl_step (Below.refl w.heap.size w) hb5); have HWR := Lib.hid hwr; have HCV := Lib.hid (And.intro hb5 hcv); clear hb5 hwr hcv)
      | (go_at_call 19; (with_reducible refine (HWR.out w5 (Below.refl _ _)).mono ?_); rintro e w6 ⟨Ay, ky, cy, rfl, hb6, hcw⟩; have HB6 := Lib.hid (bl_step HB5.out hb6); have HCW := Lib.hid (And.intro hb6 hcw); clear hb6 hcw))
  by_cases hf : f = 0
  · subst hf
    obtain ⟨hg, hk⟩ := HFK.out rfl
    subst hg
    have hkI : (k : Int) ≤ (n3 : Int) := by omega
    have hkd : decide ((k : Int) ≤ (n3 : Int)) = true := decide_eq_true hkI
    have hkc : k ≤ cap3 := by have := HC3.out; omega
    have hk0 : (0 : Int) ≤ (k : Int) := by omega
    have hcv1 : ∀ W, Below w6.heap.size w6 W → (convert 23 9 (.slice Ay ky cy)).run Try.prog W = .ok (.string S) W := HCW.out.2 rfl
    have hcv2 : ∀ W, Below w6.heap.size w6 W → (convert 23 9 (.slice A3 k cap3)).run Try.prog W = .ok (.string S) W := fun W hW => HCV.out.2 rfl W (bl_step HCV.out.1 (bl_step HCW.out.1 hW))
    have d1 := hcv1 w6.drew (bl_drew (Below.refl _ _))
    have d2 := hcv2 w6.drew (bl_drew (Below.refl _ _))
    have HV1 := Lib.hid hcv1
    have HV2 := Lib.hid hcv2
    clear hcv1 hcv2
    go_region_held3 (fun w' => (convert 23 9 (.slice Ay ky cy)).run Try.prog w' = .ok (.string S) w' ∧ (convert 23 9 (.slice A3 k cap3)).run Try.prog w' = .ok (.string S) w') (go_keep) (first
      | (go_at_call 18; (with_reducible refine (lalive_any _).mono ?_); rintro e v1 ⟨rfl, hv1⟩; have HW := Lib.hid (bl_step (bl_drew (Below.refl w6.heap.size w6)) hv1); have e1 := HV1.out v1 HW.out; have e2 := HV2.out v1 HW.out))
    go_wp2
    go_ret
    exact ⟨rfl, bl_step HB6.out HW.out⟩
  · have hfd : (f != 0) = true := by simpa using hf
    clear hf
    refine wp_of_frame [none, none, none, none, none, none, none, none, none, none, none, none, none, none, none, none, some (.int .i64 f), none, none, none, none, none, none, none, none, none, none, none, none, none, none, none, none, none, none, none, none, none, none, none, none, none, none, none, none, none, none, none, none, none, none, none, none, none, none, none, none, none, none, none, none, none, none, none, none, none, none, none, none, none, none, none, none, none, none, none, none, none, none, none, none, none, none, none, none, none, none, none, none, none, none, none, none, none, none, none, none, none, none, none, none, none, none] (by
      simp only [Fr, Holes]
      repeat apply Exists.intro
      rfl) ?_
    intro a' hfr
    simp only [Fr, Holes] at hfr
    repeat (obtain ⟨_, hfr⟩ := hfr)
    refine wp_region_noPanic ?_
    refine wp_region_held_drew (S := fun W => Below w6.heap.size w6 W) (by kernel_rfl) (bl_drew (Below.refl _ _)) (fun hS => ?_)
    refine wpAnyH_ready (rs := [0]) (by kernel_rfl) (by simp) ?_
    refine AllReadyH.cons rfl (fun K hK => ?_) AllReadyH.nil
    go_simp
    refine (lalive_any _).mono ?_
    rintro e v1 ⟨rfl, hv1⟩
    try go_simp
    refine hK.out _ _ (bl_step hS hv1) (fun hS => ?_)
    clear hK K
    try simp only [Act.put, List.setIfInBounds_toArray, List.set_cons_zero, List.set_cons_succ]
    have hBv1 : Below w6.heap.size w6 v1 := hS
    refine wpAnyH_more (S' := fun W => Below v1.heap.size v1 W) ?_ (fun _ h => bl_step hBv1 h)
    clear hS
    have hS : (fun W => Below v1.heap.size v1 W) v1 := Below.refl _ _
    refine take_at 1 80 (v := ?v1) (by simp only [List.getElem?_toArray, List.getElem?_cons_succ, List.getElem?_cons_zero]; rfl) rfl (by kernel_rfl) (by kernel_rfl) (by kernel_rfl) (fun _ _ _ h => h) (Or.inl ⟨by rfl, ?y1⟩) hS ?_
    case y1 =>
      intro W hSW
      (try dsimp only at hSW)
      go_simp
      first | done | with_reducible rfl
    simp only [Act.put, List.setIfInBounds_toArray, List.set_cons_zero, List.set_cons_succ]
    refine take_at 2 81 (v := ?v2) (by simp only [List.getElem?_toArray, List.getElem?_cons_succ, List.getElem?_cons_zero]; rfl) rfl (by kernel_rfl) (by kernel_rfl) (by kernel_rfl) (fun _ _ _ h => h) (Or.inl ⟨by rfl, ?y2⟩) hS ?_
    case y2 =>
      intro W hSW
      (try dsimp only at hSW)
      go_simp
      first | done | with_reducible rfl
    simp only [Act.put, List.setIfInBounds_toArray, List.set_cons_zero, List.set_cons_succ]
    refine take_at 3 82 (v := ?v3) (by simp only [List.getElem?_toArray, List.getElem?_cons_succ, List.getElem?_cons_zero]; rfl) rfl (by kernel_rfl) (by kernel_rfl) (by kernel_rfl) (fun _ _ _ h => h) (Or.inl ⟨by rfl, ?y3⟩) hS ?_
    case y3 =>
      intro W hSW
      (try dsimp only at hSW)
      go_simp
      first | done | with_reducible rfl
    simp only [Act.put, List.setIfInBounds_toArray, List.set_cons_zero, List.set_cons_succ]
    refine take_at 4 83 (v := ?v4) (by simp only [List.getElem?_toArray, List.getElem?_cons_succ, List.getElem?_cons_zero]; rfl) rfl (by kernel_rfl) (by kernel_rfl) (by kernel_rfl) (fun _ _ _ h => h) (Or.inl ⟨by rfl, ?y4⟩) hS ?_
    case y4 =>
      intro W hSW
      (try dsimp only at hSW)
      go_simp
      first | done | with_reducible rfl
    simp only [Act.put, List.setIfInBounds_toArray, List.set_cons_zero, List.set_cons_succ]
    refine take_at 5 84 (v := undef) (by simp only [List.getElem?_toArray, List.getElem?_cons_succ, List.getElem?_cons_zero]; rfl) rfl (by kernel_rfl) (by kernel_rfl) (by kernel_rfl) (fun _ _ _ h => h) (Or.inr ⟨by rfl, rfl⟩) hS ?_
    simp only [Act.put, List.setIfInBounds_toArray, List.set_cons_zero, List.set_cons_succ]
    refine take_at 6 85 (v := undef) (by simp only [List.getElem?_toArray, List.getElem?_cons_succ, List.getElem?_cons_zero]; rfl) rfl (by kernel_rfl) (by kernel_rfl) (by kernel_rfl) (fun _ _ _ h => h) (Or.inr ⟨by rfl, rfl⟩) hS ?_
    simp only [Act.put, List.setIfInBounds_toArray, List.set_cons_zero, List.set_cons_succ]
    refine take_at 7 86 (v := undef) (by simp only [List.getElem?_toArray, List.getElem?_cons_succ, List.getElem?_cons_zero]; rfl) rfl (by kernel_rfl) (by kernel_rfl) (by kernel_rfl) (fun _ _ _ h => h) (Or.inr ⟨by rfl, rfl⟩) hS ?_
    simp only [Act.put, List.setIfInBounds_toArray, List.set_cons_zero, List.set_cons_succ]
    refine take_at 8 87 (v := undef) (by simp only [List.getElem?_toArray, List.getElem?_cons_succ, List.getElem?_cons_zero]; rfl) rfl (by kernel_rfl) (by kernel_rfl) (by kernel_rfl) (fun _ _ _ h => h) (Or.inr ⟨by rfl, rfl⟩) hS ?_
    simp only [Act.put, List.setIfInBounds_toArray, List.set_cons_zero, List.set_cons_succ]
    refine take_at 9 88 (v := undef) (by simp only [List.getElem?_toArray, List.getElem?_cons_succ, List.getElem?_cons_zero]; rfl) rfl (by kernel_rfl) (by kernel_rfl) (by kernel_rfl) (fun _ _ _ h => h) (Or.inr ⟨by rfl, rfl⟩) hS ?_
    simp only [Act.put, List.setIfInBounds_toArray, List.set_cons_zero, List.set_cons_succ]
    refine take_at 10 89 (v := undef) (by simp only [List.getElem?_toArray, List.getElem?_cons_succ, List.getElem?_cons_zero]; rfl) rfl (by kernel_rfl) (by kernel_rfl) (by kernel_rfl) (fun _ _ _ h => h) (Or.inr ⟨by rfl, rfl⟩) hS ?_
    simp only [Act.put, List.setIfInBounds_toArray, List.set_cons_zero, List.set_cons_succ]
    refine take_at 11 90 (v := undef) (by simp only [List.getElem?_toArray, List.getElem?_cons_succ, List.getElem?_cons_zero]; rfl) rfl (by kernel_rfl) (by kernel_rfl) (by kernel_rfl) (fun _ _ _ h => h) (Or.inr ⟨by rfl, rfl⟩) hS ?_
    simp only [Act.put, List.setIfInBounds_toArray, List.set_cons_zero, List.set_cons_succ]
    refine take_at 12 91 (v := undef) (by simp only [List.getElem?_toArray, List.getElem?_cons_succ, List.getElem?_cons_zero]; rfl) rfl (by kernel_rfl) (by kernel_rfl) (by kernel_rfl) (fun _ _ _ h => h) (Or.inr ⟨by rfl, rfl⟩) hS ?_
    simp only [Act.put, List.setIfInBounds_toArray, List.set_cons_zero, List.set_cons_succ]
    refine take_at 13 92 (v := undef) (by simp only [List.getElem?_toArray, List.getElem?_cons_succ, List.getElem?_cons_zero]; rfl) rfl (by kernel_rfl) (by kernel_rfl) (by kernel_rfl) (fun _ _ _ h => h) (Or.inr ⟨by rfl, rfl⟩) hS ?_
    simp only [Act.put, List.setIfInBounds_toArray, List.set_cons_zero, List.set_cons_succ]
    refine take_at 14 93 (v := undef) (by simp only [List.getElem?_toArray, List.getElem?_cons_succ, List.getElem?_cons_zero]; rfl) rfl (by kernel_rfl) (by kernel_rfl) (by kernel_rfl) (fun _ _ _ h => h) (Or.inr ⟨by rfl, rfl⟩) hS ?_
    simp only [Act.put, List.setIfInBounds_toArray, List.set_cons_zero, List.set_cons_succ]
    refine take_at 15 94 (v := undef) (by simp only [List.getElem?_toArray, List.getElem?_cons_succ, List.getElem?_cons_zero]; rfl) rfl (by kernel_rfl) (by kernel_rfl) (by kernel_rfl) (fun _ _ _ h => h) (Or.inr ⟨by rfl, rfl⟩) hS ?_
    simp only [Act.put, List.setIfInBounds_toArray, List.set_cons_zero, List.set_cons_succ]
    refine take_at 16 95 (v := undef) (by simp only [List.getElem?_toArray, List.getElem?_cons_succ, List.getElem?_cons_zero]; rfl) rfl (by kernel_rfl) (by kernel_rfl) (by kernel_rfl) (fun _ _ _ h => h) (Or.inr ⟨by rfl, rfl⟩) hS ?_
    simp only [Act.put, List.setIfInBounds_toArray, List.set_cons_zero, List.set_cons_succ]
    refine take_at 17 96 (v := undef) (by simp only [List.getElem?_toArray, List.getElem?_cons_succ, List.getElem?_cons_zero]; rfl) rfl (by kernel_rfl) (by kernel_rfl) (by kernel_rfl) (fun _ _ _ h => h) (Or.inr ⟨by rfl, rfl⟩) hS ?_
    simp only [Act.put, List.setIfInBounds_toArray, List.set_cons_zero, List.set_cons_succ]
    refine take_at 18 97 (v := undef) (by simp only [List.getElem?_toArray, List.getElem?_cons_succ, List.getElem?_cons_zero]; rfl) rfl (by kernel_rfl) (by kernel_rfl) (by kernel_rfl) (fun _ _ _ h => h) (Or.inr ⟨by rfl, rfl⟩) hS ?_
    simp only [Act.put, List.setIfInBounds_toArray, List.set_cons_zero, List.set_cons_succ]
    refine take_at 19 98 (v := undef) (by simp only [List.getElem?_toArray, List.getElem?_cons_succ, List.getElem?_cons_zero]; rfl) rfl (by kernel_rfl) (by kernel_rfl) (by kernel_rfl) (fun _ _ _ h => h) (Or.inr ⟨by rfl, rfl⟩) hS ?_
    simp only [Act.put, List.setIfInBounds_toArray, List.set_cons_zero, List.set_cons_succ]
    refine take_at 20 99 (v := undef) (by simp only [List.getElem?_toArray, List.getElem?_cons_succ, List.getElem?_cons_zero]; rfl) rfl (by kernel_rfl) (by kernel_rfl) (by kernel_rfl) (fun _ _ _ h => h) (Or.inr ⟨by rfl, rfl⟩) hS ?_
    simp only [Act.put, List.setIfInBounds_toArray, List.set_cons_zero, List.set_cons_succ]
    refine take_at 21 100 (v := undef) (by simp only [List.getElem?_toArray, List.getElem?_cons_succ, List.getElem?_cons_zero]; rfl) rfl (by kernel_rfl) (by kernel_rfl) (by kernel_rfl) (fun _ _ _ h => h) (Or.inr ⟨by rfl, rfl⟩) hS ?_
    simp only [Act.put, List.setIfInBounds_toArray, List.set_cons_zero, List.set_cons_succ]
    refine take_at 22 101 (v := ?v22) (by simp only [List.getElem?_toArray, List.getElem?_cons_succ, List.getElem?_cons_zero]; rfl) rfl (by kernel_rfl) (by kernel_rfl) (by kernel_rfl) (fun _ _ _ h => h) (Or.inl ⟨by rfl, ?y22⟩) hS ?_
    case y22 =>
      intro W hSW
      (try dsimp only at hSW)
      go_simp
      first | done | with_reducible rfl
    simp only [Act.put, List.setIfInBounds_toArray, List.set_cons_zero, List.set_cons_succ]
    refine take_at 23 102 (v := ?v23) (by simp only [List.getElem?_toArray, List.getElem?_cons_succ, List.getElem?_cons_zero]; rfl) rfl (by kernel_rfl) (by kernel_rfl) (by kernel_rfl) (fun _ _ _ h => h) (Or.inl ⟨by rfl, ?y23⟩) hS ?_
    case y23 =>
      intro W hSW
      (try dsimp only at hSW)
      go_simp
      first | done | with_reducible rfl
    simp only [Act.put, List.setIfInBounds_toArray, List.set_cons_zero, List.set_cons_succ]
    refine take_at 24 8 (v := ?v24) (by simp only [List.getElem?_toArray, List.getElem?_cons_succ, List.getElem?_cons_zero]; rfl) rfl (by kernel_rfl) (by kernel_rfl) (by kernel_rfl) (fun _ _ _ h => h) (Or.inl ⟨by rfl, ?y24⟩) hS ?_
    case y24 =>
      intro W hSW
      (try dsimp only at hSW)
      go_simp
      first | done | with_reducible rfl
    simp only [Act.put, List.setIfInBounds_toArray, List.set_cons_zero, List.set_cons_succ]
    refine wpAnyH_done (by kernel_rfl) ?_ _
    refine NoPanic.normal ?_
    go_wp2_with fail
    go_ret
    exact ⟨rfl, bl_step HB6.out hBv1⟩
end Go.Proofs.Ytcpjalkonfjgbaa
