/-
  SpansAdds, case 3 of five.
-/
import Derived.Test.YtmaefeckkodllaaAddsKit
import Derived.IntWalk
import Derived.Test.YtmaefeckkodllaaHand
namespace Go.Proofs.Ytmaefeckkodllaa
open Go.RowKit

set_option maxRecDepth 100000 in
set_option maxHeartbeats 3200000 in
theorem adds_case3 (A : Option Addr) (l : List (Bool × (Int × Int))) (cap : Nat) (a b c d : Int) (w : World) (hrx : rightB (a, b) = true) (hry : rightB (c, d) = true) (hm1 : c < b) (hm2 : a < d) (hs : OSrc w A l) :
    Calls Try.prog 5 #[.slice A l.length cap, spv (a, b), spv (c, d)] w fun e w' => e = .returned (.bool true) ∧ Below w.heap.size w w' := by
  have HS := Lib.hid hs
  clear hs
  have HRX := Lib.hid hrx
  clear hrx
  have HRY := Lib.hid hry
  clear hry
  have HM1 := Lib.hid (decide_eq_false (show ¬ b ≤ c by omega))
  have HM2 := Lib.hid (decide_eq_false (show ¬ d ≤ a by omega))
  clear hm1 hm2
  have HXR := Lib.hid ((Row.made w 24 #[.int .i64 a, .int .i64 b]).more (.cells #[.int .i64 c, .int .i64 d] 24))
  have HYR := Lib.hid (made1 w (.cells #[.int .i64 a, .int .i64 b] 24) 24 #[.int .i64 c, .int .i64 d])
  have HB0 := Lib.hid (bl_alloc (bl_alloc (Below.refl w.heap.size w) (.cells #[.int .i64 a, .int .i64 b] 24)) (.cells #[.int .i64 c, .int .i64 d] 24))
  show Calls Try.prog 5 #[_, .agg #[.int .i64 a, .int .i64 b], .agg #[.int .i64 c, .int .i64 d]] w _
  go_enter Try.func5, Try.ntmps5
  go_wp2_with fail
  refine (new_sits _).mono ?_
  rintro e w1 ⟨rfl, h1, hb1⟩
  simp only [World.size_alloc] at h1
  have HI : Hid (Box2 w.heap.size (w.heap.size + 1 + 1) w.heap.size (w.heap.size + 1) (a, b) (c, d) [] w1) := Lib.hid ⟨by omega, by omega, h1.down (by omega), HXR.out.later hb1, HYR.out.later hb1⟩
  have HB1 := Lib.hid (bl_step HB0.out hb1)
  clear h1 hb1 HXR HYR HB0
  go_wp2_with fail
  go_loopw [9] (fun i wr => ∃ k : Nat, k ≤ l.length ∧ k ≤ 60 ∧ i = .int .i64 k ∧ Box2 w.heap.size (w.heap.size + 1 + 1) w.heap.size (w.heap.size + 1) (a, b) (c, d) (addsO (l.take k)) wr ∧ Below w.heap.size w wr) (fun i _ => l.length - (intOf i).toNat)
  case atStart => exact ⟨0, by omega, by omega, rfl, HI.out, HB1.out⟩
  case round =>
    obtain ⟨k, hk, hk2, rfl, hbx, hbr⟩ := hrel
    have HBX := Lib.hid hbx
    have HBR := Lib.hid hbr
    clear hbx hbr HI HB1
    have hlL : (addsO (l.take k)).length ≤ 60 := by have := (addsO_ok (l.take k)).2.1; simp at this; omega
    by_cases hlt : k < l.length ∧ k < 60
    · obtain ⟨hlt, hlt2⟩ := hlt
      obtain ⟨bb, off, rfl, hc⟩ := HS.out (by omega)
      obtain ⟨o, ho⟩ : ∃ o, l[k]? = some o := ⟨_, List.getElem?_eq_getElem hlt⟩
      have HT1 := Lib.hid (show addsO (l.take (k + 1)) = addO o.2 (addsO (l.take k)) by rw [take_snoc ho, addsO_snoc])
      obtain ⟨_, c1, c2⟩ := hc k o ho
      have d1 := kept_box HBR.out c1
      have d2 := kept_box HBR.out c2
      clear hc ho c1 c2
      obtain ⟨t, z⟩ := o
      obtain ⟨u, v⟩ := z
      simp only at HT1 d1 d2
      have hi0 : (0 : Int) ≤ (k : Int) := by omega
      have hi1 : (k : Int) < (l.length : Int) := by omega
      go_wp2_with fail
      refine (sit_add (u, v) HBX.out.2.2.1 (by omega)).mono ?_
      rintro e w3 ⟨rfl, h3, ho3⟩
      have HF := Lib.hid (And.intro (HBX.out.set h3 ho3) (HBR.out.trans (HBX.out.down ho3)))
      clear h3 ho3 d1 d2
      go_wp2
      go_roundw
      case rel => exact ⟨k + 1, by omega, by omega, by go_num, by rw [HT1.out]; exact HF.out.1, HF.out.2⟩
      case measure => simp [intOf]; omega
    · have HNL := Lib.hid (addsO_ok (l.take k)).1
      generalize addsO (l.take k) = L at *
      obtain ⟨wa, hwa⟩ : ∃ wa, (hasF (c, d) L && rightB (c, d)) = wa := ⟨_, rfl⟩
      obtain ⟨ta, hta⟩ : ∃ ta, (touF (c, d) L && rightB (c, d)) = ta := ⟨_, rfl⟩
      have HWA := Lib.hid hwa
      have HTA := Lib.hid hta
      clear hwa hta
      have hlt' : l.length ≤ k ∨ 60 ≤ k := by omega
      clear hlt
      have q0 := HBX.out.x0
      have q1 := HBX.out.x1
      have q2 := HBX.out.y0
      have q3 := HBX.out.y1
      rcases Nat.lt_or_ge k l.length with hkl | hkl
      · first
          | have h60 : 60 ≤ k := by omega
          | have h60 : k = l.length := by omega
        clear hlt'
        go_wp2
        go_region_held3 (fun w' => w'.cell? ⟨w.heap.size + 1, 0, none⟩ = some (.int .i64 c) ∧ w'.cell? ⟨w.heap.size + 1, 1, none⟩ = some (.int .i64 d)) (first | go_keep | (exact ⟨kept_box (by assumption) (by assumption), kept_box (by assumption) (by assumption)⟩)) (first
          | (go_at_call 25; refine (sit_has (c, d) (HBX.out.later (bl_drew (Below.refl _ _))).2.2.1 wa HWA.out).mono ?_; rintro e w3 ⟨rfl, hb3⟩; have HB3 := Lib.hid (bl_step (bl_drew (Below.refl wr.heap.size wr)) hb3))
          | (go_at_call 26; refine (sit_tou (c, d) (HBX.out.later HB3.out).2.2.1 ta HTA.out).mono ?_; rintro e w4 ⟨rfl, hb4⟩; have HB4 := Lib.hid (bl_step HB3.out hb4)))
        have HX4 := Lib.hid (HBX.out.later HB4.out)
        have HY4 := Lib.hid (bl_step HBR.out HB4.out)
        clear HB4 HB3 q0 q1 q2 q3 HBX HBR
        have HB4 := Lib.hid HY4.out
        clear HY4
        have q0 := HX4.out.x0
        have q1 := HX4.out.x1
        have q2 := HX4.out.y0
        have q3 := HX4.out.y1
        have hL1 : (addF (a, b) L).length ≤ L.length + 1 := by have := addO_len (x := (a, b)) HNL.out; unfold addO at this; rw [if_pos HRX.out] at this; exact this
        have HL1 := Lib.hid (show (addF (a, b) L).length ≤ 61 by omega)
        have hNL1 := add_norm HNL.out HRX.out
        have hL2 := takeF_len (rightB_iff.1 HRX.out).2.2 hNL1
        have HL2 := Lib.hid (show (takeF (a, b) (addF (a, b) L)).length ≤ 62 by omega)
        have HHX := Lib.hid (add_has HNL.out HRX.out)
        have HTW := Lib.hid (add_twice HNL.out HRX.out)
        have HTX := Lib.hid (take_tou hNL1 HRX.out)
        have hcnt := take_count hNL1 HRX.out ((hasF_iff hNL1 (rightB_iff.1 HRX.out).2.2).1 (by have := add_has HNL.out HRX.out; rw [HRX.out, Bool.and_true] at this; exact this))
        have hb1 := count_bounds hNL1
        have hb2 := count_bounds (take_norm hNL1 HRX.out)
        have hxb := rightB_iff.1 HRX.out
        simp only at hcnt hxb
        obtain ⟨n1, hn1⟩ : ∃ n1, countF (addF (a, b) L) = n1 := ⟨_, rfl⟩
        obtain ⟨n2, hn2⟩ : ∃ n2, countF (takeF (a, b) (addF (a, b) L)) = n2 := ⟨_, rfl⟩
        rw [hn1, hn2] at hcnt
        rw [hn1] at hb1
        rw [hn2] at hb2
        have HN1 := Lib.hid hn1
        have HN2 := Lib.hid hn2
        clear hL1 hL2 hNL1 hn1 hn2
        obtain ⟨hx0, hx1, hx2⟩ := hxb
        have hd1 := HM1.out
        have hd2 := HM2.out
        have hdd1 : c < b := by simpa using hd1
        have hdd2 : a < d := by simpa using hd2
        go_wp2_with fail
        refine (right_is (a, b) true HRX.out _).mono ?_
        rintro e w5 ⟨rfl, hb5⟩
        have HX5 := Lib.hid (HX4.out.later hb5)
        have HB5 := Lib.hid (bl_step HB4.out hb5)
        clear hb5 q0 q1 q2 q3
        have q0 := HX5.out.x0
        have q1 := HX5.out.x1
        have q2 := HX5.out.y0
        have q3 := HX5.out.y1
        clear HX4 HB4
        go_wp2_with fail
        refine (right_is (c, d) true HRY.out _).mono ?_
        rintro e w6 ⟨rfl, hb6⟩
        have HX6 := Lib.hid (HX5.out.later hb6)
        have HB6 := Lib.hid (bl_step HB5.out hb6)
        clear hb6 q0 q1 q2 q3
        have q0 := HX6.out.x0
        have q1 := HX6.out.x1
        have q2 := HX6.out.y0
        have q3 := HX6.out.y1
        clear HX5 HB5
        go_wp2_with fail
        refine (sit_addR (a, b) HRX.out HX6.out.2.2.1 (by omega)).mono ?_
        rintro e w7 ⟨rfl, hs7, ho7⟩
        
        have HX7 := Lib.hid (HX6.out.set hs7 ho7)
        have HB7 := Lib.hid (HB6.out.trans (HX6.out.down ho7))
        clear hs7 ho7 q0 q1 q2 q3
        have q0 := HX7.out.x0
        have q1 := HX7.out.x1
        have q2 := HX7.out.y0
        have q3 := HX7.out.y1
        clear HX6 HB6
        go_wp2_with fail
        refine (sit_count HX7.out.2.2.1 (by have := HL1.out; omega)).mono ?_
        rintro e w8 ⟨rfl, hb8⟩
        have HX8 := Lib.hid (HX7.out.later hb8)
        have HB8 := Lib.hid (bl_step HB7.out hb8)
        clear hb8 q0 q1 q2 q3
        have q0 := HX8.out.x0
        have q1 := HX8.out.x1
        have q2 := HX8.out.y0
        have q3 := HX8.out.y1
        clear HX7 HB7
        rw [HN1.out]
        go_wp2_with fail
        refine (sit_has (a, b) HX8.out.2.2.1 true HHX.out).mono ?_
        rintro e w9 ⟨rfl, hb9⟩
        have HX9 := Lib.hid (HX8.out.later hb9)
        have HB9 := Lib.hid (bl_step HB8.out hb9)
        clear hb9 q0 q1 q2 q3
        have q0 := HX9.out.x0
        have q1 := HX9.out.x1
        have q2 := HX9.out.y0
        have q3 := HX9.out.y1
        clear HX8 HB8
        go_wp2_with fail
        refine (sit_addR (a, b) HRX.out HX9.out.2.2.1 (by have := HL1.out; omega)).mono ?_
        rintro e w10 ⟨rfl, hs10, ho10⟩
        rw [HTW.out] at hs10
        have HX10 := Lib.hid (HX9.out.set hs10 ho10)
        have HB10 := Lib.hid (HB9.out.trans (HX9.out.down ho10))
        clear hs10 ho10 q0 q1 q2 q3
        have q0 := HX10.out.x0
        have q1 := HX10.out.x1
        have q2 := HX10.out.y0
        have q3 := HX10.out.y1
        clear HX9 HB9
        go_wp2_with fail
        refine (sit_count HX10.out.2.2.1 (by have := HL1.out; omega)).mono ?_
        rintro e w11 ⟨rfl, hb11⟩
        have HX11 := Lib.hid (HX10.out.later hb11)
        have HB11 := Lib.hid (bl_step HB10.out hb11)
        clear hb11 q0 q1 q2 q3
        have q0 := HX11.out.x0
        have q1 := HX11.out.x1
        have q2 := HX11.out.y0
        have q3 := HX11.out.y1
        clear HX10 HB10
        rw [HN1.out]
        go_wp2_with fail
        refine (sit_takeR (a, b) HRX.out HX11.out.2.2.1 (by have := HL1.out; omega)).mono ?_
        rintro e w12 ⟨rfl, hs12, ho12⟩
        
        have HX12 := Lib.hid (HX11.out.set hs12 ho12)
        have HB12 := Lib.hid (HB11.out.trans (HX11.out.down ho12))
        clear hs12 ho12 q0 q1 q2 q3
        have q0 := HX12.out.x0
        have q1 := HX12.out.x1
        have q2 := HX12.out.y0
        have q3 := HX12.out.y1
        clear HX11 HB11
        go_wp2_with fail
        have HQ := Lib.hid HX12.out
        have HLT := Lib.hid (show (takeF (a, b) (addF (a, b) L)).length ≤ 100000 by have := HL2.out; omega)
        have hw1 : IntKind.i64.wrap (b - a) = b - a := IntWalk.i64_in _ (by omega)
        have hw2 : IntKind.i64.wrap (n1 - n2) = n1 - n2 := IntWalk.i64_in _ (by omega)
        refine wp_of_frame [none, none, none, none, some (.pointer (some ⟨w.heap.size, 0, none⟩)), none, none, some (.pointer (some ⟨w.heap.size + 1 + 1, 0, none⟩)), none, none, none, none, some (.bool false), some (.int .i64 n1), none, none, none, none, none, none, none, none, none, none, none, none, none, none, none, none, none, none, none, none, none, none, none, none, none, none, none, none, none, none, none, none, none, none, none, none, none, none, none, none, none, none, none, none, none, none, none, none, none, none, none, none, none, none, none, none, none, none, none, none, none, none, none, none, none, none, none, none, none, none, none, none, none, none, none, none, none, none, none, none, none, none, none, none, none, none, none, none, none, none, none, none, none, none, none, none, none, none, none, none, none, none, none, none, none, none, none, none, none, none, none, none, none, none, none, none, none, none, none, none, none, none, none, none, none, none, none, none, none, none, none, none, none, none, none, none, none, none, none, none, none, none, none, none, none, none, none] (by
          simp only [Fr, Holes]
          repeat apply Exists.intro
          rfl) ?_
        intro a' hfr
        simp only [Fr, Holes] at hfr
        repeat (obtain ⟨_, hfr⟩ := hfr)
        refine wp_region_noPanic ?_
        refine wp_region_held_drew (S := fun W => Below w12.heap.size w12 W) (by kernel_rfl) (bl_drew (Below.refl _ _)) (fun hS => ?_)
        refine wpAnyH_ready (rs := [0]) (by kernel_rfl) (by simp) ?_
        refine AllReadyH.cons rfl (fun K hK => ?_) AllReadyH.nil
        go_simp
        refine (alive3_any _).mono ?_
        rintro e v1 ⟨rfl, g1⟩; have hbv1 := g1
        try go_simp
        refine hK.out _ _ (bl_step hS hbv1) (fun hS => ?_)
        clear hK K
        try simp only [Act.put, List.setIfInBounds_toArray, List.set_cons_zero, List.set_cons_succ]
        have hBv1 : Below w12.heap.size w12 v1 := hS
        refine wpAnyH_more (S' := fun W => Below v1.heap.size v1 W) ?_ (fun _ h => bl_step hBv1 h)
        clear hS
        have hS : (fun W => Below v1.heap.size v1 W) v1 := Below.refl _ _
        refine take_at 1 125 (v := ?vA1) (by simp only [List.getElem?_toArray, List.getElem?_cons_succ, List.getElem?_cons_zero]; rfl) rfl (by kernel_rfl) (by kernel_rfl) (by kernel_rfl) (fun _ _ _ h => h) (Or.inl ⟨by rfl, ?yA1⟩) hS ?_
        case yA1 =>
          intro W hSW
          (try dsimp only at hSW)
          go_simp
          first | done | with_reducible rfl
        simp only [Act.put, List.setIfInBounds_toArray, List.set_cons_zero, List.set_cons_succ]
        refine take_at 2 126 (v := ?vA2) (by simp only [List.getElem?_toArray, List.getElem?_cons_succ, List.getElem?_cons_zero]; rfl) rfl (by kernel_rfl) (by kernel_rfl) (by kernel_rfl) (fun _ _ _ h => h) (Or.inl ⟨by rfl, ?yA2⟩) hS ?_
        case yA2 =>
          intro W hSW
          (try dsimp only at hSW)
          go_simp
          first | done | with_reducible rfl
        simp only [Act.put, List.setIfInBounds_toArray, List.set_cons_zero, List.set_cons_succ]
        refine take_at 3 127 (v := ?vA3) (by simp only [List.getElem?_toArray, List.getElem?_cons_succ, List.getElem?_cons_zero]; rfl) rfl (by kernel_rfl) (by kernel_rfl) (by kernel_rfl) (fun _ _ _ h => h) (Or.inl ⟨by rfl, ?yA3⟩) hS ?_
        case yA3 =>
          intro W hSW
          (try dsimp only at hSW)
          have y0 := kept_box hSW (HQ.out.later hBv1).x0
          have y1 := kept_box hSW (HQ.out.later hBv1).x1
          go_simp
          first | done | with_reducible rfl
        simp only [Act.put, List.setIfInBounds_toArray, List.set_cons_zero, List.set_cons_succ]
        refine wpAnyH_ready (rs := [4]) (by kernel_rfl) (by simp) ?_
        refine AllReadyH.cons rfl (fun K hK => ?_) AllReadyH.nil
        go_simp
        refine (sit_tou (a, b) (HQ.out.later hBv1).2.2.1 false HTX.out).mono ?_
        rintro e v2 ⟨rfl, g2⟩; have hbv2 := g2
        try go_simp
        refine hK.out _ _ (bl_step hS hbv2) (fun hS => ?_)
        clear hK K
        try simp only [Act.put, List.setIfInBounds_toArray, List.set_cons_zero, List.set_cons_succ]
        have hBv2 : Below v1.heap.size v1 v2 := hS
        refine wpAnyH_more (S' := fun W => Below v2.heap.size v2 W) ?_ (fun _ h => bl_step hBv2 h)
        clear hS
        have hS : (fun W => Below v2.heap.size v2 W) v2 := Below.refl _ _
        refine take_at 5 129 (v := ?vA5) (by simp only [List.getElem?_toArray, List.getElem?_cons_succ, List.getElem?_cons_zero]; rfl) rfl (by kernel_rfl) (by kernel_rfl) (by kernel_rfl) (fun _ _ _ h => h) (Or.inl ⟨by rfl, ?yA5⟩) hS ?_
        case yA5 =>
          intro W hSW
          (try dsimp only at hSW)
          go_simp
          first | done | with_reducible rfl
        simp only [Act.put, List.setIfInBounds_toArray, List.set_cons_zero, List.set_cons_succ]
        refine take_at 6 130 (v := ?vA6) (by simp only [List.getElem?_toArray, List.getElem?_cons_succ, List.getElem?_cons_zero]; rfl) rfl (by kernel_rfl) (by kernel_rfl) (by kernel_rfl) (fun _ _ _ h => h) (Or.inl ⟨by rfl, ?yA6⟩) hS ?_
        case yA6 =>
          intro W hSW
          (try dsimp only at hSW)
          go_simp
          first | done | with_reducible rfl
        simp only [Act.put, List.setIfInBounds_toArray, List.set_cons_zero, List.set_cons_succ]
        refine take_at 7 131 (v := ?vA7) (by simp only [List.getElem?_toArray, List.getElem?_cons_succ, List.getElem?_cons_zero]; rfl) rfl (by kernel_rfl) (by kernel_rfl) (by kernel_rfl) (fun _ _ _ h => h) (Or.inl ⟨by rfl, ?yA7⟩) hS ?_
        case yA7 =>
          intro W hSW
          (try dsimp only at hSW)
          go_simp
          first | done | with_reducible rfl
        simp only [Act.put, List.setIfInBounds_toArray, List.set_cons_zero, List.set_cons_succ]
        refine take_at 8 132 (v := ?vA8) (by simp only [List.getElem?_toArray, List.getElem?_cons_succ, List.getElem?_cons_zero]; rfl) rfl (by kernel_rfl) (by kernel_rfl) (by kernel_rfl) (fun _ _ _ h => h) (Or.inl ⟨by rfl, ?yA8⟩) hS ?_
        case yA8 =>
          intro W hSW
          (try dsimp only at hSW)
          go_simp
          first | done | with_reducible rfl
        simp only [Act.put, List.setIfInBounds_toArray, List.set_cons_zero, List.set_cons_succ]
        refine take_at 9 133 (v := ?vA9) (by simp only [List.getElem?_toArray, List.getElem?_cons_succ, List.getElem?_cons_zero]; rfl) rfl (by kernel_rfl) (by kernel_rfl) (by kernel_rfl) (fun _ _ _ h => h) (Or.inl ⟨by rfl, ?yA9⟩) hS ?_
        case yA9 =>
          intro W hSW
          (try dsimp only at hSW)
          go_simp
          first | done | with_reducible rfl
        simp only [Act.put, List.setIfInBounds_toArray, List.set_cons_zero, List.set_cons_succ]
        refine take_at 12 136 (v := ?vA12) (by simp only [List.getElem?_toArray, List.getElem?_cons_succ, List.getElem?_cons_zero]; rfl) rfl (by kernel_rfl) (by kernel_rfl) (by kernel_rfl) (fun _ _ _ h => h) (Or.inl ⟨by rfl, ?yA12⟩) hS ?_
        case yA12 =>
          intro W hSW
          (try dsimp only at hSW)
          go_simp
          first | done | with_reducible rfl
        simp only [Act.put, List.setIfInBounds_toArray, List.set_cons_zero, List.set_cons_succ]
        refine take_at 13 137 (v := ?vA13) (by simp only [List.getElem?_toArray, List.getElem?_cons_succ, List.getElem?_cons_zero]; rfl) rfl (by kernel_rfl) (by kernel_rfl) (by kernel_rfl) (fun _ _ _ h => h) (Or.inl ⟨by rfl, ?yA13⟩) hS ?_
        case yA13 =>
          intro W hSW
          (try dsimp only at hSW)
          have y0 := kept_box hSW ((HQ.out.later hBv1).later hBv2).x0
          have y1 := kept_box hSW ((HQ.out.later hBv1).later hBv2).x1
          go_simp
          first | done | with_reducible rfl
        simp only [Act.put, List.setIfInBounds_toArray, List.set_cons_zero, List.set_cons_succ]
        refine take_at 14 138 (v := ?vA14) (by simp only [List.getElem?_toArray, List.getElem?_cons_succ, List.getElem?_cons_zero]; rfl) rfl (by kernel_rfl) (by kernel_rfl) (by kernel_rfl) (fun _ _ _ h => h) (Or.inl ⟨by rfl, ?yA14⟩) hS ?_
        case yA14 =>
          intro W hSW
          (try dsimp only at hSW)
          go_simp
          first | done | with_reducible rfl
        simp only [Act.put, List.setIfInBounds_toArray, List.set_cons_zero, List.set_cons_succ]
        refine take_at 15 139 (v := ?vA15) (by simp only [List.getElem?_toArray, List.getElem?_cons_succ, List.getElem?_cons_zero]; rfl) rfl (by kernel_rfl) (by kernel_rfl) (by kernel_rfl) (fun _ _ _ h => h) (Or.inl ⟨by rfl, ?yA15⟩) hS ?_
        case yA15 =>
          intro W hSW
          (try dsimp only at hSW)
          have y0 := kept_box hSW ((HQ.out.later hBv1).later hBv2).x0
          have y1 := kept_box hSW ((HQ.out.later hBv1).later hBv2).x1
          go_simp
          first | done | with_reducible rfl
        simp only [Act.put, List.setIfInBounds_toArray, List.set_cons_zero, List.set_cons_succ]
        refine take_at 16 140 (v := ?vA16) (by simp only [List.getElem?_toArray, List.getElem?_cons_succ, List.getElem?_cons_zero]; rfl) rfl (by kernel_rfl) (by kernel_rfl) (by kernel_rfl) (fun _ _ _ h => h) (Or.inl ⟨by rfl, ?yA16⟩) hS ?_
        case yA16 =>
          intro W hSW
          (try dsimp only at hSW)
          go_simp
          first | done | with_reducible rfl
        simp only [Act.put, List.setIfInBounds_toArray, List.set_cons_zero, List.set_cons_succ]
        refine wpAnyH_ready (rs := [10]) (by kernel_rfl) (by simp) ?_
        refine AllReadyH.cons rfl (fun K hK => ?_) AllReadyH.nil
        go_simp
        refine (sit_count ((HQ.out.later hBv1).later hBv2).2.2.1 HLT.out).mono ?_
        rintro e v3 ⟨rfl, g3⟩; have hbv3 := g3; rw [HN2.out]
        try go_simp
        refine hK.out _ _ (bl_step hS hbv3) (fun hS => ?_)
        clear hK K
        try simp only [Act.put, List.setIfInBounds_toArray, List.set_cons_zero, List.set_cons_succ]
        have hBv3 : Below v2.heap.size v2 v3 := hS
        refine wpAnyH_more (S' := fun W => Below v3.heap.size v3 W) ?_ (fun _ h => bl_step hBv3 h)
        clear hS
        have hS : (fun W => Below v3.heap.size v3 W) v3 := Below.refl _ _
        refine take_at 11 135 (v := ?vA11) (by simp only [List.getElem?_toArray, List.getElem?_cons_succ, List.getElem?_cons_zero]; rfl) rfl (by kernel_rfl) (by kernel_rfl) (by kernel_rfl) (fun _ _ _ h => h) (Or.inl ⟨by rfl, ?yA11⟩) hS ?_
        case yA11 =>
          intro W hSW
          (try dsimp only at hSW)
          go_simp
          first | done | with_reducible rfl
        simp only [Act.put, List.setIfInBounds_toArray, List.set_cons_zero, List.set_cons_succ]
        refine take_at 17 141 (v := ?vA17) (by simp only [List.getElem?_toArray, List.getElem?_cons_succ, List.getElem?_cons_zero]; rfl) rfl (by kernel_rfl) (by kernel_rfl) (by kernel_rfl) (fun _ _ _ h => h) (Or.inl ⟨by rfl, ?yA17⟩) hS ?_
        case yA17 =>
          intro W hSW
          (try dsimp only at hSW)
          go_simp
          first | done | with_reducible rfl
        simp only [Act.put, List.setIfInBounds_toArray, List.set_cons_zero, List.set_cons_succ]
        refine take_at 18 142 (v := ?vA18) (by simp only [List.getElem?_toArray, List.getElem?_cons_succ, List.getElem?_cons_zero]; rfl) rfl (by kernel_rfl) (by kernel_rfl) (by kernel_rfl) (fun _ _ _ h => h) (Or.inl ⟨by rfl, ?yA18⟩) hS ?_
        case yA18 =>
          intro W hSW
          (try dsimp only at hSW)
          go_simp
          first | done | with_reducible rfl
        simp only [Act.put, List.setIfInBounds_toArray, List.set_cons_zero, List.set_cons_succ]
        refine take_at 19 143 (v := ?vA19) (by simp only [List.getElem?_toArray, List.getElem?_cons_succ, List.getElem?_cons_zero]; rfl) rfl (by kernel_rfl) (by kernel_rfl) (by kernel_rfl) (fun _ _ _ h => h) (Or.inl ⟨by rfl, ?yA19⟩) hS ?_
        case yA19 =>
          intro W hSW
          (try dsimp only at hSW)
          go_simp
          first | done | with_reducible rfl
        simp only [Act.put, List.setIfInBounds_toArray, List.set_cons_zero, List.set_cons_succ]
        refine take_at 20 144 (v := ?vA20) (by simp only [List.getElem?_toArray, List.getElem?_cons_succ, List.getElem?_cons_zero]; rfl) rfl (by kernel_rfl) (by kernel_rfl) (by kernel_rfl) (fun _ _ _ h => h) (Or.inl ⟨by rfl, ?yA20⟩) hS ?_
        case yA20 =>
          intro W hSW
          (try dsimp only at hSW)
          go_simp
          first | done | with_reducible rfl
        simp only [Act.put, List.setIfInBounds_toArray, List.set_cons_zero, List.set_cons_succ]
        refine take_at 21 145 (v := ?vA21) (by simp only [List.getElem?_toArray, List.getElem?_cons_succ, List.getElem?_cons_zero]; rfl) rfl (by kernel_rfl) (by kernel_rfl) (by kernel_rfl) (fun _ _ _ h => h) (Or.inl ⟨by rfl, ?yA21⟩) hS ?_
        case yA21 =>
          intro W hSW
          (try dsimp only at hSW)
          go_simp
          first | done | with_reducible rfl
        simp only [Act.put, List.setIfInBounds_toArray, List.set_cons_zero, List.set_cons_succ]
        refine take_at 22 146 (v := ?vA22) (by simp only [List.getElem?_toArray, List.getElem?_cons_succ, List.getElem?_cons_zero]; rfl) rfl (by kernel_rfl) (by kernel_rfl) (by kernel_rfl) (fun _ _ _ h => h) (Or.inl ⟨by rfl, ?yA22⟩) hS ?_
        case yA22 =>
          intro W hSW
          (try dsimp only at hSW)
          go_simp
          first | done | with_reducible rfl
        simp only [Act.put, List.setIfInBounds_toArray, List.set_cons_zero, List.set_cons_succ]
        refine take_at 23 147 (v := undef) (by simp only [List.getElem?_toArray, List.getElem?_cons_succ, List.getElem?_cons_zero]; rfl) rfl (by kernel_rfl) (by kernel_rfl) (by kernel_rfl) (fun _ _ _ h => h) (Or.inr ⟨by rfl, rfl⟩) hS ?_
        simp only [Act.put, List.setIfInBounds_toArray, List.set_cons_zero, List.set_cons_succ]
        refine take_at 24 148 (v := undef) (by simp only [List.getElem?_toArray, List.getElem?_cons_succ, List.getElem?_cons_zero]; rfl) rfl (by kernel_rfl) (by kernel_rfl) (by kernel_rfl) (fun _ _ _ h => h) (Or.inr ⟨by rfl, rfl⟩) hS ?_
        simp only [Act.put, List.setIfInBounds_toArray, List.set_cons_zero, List.set_cons_succ]
        refine take_at 25 149 (v := undef) (by simp only [List.getElem?_toArray, List.getElem?_cons_succ, List.getElem?_cons_zero]; rfl) rfl (by kernel_rfl) (by kernel_rfl) (by kernel_rfl) (fun _ _ _ h => h) (Or.inr ⟨by rfl, rfl⟩) hS ?_
        simp only [Act.put, List.setIfInBounds_toArray, List.set_cons_zero, List.set_cons_succ]
        refine take_at 26 150 (v := undef) (by simp only [List.getElem?_toArray, List.getElem?_cons_succ, List.getElem?_cons_zero]; rfl) rfl (by kernel_rfl) (by kernel_rfl) (by kernel_rfl) (fun _ _ _ h => h) (Or.inr ⟨by rfl, rfl⟩) hS ?_
        simp only [Act.put, List.setIfInBounds_toArray, List.set_cons_zero, List.set_cons_succ]
        refine take_at 27 151 (v := undef) (by simp only [List.getElem?_toArray, List.getElem?_cons_succ, List.getElem?_cons_zero]; rfl) rfl (by kernel_rfl) (by kernel_rfl) (by kernel_rfl) (fun _ _ _ h => h) (Or.inr ⟨by rfl, rfl⟩) hS ?_
        simp only [Act.put, List.setIfInBounds_toArray, List.set_cons_zero, List.set_cons_succ]
        refine take_at 28 152 (v := undef) (by simp only [List.getElem?_toArray, List.getElem?_cons_succ, List.getElem?_cons_zero]; rfl) rfl (by kernel_rfl) (by kernel_rfl) (by kernel_rfl) (fun _ _ _ h => h) (Or.inr ⟨by rfl, rfl⟩) hS ?_
        simp only [Act.put, List.setIfInBounds_toArray, List.set_cons_zero, List.set_cons_succ]
        refine take_at 29 153 (v := undef) (by simp only [List.getElem?_toArray, List.getElem?_cons_succ, List.getElem?_cons_zero]; rfl) rfl (by kernel_rfl) (by kernel_rfl) (by kernel_rfl) (fun _ _ _ h => h) (Or.inr ⟨by rfl, rfl⟩) hS ?_
        simp only [Act.put, List.setIfInBounds_toArray, List.set_cons_zero, List.set_cons_succ]
        refine take_at 30 154 (v := undef) (by simp only [List.getElem?_toArray, List.getElem?_cons_succ, List.getElem?_cons_zero]; rfl) rfl (by kernel_rfl) (by kernel_rfl) (by kernel_rfl) (fun _ _ _ h => h) (Or.inr ⟨by rfl, rfl⟩) hS ?_
        simp only [Act.put, List.setIfInBounds_toArray, List.set_cons_zero, List.set_cons_succ]
        refine take_at 31 155 (v := undef) (by simp only [List.getElem?_toArray, List.getElem?_cons_succ, List.getElem?_cons_zero]; rfl) rfl (by kernel_rfl) (by kernel_rfl) (by kernel_rfl) (fun _ _ _ h => h) (Or.inr ⟨by rfl, rfl⟩) hS ?_
        simp only [Act.put, List.setIfInBounds_toArray, List.set_cons_zero, List.set_cons_succ]
        refine take_at 32 156 (v := undef) (by simp only [List.getElem?_toArray, List.getElem?_cons_succ, List.getElem?_cons_zero]; rfl) rfl (by kernel_rfl) (by kernel_rfl) (by kernel_rfl) (fun _ _ _ h => h) (Or.inr ⟨by rfl, rfl⟩) hS ?_
        simp only [Act.put, List.setIfInBounds_toArray, List.set_cons_zero, List.set_cons_succ]
        refine take_at 33 157 (v := undef) (by simp only [List.getElem?_toArray, List.getElem?_cons_succ, List.getElem?_cons_zero]; rfl) rfl (by kernel_rfl) (by kernel_rfl) (by kernel_rfl) (fun _ _ _ h => h) (Or.inr ⟨by rfl, rfl⟩) hS ?_
        simp only [Act.put, List.setIfInBounds_toArray, List.set_cons_zero, List.set_cons_succ]
        refine take_at 34 158 (v := undef) (by simp only [List.getElem?_toArray, List.getElem?_cons_succ, List.getElem?_cons_zero]; rfl) rfl (by kernel_rfl) (by kernel_rfl) (by kernel_rfl) (fun _ _ _ h => h) (Or.inr ⟨by rfl, rfl⟩) hS ?_
        simp only [Act.put, List.setIfInBounds_toArray, List.set_cons_zero, List.set_cons_succ]
        refine take_at 35 159 (v := ?vA35) (by simp only [List.getElem?_toArray, List.getElem?_cons_succ, List.getElem?_cons_zero]; rfl) rfl (by kernel_rfl) (by kernel_rfl) (by kernel_rfl) (fun _ _ _ h => h) (Or.inl ⟨by rfl, ?yA35⟩) hS ?_
        case yA35 =>
          intro W hSW
          (try dsimp only at hSW)
          go_simp
          first | done | with_reducible rfl
        simp only [Act.put, List.setIfInBounds_toArray, List.set_cons_zero, List.set_cons_succ]
        refine take_at 36 160 (v := ?vA36) (by simp only [List.getElem?_toArray, List.getElem?_cons_succ, List.getElem?_cons_zero]; rfl) rfl (by kernel_rfl) (by kernel_rfl) (by kernel_rfl) (fun _ _ _ h => h) (Or.inl ⟨by rfl, ?yA36⟩) hS ?_
        case yA36 =>
          intro W hSW
          (try dsimp only at hSW)
          go_simp
          first | done | with_reducible rfl
        simp only [Act.put, List.setIfInBounds_toArray, List.set_cons_zero, List.set_cons_succ]
        refine take_at 37 6 (v := ?vA37) (by simp only [List.getElem?_toArray, List.getElem?_cons_succ, List.getElem?_cons_zero]; rfl) rfl (by kernel_rfl) (by kernel_rfl) (by kernel_rfl) (fun _ _ _ h => h) (Or.inl ⟨by rfl, ?yA37⟩) hS ?_
        case yA37 =>
          intro W hSW
          (try dsimp only at hSW)
          go_simp
          first | done | with_reducible rfl
        simp only [Act.put, List.setIfInBounds_toArray, List.set_cons_zero, List.set_cons_succ]
        refine wpAnyH_done (by kernel_rfl) ?_ _
        refine NoPanic.normal ?_
        go_wp2
        go_ret
        exact ⟨rfl, bl_step HB12.out (bl_step (bl_step hBv1 hBv2) hBv3)⟩
      · first
          | have h60 : 60 ≤ k := by omega
          | have h60 : k = l.length := by omega
        clear hlt'
        go_wp2
        go_region_held3 (fun w' => w'.cell? ⟨w.heap.size + 1, 0, none⟩ = some (.int .i64 c) ∧ w'.cell? ⟨w.heap.size + 1, 1, none⟩ = some (.int .i64 d)) (first | go_keep | (exact ⟨kept_box (by assumption) (by assumption), kept_box (by assumption) (by assumption)⟩)) (first
          | (go_at_call 25; refine (sit_has (c, d) (HBX.out.later (bl_drew (Below.refl _ _))).2.2.1 wa HWA.out).mono ?_; rintro e w3 ⟨rfl, hb3⟩; have HB3 := Lib.hid (bl_step (bl_drew (Below.refl wr.heap.size wr)) hb3))
          | (go_at_call 26; refine (sit_tou (c, d) (HBX.out.later HB3.out).2.2.1 ta HTA.out).mono ?_; rintro e w4 ⟨rfl, hb4⟩; have HB4 := Lib.hid (bl_step HB3.out hb4)))
        have HX4 := Lib.hid (HBX.out.later HB4.out)
        have HY4 := Lib.hid (bl_step HBR.out HB4.out)
        clear HB4 HB3 q0 q1 q2 q3 HBX HBR
        have HB4 := Lib.hid HY4.out
        clear HY4
        have q0 := HX4.out.x0
        have q1 := HX4.out.x1
        have q2 := HX4.out.y0
        have q3 := HX4.out.y1
        have hL1 : (addF (a, b) L).length ≤ L.length + 1 := by have := addO_len (x := (a, b)) HNL.out; unfold addO at this; rw [if_pos HRX.out] at this; exact this
        have HL1 := Lib.hid (show (addF (a, b) L).length ≤ 61 by omega)
        have hNL1 := add_norm HNL.out HRX.out
        have hL2 := takeF_len (rightB_iff.1 HRX.out).2.2 hNL1
        have HL2 := Lib.hid (show (takeF (a, b) (addF (a, b) L)).length ≤ 62 by omega)
        have HHX := Lib.hid (add_has HNL.out HRX.out)
        have HTW := Lib.hid (add_twice HNL.out HRX.out)
        have HTX := Lib.hid (take_tou hNL1 HRX.out)
        have hcnt := take_count hNL1 HRX.out ((hasF_iff hNL1 (rightB_iff.1 HRX.out).2.2).1 (by have := add_has HNL.out HRX.out; rw [HRX.out, Bool.and_true] at this; exact this))
        have hb1 := count_bounds hNL1
        have hb2 := count_bounds (take_norm hNL1 HRX.out)
        have hxb := rightB_iff.1 HRX.out
        simp only at hcnt hxb
        obtain ⟨n1, hn1⟩ : ∃ n1, countF (addF (a, b) L) = n1 := ⟨_, rfl⟩
        obtain ⟨n2, hn2⟩ : ∃ n2, countF (takeF (a, b) (addF (a, b) L)) = n2 := ⟨_, rfl⟩
        rw [hn1, hn2] at hcnt
        rw [hn1] at hb1
        rw [hn2] at hb2
        have HN1 := Lib.hid hn1
        have HN2 := Lib.hid hn2
        clear hL1 hL2 hNL1 hn1 hn2
        obtain ⟨hx0, hx1, hx2⟩ := hxb
        have hd1 := HM1.out
        have hd2 := HM2.out
        have hdd1 : c < b := by simpa using hd1
        have hdd2 : a < d := by simpa using hd2
        go_wp2_with fail
        refine (right_is (a, b) true HRX.out _).mono ?_
        rintro e w5 ⟨rfl, hb5⟩
        have HX5 := Lib.hid (HX4.out.later hb5)
        have HB5 := Lib.hid (bl_step HB4.out hb5)
        clear hb5 q0 q1 q2 q3
        have q0 := HX5.out.x0
        have q1 := HX5.out.x1
        have q2 := HX5.out.y0
        have q3 := HX5.out.y1
        clear HX4 HB4
        go_wp2_with fail
        refine (right_is (c, d) true HRY.out _).mono ?_
        rintro e w6 ⟨rfl, hb6⟩
        have HX6 := Lib.hid (HX5.out.later hb6)
        have HB6 := Lib.hid (bl_step HB5.out hb6)
        clear hb6 q0 q1 q2 q3
        have q0 := HX6.out.x0
        have q1 := HX6.out.x1
        have q2 := HX6.out.y0
        have q3 := HX6.out.y1
        clear HX5 HB5
        go_wp2_with fail
        refine (sit_addR (a, b) HRX.out HX6.out.2.2.1 (by omega)).mono ?_
        rintro e w7 ⟨rfl, hs7, ho7⟩
        
        have HX7 := Lib.hid (HX6.out.set hs7 ho7)
        have HB7 := Lib.hid (HB6.out.trans (HX6.out.down ho7))
        clear hs7 ho7 q0 q1 q2 q3
        have q0 := HX7.out.x0
        have q1 := HX7.out.x1
        have q2 := HX7.out.y0
        have q3 := HX7.out.y1
        clear HX6 HB6
        go_wp2_with fail
        refine (sit_count HX7.out.2.2.1 (by have := HL1.out; omega)).mono ?_
        rintro e w8 ⟨rfl, hb8⟩
        have HX8 := Lib.hid (HX7.out.later hb8)
        have HB8 := Lib.hid (bl_step HB7.out hb8)
        clear hb8 q0 q1 q2 q3
        have q0 := HX8.out.x0
        have q1 := HX8.out.x1
        have q2 := HX8.out.y0
        have q3 := HX8.out.y1
        clear HX7 HB7
        rw [HN1.out]
        go_wp2_with fail
        refine (sit_has (a, b) HX8.out.2.2.1 true HHX.out).mono ?_
        rintro e w9 ⟨rfl, hb9⟩
        have HX9 := Lib.hid (HX8.out.later hb9)
        have HB9 := Lib.hid (bl_step HB8.out hb9)
        clear hb9 q0 q1 q2 q3
        have q0 := HX9.out.x0
        have q1 := HX9.out.x1
        have q2 := HX9.out.y0
        have q3 := HX9.out.y1
        clear HX8 HB8
        go_wp2_with fail
        refine (sit_addR (a, b) HRX.out HX9.out.2.2.1 (by have := HL1.out; omega)).mono ?_
        rintro e w10 ⟨rfl, hs10, ho10⟩
        rw [HTW.out] at hs10
        have HX10 := Lib.hid (HX9.out.set hs10 ho10)
        have HB10 := Lib.hid (HB9.out.trans (HX9.out.down ho10))
        clear hs10 ho10 q0 q1 q2 q3
        have q0 := HX10.out.x0
        have q1 := HX10.out.x1
        have q2 := HX10.out.y0
        have q3 := HX10.out.y1
        clear HX9 HB9
        go_wp2_with fail
        refine (sit_count HX10.out.2.2.1 (by have := HL1.out; omega)).mono ?_
        rintro e w11 ⟨rfl, hb11⟩
        have HX11 := Lib.hid (HX10.out.later hb11)
        have HB11 := Lib.hid (bl_step HB10.out hb11)
        clear hb11 q0 q1 q2 q3
        have q0 := HX11.out.x0
        have q1 := HX11.out.x1
        have q2 := HX11.out.y0
        have q3 := HX11.out.y1
        clear HX10 HB10
        rw [HN1.out]
        go_wp2_with fail
        refine (sit_takeR (a, b) HRX.out HX11.out.2.2.1 (by have := HL1.out; omega)).mono ?_
        rintro e w12 ⟨rfl, hs12, ho12⟩
        
        have HX12 := Lib.hid (HX11.out.set hs12 ho12)
        have HB12 := Lib.hid (HB11.out.trans (HX11.out.down ho12))
        clear hs12 ho12 q0 q1 q2 q3
        have q0 := HX12.out.x0
        have q1 := HX12.out.x1
        have q2 := HX12.out.y0
        have q3 := HX12.out.y1
        clear HX11 HB11
        go_wp2_with fail
        have HQ := Lib.hid HX12.out
        have HLT := Lib.hid (show (takeF (a, b) (addF (a, b) L)).length ≤ 100000 by have := HL2.out; omega)
        have hw1 : IntKind.i64.wrap (b - a) = b - a := IntWalk.i64_in _ (by omega)
        have hw2 : IntKind.i64.wrap (n1 - n2) = n1 - n2 := IntWalk.i64_in _ (by omega)
        refine wp_of_frame [none, none, none, none, some (.pointer (some ⟨w.heap.size, 0, none⟩)), none, none, some (.pointer (some ⟨w.heap.size + 1 + 1, 0, none⟩)), none, none, none, none, some (.bool false), some (.int .i64 n1), none, none, none, none, none, none, none, none, none, none, none, none, none, none, none, none, none, none, none, none, none, none, none, none, none, none, none, none, none, none, none, none, none, none, none, none, none, none, none, none, none, none, none, none, none, none, none, none, none, none, none, none, none, none, none, none, none, none, none, none, none, none, none, none, none, none, none, none, none, none, none, none, none, none, none, none, none, none, none, none, none, none, none, none, none, none, none, none, none, none, none, none, none, none, none, none, none, none, none, none, none, none, none, none, none, none, none, none, none, none, none, none, none, none, none, none, none, none, none, none, none, none, none, none, none, none, none, none, none, none, none, none, none, none, none, none, none, none, none, none, none, none, none, none, none, none, none] (by
          simp only [Fr, Holes]
          repeat apply Exists.intro
          rfl) ?_
        intro a' hfr
        simp only [Fr, Holes] at hfr
        repeat (obtain ⟨_, hfr⟩ := hfr)
        refine wp_region_noPanic ?_
        refine wp_region_held_drew (S := fun W => Below w12.heap.size w12 W) (by kernel_rfl) (bl_drew (Below.refl _ _)) (fun hS => ?_)
        refine wpAnyH_ready (rs := [0]) (by kernel_rfl) (by simp) ?_
        refine AllReadyH.cons rfl (fun K hK => ?_) AllReadyH.nil
        go_simp
        refine (alive3_any _).mono ?_
        rintro e v1 ⟨rfl, g1⟩; have hbv1 := g1
        try go_simp
        refine hK.out _ _ (bl_step hS hbv1) (fun hS => ?_)
        clear hK K
        try simp only [Act.put, List.setIfInBounds_toArray, List.set_cons_zero, List.set_cons_succ]
        have hBv1 : Below w12.heap.size w12 v1 := hS
        refine wpAnyH_more (S' := fun W => Below v1.heap.size v1 W) ?_ (fun _ h => bl_step hBv1 h)
        clear hS
        have hS : (fun W => Below v1.heap.size v1 W) v1 := Below.refl _ _
        refine take_at 1 125 (v := ?vB1) (by simp only [List.getElem?_toArray, List.getElem?_cons_succ, List.getElem?_cons_zero]; rfl) rfl (by kernel_rfl) (by kernel_rfl) (by kernel_rfl) (fun _ _ _ h => h) (Or.inl ⟨by rfl, ?yB1⟩) hS ?_
        case yB1 =>
          intro W hSW
          (try dsimp only at hSW)
          go_simp
          first | done | with_reducible rfl
        simp only [Act.put, List.setIfInBounds_toArray, List.set_cons_zero, List.set_cons_succ]
        refine take_at 2 126 (v := ?vB2) (by simp only [List.getElem?_toArray, List.getElem?_cons_succ, List.getElem?_cons_zero]; rfl) rfl (by kernel_rfl) (by kernel_rfl) (by kernel_rfl) (fun _ _ _ h => h) (Or.inl ⟨by rfl, ?yB2⟩) hS ?_
        case yB2 =>
          intro W hSW
          (try dsimp only at hSW)
          go_simp
          first | done | with_reducible rfl
        simp only [Act.put, List.setIfInBounds_toArray, List.set_cons_zero, List.set_cons_succ]
        refine take_at 3 127 (v := ?vB3) (by simp only [List.getElem?_toArray, List.getElem?_cons_succ, List.getElem?_cons_zero]; rfl) rfl (by kernel_rfl) (by kernel_rfl) (by kernel_rfl) (fun _ _ _ h => h) (Or.inl ⟨by rfl, ?yB3⟩) hS ?_
        case yB3 =>
          intro W hSW
          (try dsimp only at hSW)
          have y0 := kept_box hSW (HQ.out.later hBv1).x0
          have y1 := kept_box hSW (HQ.out.later hBv1).x1
          go_simp
          first | done | with_reducible rfl
        simp only [Act.put, List.setIfInBounds_toArray, List.set_cons_zero, List.set_cons_succ]
        refine wpAnyH_ready (rs := [4]) (by kernel_rfl) (by simp) ?_
        refine AllReadyH.cons rfl (fun K hK => ?_) AllReadyH.nil
        go_simp
        refine (sit_tou (a, b) (HQ.out.later hBv1).2.2.1 false HTX.out).mono ?_
        rintro e v2 ⟨rfl, g2⟩; have hbv2 := g2
        try go_simp
        refine hK.out _ _ (bl_step hS hbv2) (fun hS => ?_)
        clear hK K
        try simp only [Act.put, List.setIfInBounds_toArray, List.set_cons_zero, List.set_cons_succ]
        have hBv2 : Below v1.heap.size v1 v2 := hS
        refine wpAnyH_more (S' := fun W => Below v2.heap.size v2 W) ?_ (fun _ h => bl_step hBv2 h)
        clear hS
        have hS : (fun W => Below v2.heap.size v2 W) v2 := Below.refl _ _
        refine take_at 5 129 (v := ?vB5) (by simp only [List.getElem?_toArray, List.getElem?_cons_succ, List.getElem?_cons_zero]; rfl) rfl (by kernel_rfl) (by kernel_rfl) (by kernel_rfl) (fun _ _ _ h => h) (Or.inl ⟨by rfl, ?yB5⟩) hS ?_
        case yB5 =>
          intro W hSW
          (try dsimp only at hSW)
          go_simp
          first | done | with_reducible rfl
        simp only [Act.put, List.setIfInBounds_toArray, List.set_cons_zero, List.set_cons_succ]
        refine take_at 6 130 (v := ?vB6) (by simp only [List.getElem?_toArray, List.getElem?_cons_succ, List.getElem?_cons_zero]; rfl) rfl (by kernel_rfl) (by kernel_rfl) (by kernel_rfl) (fun _ _ _ h => h) (Or.inl ⟨by rfl, ?yB6⟩) hS ?_
        case yB6 =>
          intro W hSW
          (try dsimp only at hSW)
          go_simp
          first | done | with_reducible rfl
        simp only [Act.put, List.setIfInBounds_toArray, List.set_cons_zero, List.set_cons_succ]
        refine take_at 7 131 (v := ?vB7) (by simp only [List.getElem?_toArray, List.getElem?_cons_succ, List.getElem?_cons_zero]; rfl) rfl (by kernel_rfl) (by kernel_rfl) (by kernel_rfl) (fun _ _ _ h => h) (Or.inl ⟨by rfl, ?yB7⟩) hS ?_
        case yB7 =>
          intro W hSW
          (try dsimp only at hSW)
          go_simp
          first | done | with_reducible rfl
        simp only [Act.put, List.setIfInBounds_toArray, List.set_cons_zero, List.set_cons_succ]
        refine take_at 8 132 (v := ?vB8) (by simp only [List.getElem?_toArray, List.getElem?_cons_succ, List.getElem?_cons_zero]; rfl) rfl (by kernel_rfl) (by kernel_rfl) (by kernel_rfl) (fun _ _ _ h => h) (Or.inl ⟨by rfl, ?yB8⟩) hS ?_
        case yB8 =>
          intro W hSW
          (try dsimp only at hSW)
          go_simp
          first | done | with_reducible rfl
        simp only [Act.put, List.setIfInBounds_toArray, List.set_cons_zero, List.set_cons_succ]
        refine take_at 9 133 (v := ?vB9) (by simp only [List.getElem?_toArray, List.getElem?_cons_succ, List.getElem?_cons_zero]; rfl) rfl (by kernel_rfl) (by kernel_rfl) (by kernel_rfl) (fun _ _ _ h => h) (Or.inl ⟨by rfl, ?yB9⟩) hS ?_
        case yB9 =>
          intro W hSW
          (try dsimp only at hSW)
          go_simp
          first | done | with_reducible rfl
        simp only [Act.put, List.setIfInBounds_toArray, List.set_cons_zero, List.set_cons_succ]
        refine take_at 12 136 (v := ?vB12) (by simp only [List.getElem?_toArray, List.getElem?_cons_succ, List.getElem?_cons_zero]; rfl) rfl (by kernel_rfl) (by kernel_rfl) (by kernel_rfl) (fun _ _ _ h => h) (Or.inl ⟨by rfl, ?yB12⟩) hS ?_
        case yB12 =>
          intro W hSW
          (try dsimp only at hSW)
          go_simp
          first | done | with_reducible rfl
        simp only [Act.put, List.setIfInBounds_toArray, List.set_cons_zero, List.set_cons_succ]
        refine take_at 13 137 (v := ?vB13) (by simp only [List.getElem?_toArray, List.getElem?_cons_succ, List.getElem?_cons_zero]; rfl) rfl (by kernel_rfl) (by kernel_rfl) (by kernel_rfl) (fun _ _ _ h => h) (Or.inl ⟨by rfl, ?yB13⟩) hS ?_
        case yB13 =>
          intro W hSW
          (try dsimp only at hSW)
          have y0 := kept_box hSW ((HQ.out.later hBv1).later hBv2).x0
          have y1 := kept_box hSW ((HQ.out.later hBv1).later hBv2).x1
          go_simp
          first | done | with_reducible rfl
        simp only [Act.put, List.setIfInBounds_toArray, List.set_cons_zero, List.set_cons_succ]
        refine take_at 14 138 (v := ?vB14) (by simp only [List.getElem?_toArray, List.getElem?_cons_succ, List.getElem?_cons_zero]; rfl) rfl (by kernel_rfl) (by kernel_rfl) (by kernel_rfl) (fun _ _ _ h => h) (Or.inl ⟨by rfl, ?yB14⟩) hS ?_
        case yB14 =>
          intro W hSW
          (try dsimp only at hSW)
          go_simp
          first | done | with_reducible rfl
        simp only [Act.put, List.setIfInBounds_toArray, List.set_cons_zero, List.set_cons_succ]
        refine take_at 15 139 (v := ?vB15) (by simp only [List.getElem?_toArray, List.getElem?_cons_succ, List.getElem?_cons_zero]; rfl) rfl (by kernel_rfl) (by kernel_rfl) (by kernel_rfl) (fun _ _ _ h => h) (Or.inl ⟨by rfl, ?yB15⟩) hS ?_
        case yB15 =>
          intro W hSW
          (try dsimp only at hSW)
          have y0 := kept_box hSW ((HQ.out.later hBv1).later hBv2).x0
          have y1 := kept_box hSW ((HQ.out.later hBv1).later hBv2).x1
          go_simp
          first | done | with_reducible rfl
        simp only [Act.put, List.setIfInBounds_toArray, List.set_cons_zero, List.set_cons_succ]
        refine take_at 16 140 (v := ?vB16) (by simp only [List.getElem?_toArray, List.getElem?_cons_succ, List.getElem?_cons_zero]; rfl) rfl (by kernel_rfl) (by kernel_rfl) (by kernel_rfl) (fun _ _ _ h => h) (Or.inl ⟨by rfl, ?yB16⟩) hS ?_
        case yB16 =>
          intro W hSW
          (try dsimp only at hSW)
          go_simp
          first | done | with_reducible rfl
        simp only [Act.put, List.setIfInBounds_toArray, List.set_cons_zero, List.set_cons_succ]
        refine wpAnyH_ready (rs := [10]) (by kernel_rfl) (by simp) ?_
        refine AllReadyH.cons rfl (fun K hK => ?_) AllReadyH.nil
        go_simp
        refine (sit_count ((HQ.out.later hBv1).later hBv2).2.2.1 HLT.out).mono ?_
        rintro e v3 ⟨rfl, g3⟩; have hbv3 := g3; rw [HN2.out]
        try go_simp
        refine hK.out _ _ (bl_step hS hbv3) (fun hS => ?_)
        clear hK K
        try simp only [Act.put, List.setIfInBounds_toArray, List.set_cons_zero, List.set_cons_succ]
        have hBv3 : Below v2.heap.size v2 v3 := hS
        refine wpAnyH_more (S' := fun W => Below v3.heap.size v3 W) ?_ (fun _ h => bl_step hBv3 h)
        clear hS
        have hS : (fun W => Below v3.heap.size v3 W) v3 := Below.refl _ _
        refine take_at 11 135 (v := ?vB11) (by simp only [List.getElem?_toArray, List.getElem?_cons_succ, List.getElem?_cons_zero]; rfl) rfl (by kernel_rfl) (by kernel_rfl) (by kernel_rfl) (fun _ _ _ h => h) (Or.inl ⟨by rfl, ?yB11⟩) hS ?_
        case yB11 =>
          intro W hSW
          (try dsimp only at hSW)
          go_simp
          first | done | with_reducible rfl
        simp only [Act.put, List.setIfInBounds_toArray, List.set_cons_zero, List.set_cons_succ]
        refine take_at 17 141 (v := ?vB17) (by simp only [List.getElem?_toArray, List.getElem?_cons_succ, List.getElem?_cons_zero]; rfl) rfl (by kernel_rfl) (by kernel_rfl) (by kernel_rfl) (fun _ _ _ h => h) (Or.inl ⟨by rfl, ?yB17⟩) hS ?_
        case yB17 =>
          intro W hSW
          (try dsimp only at hSW)
          go_simp
          first | done | with_reducible rfl
        simp only [Act.put, List.setIfInBounds_toArray, List.set_cons_zero, List.set_cons_succ]
        refine take_at 18 142 (v := ?vB18) (by simp only [List.getElem?_toArray, List.getElem?_cons_succ, List.getElem?_cons_zero]; rfl) rfl (by kernel_rfl) (by kernel_rfl) (by kernel_rfl) (fun _ _ _ h => h) (Or.inl ⟨by rfl, ?yB18⟩) hS ?_
        case yB18 =>
          intro W hSW
          (try dsimp only at hSW)
          go_simp
          first | done | with_reducible rfl
        simp only [Act.put, List.setIfInBounds_toArray, List.set_cons_zero, List.set_cons_succ]
        refine take_at 19 143 (v := ?vB19) (by simp only [List.getElem?_toArray, List.getElem?_cons_succ, List.getElem?_cons_zero]; rfl) rfl (by kernel_rfl) (by kernel_rfl) (by kernel_rfl) (fun _ _ _ h => h) (Or.inl ⟨by rfl, ?yB19⟩) hS ?_
        case yB19 =>
          intro W hSW
          (try dsimp only at hSW)
          go_simp
          first | done | with_reducible rfl
        simp only [Act.put, List.setIfInBounds_toArray, List.set_cons_zero, List.set_cons_succ]
        refine take_at 20 144 (v := ?vB20) (by simp only [List.getElem?_toArray, List.getElem?_cons_succ, List.getElem?_cons_zero]; rfl) rfl (by kernel_rfl) (by kernel_rfl) (by kernel_rfl) (fun _ _ _ h => h) (Or.inl ⟨by rfl, ?yB20⟩) hS ?_
        case yB20 =>
          intro W hSW
          (try dsimp only at hSW)
          go_simp
          first | done | with_reducible rfl
        simp only [Act.put, List.setIfInBounds_toArray, List.set_cons_zero, List.set_cons_succ]
        refine take_at 21 145 (v := ?vB21) (by simp only [List.getElem?_toArray, List.getElem?_cons_succ, List.getElem?_cons_zero]; rfl) rfl (by kernel_rfl) (by kernel_rfl) (by kernel_rfl) (fun _ _ _ h => h) (Or.inl ⟨by rfl, ?yB21⟩) hS ?_
        case yB21 =>
          intro W hSW
          (try dsimp only at hSW)
          go_simp
          first | done | with_reducible rfl
        simp only [Act.put, List.setIfInBounds_toArray, List.set_cons_zero, List.set_cons_succ]
        refine take_at 22 146 (v := ?vB22) (by simp only [List.getElem?_toArray, List.getElem?_cons_succ, List.getElem?_cons_zero]; rfl) rfl (by kernel_rfl) (by kernel_rfl) (by kernel_rfl) (fun _ _ _ h => h) (Or.inl ⟨by rfl, ?yB22⟩) hS ?_
        case yB22 =>
          intro W hSW
          (try dsimp only at hSW)
          go_simp
          first | done | with_reducible rfl
        simp only [Act.put, List.setIfInBounds_toArray, List.set_cons_zero, List.set_cons_succ]
        refine take_at 23 147 (v := undef) (by simp only [List.getElem?_toArray, List.getElem?_cons_succ, List.getElem?_cons_zero]; rfl) rfl (by kernel_rfl) (by kernel_rfl) (by kernel_rfl) (fun _ _ _ h => h) (Or.inr ⟨by rfl, rfl⟩) hS ?_
        simp only [Act.put, List.setIfInBounds_toArray, List.set_cons_zero, List.set_cons_succ]
        refine take_at 24 148 (v := undef) (by simp only [List.getElem?_toArray, List.getElem?_cons_succ, List.getElem?_cons_zero]; rfl) rfl (by kernel_rfl) (by kernel_rfl) (by kernel_rfl) (fun _ _ _ h => h) (Or.inr ⟨by rfl, rfl⟩) hS ?_
        simp only [Act.put, List.setIfInBounds_toArray, List.set_cons_zero, List.set_cons_succ]
        refine take_at 25 149 (v := undef) (by simp only [List.getElem?_toArray, List.getElem?_cons_succ, List.getElem?_cons_zero]; rfl) rfl (by kernel_rfl) (by kernel_rfl) (by kernel_rfl) (fun _ _ _ h => h) (Or.inr ⟨by rfl, rfl⟩) hS ?_
        simp only [Act.put, List.setIfInBounds_toArray, List.set_cons_zero, List.set_cons_succ]
        refine take_at 26 150 (v := undef) (by simp only [List.getElem?_toArray, List.getElem?_cons_succ, List.getElem?_cons_zero]; rfl) rfl (by kernel_rfl) (by kernel_rfl) (by kernel_rfl) (fun _ _ _ h => h) (Or.inr ⟨by rfl, rfl⟩) hS ?_
        simp only [Act.put, List.setIfInBounds_toArray, List.set_cons_zero, List.set_cons_succ]
        refine take_at 27 151 (v := undef) (by simp only [List.getElem?_toArray, List.getElem?_cons_succ, List.getElem?_cons_zero]; rfl) rfl (by kernel_rfl) (by kernel_rfl) (by kernel_rfl) (fun _ _ _ h => h) (Or.inr ⟨by rfl, rfl⟩) hS ?_
        simp only [Act.put, List.setIfInBounds_toArray, List.set_cons_zero, List.set_cons_succ]
        refine take_at 28 152 (v := undef) (by simp only [List.getElem?_toArray, List.getElem?_cons_succ, List.getElem?_cons_zero]; rfl) rfl (by kernel_rfl) (by kernel_rfl) (by kernel_rfl) (fun _ _ _ h => h) (Or.inr ⟨by rfl, rfl⟩) hS ?_
        simp only [Act.put, List.setIfInBounds_toArray, List.set_cons_zero, List.set_cons_succ]
        refine take_at 29 153 (v := undef) (by simp only [List.getElem?_toArray, List.getElem?_cons_succ, List.getElem?_cons_zero]; rfl) rfl (by kernel_rfl) (by kernel_rfl) (by kernel_rfl) (fun _ _ _ h => h) (Or.inr ⟨by rfl, rfl⟩) hS ?_
        simp only [Act.put, List.setIfInBounds_toArray, List.set_cons_zero, List.set_cons_succ]
        refine take_at 30 154 (v := undef) (by simp only [List.getElem?_toArray, List.getElem?_cons_succ, List.getElem?_cons_zero]; rfl) rfl (by kernel_rfl) (by kernel_rfl) (by kernel_rfl) (fun _ _ _ h => h) (Or.inr ⟨by rfl, rfl⟩) hS ?_
        simp only [Act.put, List.setIfInBounds_toArray, List.set_cons_zero, List.set_cons_succ]
        refine take_at 31 155 (v := undef) (by simp only [List.getElem?_toArray, List.getElem?_cons_succ, List.getElem?_cons_zero]; rfl) rfl (by kernel_rfl) (by kernel_rfl) (by kernel_rfl) (fun _ _ _ h => h) (Or.inr ⟨by rfl, rfl⟩) hS ?_
        simp only [Act.put, List.setIfInBounds_toArray, List.set_cons_zero, List.set_cons_succ]
        refine take_at 32 156 (v := undef) (by simp only [List.getElem?_toArray, List.getElem?_cons_succ, List.getElem?_cons_zero]; rfl) rfl (by kernel_rfl) (by kernel_rfl) (by kernel_rfl) (fun _ _ _ h => h) (Or.inr ⟨by rfl, rfl⟩) hS ?_
        simp only [Act.put, List.setIfInBounds_toArray, List.set_cons_zero, List.set_cons_succ]
        refine take_at 33 157 (v := undef) (by simp only [List.getElem?_toArray, List.getElem?_cons_succ, List.getElem?_cons_zero]; rfl) rfl (by kernel_rfl) (by kernel_rfl) (by kernel_rfl) (fun _ _ _ h => h) (Or.inr ⟨by rfl, rfl⟩) hS ?_
        simp only [Act.put, List.setIfInBounds_toArray, List.set_cons_zero, List.set_cons_succ]
        refine take_at 34 158 (v := undef) (by simp only [List.getElem?_toArray, List.getElem?_cons_succ, List.getElem?_cons_zero]; rfl) rfl (by kernel_rfl) (by kernel_rfl) (by kernel_rfl) (fun _ _ _ h => h) (Or.inr ⟨by rfl, rfl⟩) hS ?_
        simp only [Act.put, List.setIfInBounds_toArray, List.set_cons_zero, List.set_cons_succ]
        refine take_at 35 159 (v := ?vB35) (by simp only [List.getElem?_toArray, List.getElem?_cons_succ, List.getElem?_cons_zero]; rfl) rfl (by kernel_rfl) (by kernel_rfl) (by kernel_rfl) (fun _ _ _ h => h) (Or.inl ⟨by rfl, ?yB35⟩) hS ?_
        case yB35 =>
          intro W hSW
          (try dsimp only at hSW)
          go_simp
          first | done | with_reducible rfl
        simp only [Act.put, List.setIfInBounds_toArray, List.set_cons_zero, List.set_cons_succ]
        refine take_at 36 160 (v := ?vB36) (by simp only [List.getElem?_toArray, List.getElem?_cons_succ, List.getElem?_cons_zero]; rfl) rfl (by kernel_rfl) (by kernel_rfl) (by kernel_rfl) (fun _ _ _ h => h) (Or.inl ⟨by rfl, ?yB36⟩) hS ?_
        case yB36 =>
          intro W hSW
          (try dsimp only at hSW)
          go_simp
          first | done | with_reducible rfl
        simp only [Act.put, List.setIfInBounds_toArray, List.set_cons_zero, List.set_cons_succ]
        refine take_at 37 6 (v := ?vB37) (by simp only [List.getElem?_toArray, List.getElem?_cons_succ, List.getElem?_cons_zero]; rfl) rfl (by kernel_rfl) (by kernel_rfl) (by kernel_rfl) (fun _ _ _ h => h) (Or.inl ⟨by rfl, ?yB37⟩) hS ?_
        case yB37 =>
          intro W hSW
          (try dsimp only at hSW)
          go_simp
          first | done | with_reducible rfl
        simp only [Act.put, List.setIfInBounds_toArray, List.set_cons_zero, List.set_cons_succ]
        refine wpAnyH_done (by kernel_rfl) ?_ _
        refine NoPanic.normal ?_
        go_wp2
        go_ret
        exact ⟨rfl, bl_step HB12.out (bl_step (bl_step hBv1 hBv2) hBv3)⟩
end Go.Proofs.Ytmaefeckkodllaa
