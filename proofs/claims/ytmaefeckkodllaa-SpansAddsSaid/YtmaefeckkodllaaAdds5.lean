/-
  SpansAdds, case 5 of five.
-/
import Derived.Test.YtmaefeckkodllaaAddsKit
import Derived.IntWalk
import Derived.Test.YtmaefeckkodllaaHand
namespace Go.Proofs.Ytmaefeckkodllaa
open Go.RowKit

set_option maxRecDepth 100000 in
set_option maxHeartbeats 3200000 in
theorem adds_case5 (A : Option Addr) (l : List (Bool × (Int × Int))) (cap : Nat) (a b c d : Int) (w : World) (hrx : rightB (a, b) = true) (hry : rightB (c, d) = true) (hm1 : b ≤ c) (hs : OSrc w A l) :
    Calls Try.prog 5 #[.slice A l.length cap, spv (a, b), spv (c, d)] w fun e w' => e = .returned (.bool true) ∧ Below w.heap.size w w' := by
  have HS := Lib.hid hs
  clear hs
  have HRX := Lib.hid hrx
  clear hrx
  have HRY := Lib.hid hry
  clear hry
  have HM1 := Lib.hid (decide_eq_true hm1)
  have HAPP := Lib.hid (show b ≤ c ∨ d ≤ a by omega)
  clear hm1
  have HXR := Lib.hid ((Row.made w 24 #[.int .i64 a, .int .i64 b]).more (.cells #[.int .i64 c, .int .i64 d] 24))
  have HYR := Lib.hid (made1 w (.cells #[.int .i64 a, .int .i64 b] 24) 24 #[.int .i64 c, .int .i64 d])
  have HB0 := Lib.hid (bl_alloc (bl_alloc (Below.refl w.heap.size w) (.cells #[.int .i64 a, .int .i64 b] 24)) (.cells #[.int .i64 c, .int .i64 d] 24))
  show Calls Try.prog 5 #[_, .agg #[.int .i64 a, .int .i64 b], .agg #[.int .i64 c, .int .i64 d]] w _
  go_enter Try.func5, Try.ntmps5
  go_wp2_with fail
  refine (new_sits _).mono ?_
  rintro e w1 ⟨rfl, h1, hb1⟩
  simp only [World.size_alloc] at h1
  have HI : Hid (Box2 w.heap.size (w.heap.size + 1 + 1) w.heap.size (w.heap.size + 1) (a, b) (c, d) [] w1) := Lib.hid ⟨by omega, by omega, h1.down (by omega), HXR.out.later hb1, HYR.out.later hb1⟩
  have HB1 := Lib.hid (bl_step HB0.out hb1)
  clear h1 hb1 HXR HYR HB0
  go_wp2_with fail
  go_loopw [9] (fun i wr => ∃ k : Nat, k ≤ l.length ∧ k ≤ 60 ∧ i = .int .i64 k ∧ Box2 w.heap.size (w.heap.size + 1 + 1) w.heap.size (w.heap.size + 1) (a, b) (c, d) (addsO (l.take k)) wr ∧ Below w.heap.size w wr) (fun i _ => l.length - (intOf i).toNat)
  case atStart => exact ⟨0, by omega, by omega, rfl, HI.out, HB1.out⟩
  case round =>
    obtain ⟨k, hk, hk2, rfl, hbx, hbr⟩ := hrel
    have HBX := Lib.hid hbx
    have HBR := Lib.hid hbr
    clear hbx hbr HI HB1
    have hlL : (addsO (l.take k)).length ≤ 60 := by have := (addsO_ok (l.take k)).2.1; simp at this; omega
    by_cases hlt : k < l.length ∧ k < 60
    · obtain ⟨hlt, hlt2⟩ := hlt
      obtain ⟨bb, off, rfl, hc⟩ := HS.out (by omega)
      obtain ⟨o, ho⟩ : ∃ o, l[k]? = some o := ⟨_, List.getElem?_eq_getElem hlt⟩
      have HT1 := Lib.hid (show addsO (l.take (k + 1)) = addO o.2 (addsO (l.take k)) by rw [take_snoc ho, addsO_snoc])
      obtain ⟨_, c1, c2⟩ := hc k o ho
      have d1 := kept_box HBR.out c1
      have d2 := kept_box HBR.out c2
      clear hc ho c1 c2
      obtain ⟨t, z⟩ := o
      obtain ⟨u, v⟩ := z
      simp only at HT1 d1 d2
      have hi0 : (0 : Int) ≤ (k : Int) := by omega
      have hi1 : (k : Int) < (l.length : Int) := by omega
      go_wp2_with fail
      refine (sit_add (u, v) HBX.out.2.2.1 (by omega)).mono ?_
      rintro e w3 ⟨rfl, h3, ho3⟩
      have HF := Lib.hid (And.intro (HBX.out.set h3 ho3) (HBR.out.trans (HBX.out.down ho3)))
      clear h3 ho3 d1 d2
      go_wp2
      go_roundw
      case rel => exact ⟨k + 1, by omega, by omega, by go_num, by rw [HT1.out]; exact HF.out.1, HF.out.2⟩
      case measure => simp [intOf]; omega
    · have HNL := Lib.hid (addsO_ok (l.take k)).1
      generalize addsO (l.take k) = L at *
      obtain ⟨wa, hwa⟩ : ∃ wa, (hasF (c, d) L && rightB (c, d)) = wa := ⟨_, rfl⟩
      obtain ⟨ta, hta⟩ : ∃ ta, (touF (c, d) L && rightB (c, d)) = ta := ⟨_, rfl⟩
      have HWA := Lib.hid hwa
      have HTA := Lib.hid hta
      clear hwa hta
      have hlt' : l.length ≤ k ∨ 60 ≤ k := by omega
      clear hlt
      have q0 := HBX.out.x0
      have q1 := HBX.out.x1
      have q2 := HBX.out.y0
      have q3 := HBX.out.y1
      rcases Nat.lt_or_ge k l.length with hkl | hkl
      all_goals
        first
          | have h60 : 60 ≤ k := by omega
          | have h60 : k = l.length := by omega
        clear hlt'
        go_wp2
        go_region_held3 (fun w' => w'.cell? ⟨w.heap.size + 1, 0, none⟩ = some (.int .i64 c) ∧ w'.cell? ⟨w.heap.size + 1, 1, none⟩ = some (.int .i64 d)) (first | go_keep | (exact ⟨kept_box (by assumption) (by assumption), kept_box (by assumption) (by assumption)⟩)) (first
          | (go_at_call 25; refine (sit_has (c, d) (HBX.out.later (bl_drew (Below.refl _ _))).2.2.1 wa HWA.out).mono ?_; rintro e w3 ⟨rfl, hb3⟩; have HB3 := Lib.hid (bl_step (bl_drew (Below.refl wr.heap.size wr)) hb3))
          | (go_at_call 26; refine (sit_tou (c, d) (HBX.out.later HB3.out).2.2.1 ta HTA.out).mono ?_; rintro e w4 ⟨rfl, hb4⟩; have HB4 := Lib.hid (bl_step HB3.out hb4)))
        have HX4 := Lib.hid (HBX.out.later HB4.out)
        have HY4 := Lib.hid (bl_step HBR.out HB4.out)
        clear HB4 HB3 q0 q1 q2 q3 HBX HBR
        have HB4 := Lib.hid HY4.out
        clear HY4
        have q0 := HX4.out.x0
        have q1 := HX4.out.x1
        have q2 := HX4.out.y0
        have q3 := HX4.out.y1
        have hL1 : (addF (a, b) L).length ≤ L.length + 1 := by have := addO_len (x := (a, b)) HNL.out; unfold addO at this; rw [if_pos HRX.out] at this; exact this
        have HL1 := Lib.hid (show (addF (a, b) L).length ≤ 61 by omega)
        have hNL1 := add_norm HNL.out HRX.out
        have hL2 := takeF_len (rightB_iff.1 HRX.out).2.2 hNL1
        have HL2 := Lib.hid (show (takeF (a, b) (addF (a, b) L)).length ≤ 62 by omega)
        have HHX := Lib.hid (add_has HNL.out HRX.out)
        have HTW := Lib.hid (add_twice HNL.out HRX.out)
        have HTX := Lib.hid (take_tou hNL1 HRX.out)
        have hcnt := take_count hNL1 HRX.out ((hasF_iff hNL1 (rightB_iff.1 HRX.out).2.2).1 (by have := add_has HNL.out HRX.out; rw [HRX.out, Bool.and_true] at this; exact this))
        have hb1 := count_bounds hNL1
        have hb2 := count_bounds (take_norm hNL1 HRX.out)
        have hxb := rightB_iff.1 HRX.out
        simp only at hcnt hxb
        obtain ⟨n1, hn1⟩ : ∃ n1, countF (addF (a, b) L) = n1 := ⟨_, rfl⟩
        obtain ⟨n2, hn2⟩ : ∃ n2, countF (takeF (a, b) (addF (a, b) L)) = n2 := ⟨_, rfl⟩
        rw [hn1, hn2] at hcnt
        rw [hn1] at hb1
        rw [hn2] at hb2
        have HN1 := Lib.hid hn1
        have HN2 := Lib.hid hn2
        have hAP : ((hasF (c, d) (addF (a, b) L) && rightB (c, d)) = wa ∧ (touF (c, d) (addF (a, b) L) && rightB (c, d)) = ta) ∧ (hasF (c, d) (takeF (a, b) (addF (a, b) L)) && rightB (c, d)) = wa ∧ (touF (c, d) (takeF (a, b) (addF (a, b) L)) && rightB (c, d)) = ta := by
          have hap : b ≤ c ∨ d ≤ a := HAPP.out
          have e1 := has_of (y := (c, d)) hNL1 HNL.out (add_apart HNL.out HRX.out hap)
          have e2 := tou_of (y := (c, d)) hNL1 HNL.out (add_apart HNL.out HRX.out hap)
          have e3 := has_of (y := (c, d)) (take_norm hNL1 HRX.out) hNL1 (take_apart HRX.out hap)
          have e4 := tou_of (y := (c, d)) (take_norm hNL1 HRX.out) hNL1 (take_apart HRX.out hap)
          exact ⟨⟨e1.trans HWA.out, e2.trans HTA.out⟩, (e3.trans e1).trans HWA.out, (e4.trans e2).trans HTA.out⟩
        have HW1 := Lib.hid hAP.1.1
        have HT1 := Lib.hid hAP.1.2
        have HW2 := Lib.hid hAP.2.1
        have HT2 := Lib.hid hAP.2.2
        clear hAP
        clear hL1 hL2 hNL1 hn1 hn2
        obtain ⟨hx0, hx1, hx2⟩ := hxb
        have hd1 := HM1.out
        have hdd1 : b ≤ c := by simpa using hd1
        go_wp2_with fail
        refine (right_is (a, b) true HRX.out _).mono ?_
        rintro e w5 ⟨rfl, hb5⟩
        have HX5 := Lib.hid (HX4.out.later hb5)
        have HB5 := Lib.hid (bl_step HB4.out hb5)
        clear hb5 q0 q1 q2 q3
        have q0 := HX5.out.x0
        have q1 := HX5.out.x1
        have q2 := HX5.out.y0
        have q3 := HX5.out.y1
        clear HX4 HB4
        go_wp2_with fail
        refine (right_is (c, d) true HRY.out _).mono ?_
        rintro e w6 ⟨rfl, hb6⟩
        have HX6 := Lib.hid (HX5.out.later hb6)
        have HB6 := Lib.hid (bl_step HB5.out hb6)
        clear hb6 q0 q1 q2 q3
        have q0 := HX6.out.x0
        have q1 := HX6.out.x1
        have q2 := HX6.out.y0
        have q3 := HX6.out.y1
        clear HX5 HB5
        go_wp2_with fail
        refine (sit_addR (a, b) HRX.out HX6.out.2.2.1 (by omega)).mono ?_
        rintro e w7 ⟨rfl, hs7, ho7⟩
        
        have HX7 := Lib.hid (HX6.out.set hs7 ho7)
        have HB7 := Lib.hid (HB6.out.trans (HX6.out.down ho7))
        clear hs7 ho7 q0 q1 q2 q3
        have q0 := HX7.out.x0
        have q1 := HX7.out.x1
        have q2 := HX7.out.y0
        have q3 := HX7.out.y1
        clear HX6 HB6
        go_wp2_with fail
        refine (sit_count HX7.out.2.2.1 (by have := HL1.out; omega)).mono ?_
        rintro e w8 ⟨rfl, hb8⟩
        have HX8 := Lib.hid (HX7.out.later hb8)
        have HB8 := Lib.hid (bl_step HB7.out hb8)
        clear hb8 q0 q1 q2 q3
        have q0 := HX8.out.x0
        have q1 := HX8.out.x1
        have q2 := HX8.out.y0
        have q3 := HX8.out.y1
        clear HX7 HB7
        rw [HN1.out]
        go_wp2_with fail
        refine (sit_has (a, b) HX8.out.2.2.1 true HHX.out).mono ?_
        rintro e w9 ⟨rfl, hb9⟩
        have HX9 := Lib.hid (HX8.out.later hb9)
        have HB9 := Lib.hid (bl_step HB8.out hb9)
        clear hb9 q0 q1 q2 q3
        have q0 := HX9.out.x0
        have q1 := HX9.out.x1
        have q2 := HX9.out.y0
        have q3 := HX9.out.y1
        clear HX8 HB8
        go_wp2_with fail
        refine (sit_addR (a, b) HRX.out HX9.out.2.2.1 (by have := HL1.out; omega)).mono ?_
        rintro e w10 ⟨rfl, hs10, ho10⟩
        rw [HTW.out] at hs10
        have HX10 := Lib.hid (HX9.out.set hs10 ho10)
        have HB10 := Lib.hid (HB9.out.trans (HX9.out.down ho10))
        clear hs10 ho10 q0 q1 q2 q3
        have q0 := HX10.out.x0
        have q1 := HX10.out.x1
        have q2 := HX10.out.y0
        have q3 := HX10.out.y1
        clear HX9 HB9
        go_wp2_with fail
        refine (sit_count HX10.out.2.2.1 (by have := HL1.out; omega)).mono ?_
        rintro e w11 ⟨rfl, hb11⟩
        have HX11 := Lib.hid (HX10.out.later hb11)
        have HB11 := Lib.hid (bl_step HB10.out hb11)
        clear hb11 q0 q1 q2 q3
        have q0 := HX11.out.x0
        have q1 := HX11.out.x1
        have q2 := HX11.out.y0
        have q3 := HX11.out.y1
        clear HX10 HB10
        rw [HN1.out]
        go_wp2_with fail
        refine (sit_has (c, d) HX11.out.2.2.1 wa HW1.out).mono ?_
        rintro e w12 ⟨rfl, hb12⟩
        have HX12 := Lib.hid (HX11.out.later hb12)
        have HB12 := Lib.hid (bl_step HB11.out hb12)
        clear hb12 q0 q1 q2 q3
        have q0 := HX12.out.x0
        have q1 := HX12.out.x1
        have q2 := HX12.out.y0
        have q3 := HX12.out.y1
        clear HX11 HB11
        go_wp2_with fail
        refine (sit_tou (c, d) HX12.out.2.2.1 ta HT1.out).mono ?_
        rintro e w13 ⟨rfl, hb13⟩
        have HX13 := Lib.hid (HX12.out.later hb13)
        have HB13 := Lib.hid (bl_step HB12.out hb13)
        clear hb13 q0 q1 q2 q3
        have q0 := HX13.out.x0
        have q1 := HX13.out.x1
        have q2 := HX13.out.y0
        have q3 := HX13.out.y1
        clear HX12 HB12
        go_wp2_with fail
        refine (sit_takeR (a, b) HRX.out HX13.out.2.2.1 (by have := HL1.out; omega)).mono ?_
        rintro e w14 ⟨rfl, hs14, ho14⟩
        
        have HX14 := Lib.hid (HX13.out.set hs14 ho14)
        have HB14 := Lib.hid (HB13.out.trans (HX13.out.down ho14))
        clear hs14 ho14 q0 q1 q2 q3
        have q0 := HX14.out.x0
        have q1 := HX14.out.x1
        have q2 := HX14.out.y0
        have q3 := HX14.out.y1
        clear HX13 HB13
        go_wp2_with fail
        have HQ := Lib.hid HX14.out
        have HLT := Lib.hid (show (takeF (a, b) (addF (a, b) L)).length ≤ 100000 by have := HL2.out; omega)
        have hw1 : IntKind.i64.wrap (b - a) = b - a := IntWalk.i64_in _ (by omega)
        have hw2 : IntKind.i64.wrap (n1 - n2) = n1 - n2 := IntWalk.i64_in _ (by omega)
        go_region_held3 (fun w' => w'.cell? ⟨w.heap.size, 0, none⟩ = some (.int .i64 a) ∧ w'.cell? ⟨w.heap.size, 1, none⟩ = some (.int .i64 b) ∧ w'.cell? ⟨w.heap.size + 1, 0, none⟩ = some (.int .i64 c) ∧ w'.cell? ⟨w.heap.size + 1, 1, none⟩ = some (.int .i64 d)) (first | go_keep | (exact ⟨kept_box (by assumption) (by assumption), kept_box (by assumption) (by assumption), kept_box (by assumption) (by assumption), kept_box (by assumption) (by assumption)⟩)) (first
          | (go_at_call 12; refine (alive3_any _).mono ?_; rintro e v1 ⟨rfl, g1⟩; have G1 := Lib.hid (bl_step (bl_drew (Below.refl w14.heap.size w14)) g1))
          | (go_at_call 16; refine (sit_count (HQ.out.later G2.out).2.2.1 HLT.out).mono ?_; rintro e v3 ⟨rfl, g3⟩; have G3 := Lib.hid (bl_step G2.out g3); rw [HN2.out])
          | (go_at_call 25; refine (sit_has (c, d) (HQ.out.later G3.out).2.2.1 wa HW2.out).mono ?_; rintro e v4 ⟨rfl, g4⟩; have G4 := Lib.hid (bl_step G3.out g4))
          | (go_at_call 26; refine (sit_tou (c, d) (HQ.out.later G4.out).2.2.1 ta HT2.out).mono ?_; rintro e v5 ⟨rfl, g5⟩; have G5 := Lib.hid (bl_step G4.out g5))
          | (go_at_call 26; refine (sit_tou (a, b) (HQ.out.later G1.out).2.2.1 false HTX.out).mono ?_; rintro e v2 ⟨rfl, g2⟩; have G2 := Lib.hid (bl_step G1.out g2)))
        go_wp2
        go_ret
        exact ⟨rfl, bl_step HB14.out G5.out⟩
end Go.Proofs.Ytmaefeckkodllaa
