/-
  SpansAdds, case 1 of five.
-/
import Derived.Test.YtmaefeckkodllaaAddsKit
import Derived.IntWalk
import Derived.Test.YtmaefeckkodllaaHand
namespace Go.Proofs.Ytmaefeckkodllaa
open Go.RowKit

set_option maxRecDepth 100000 in
set_option maxHeartbeats 3200000 in
theorem adds_case1 (A : Option Addr) (l : List (Bool × (Int × Int))) (cap : Nat) (a b c d : Int) (w : World) (hrx : rightB (a, b) = false) (hs : OSrc w A l) :
    Calls Try.prog 5 #[.slice A l.length cap, spv (a, b), spv (c, d)] w fun e w' => e = .returned (.bool true) ∧ Below w.heap.size w w' := by
  have HS := Lib.hid hs
  clear hs
  have HRX := Lib.hid hrx
  clear hrx
  have HXR := Lib.hid ((Row.made w 24 #[.int .i64 a, .int .i64 b]).more (.cells #[.int .i64 c, .int .i64 d] 24))
  have HYR := Lib.hid (made1 w (.cells #[.int .i64 a, .int .i64 b] 24) 24 #[.int .i64 c, .int .i64 d])
  have HB0 := Lib.hid (bl_alloc (bl_alloc (Below.refl w.heap.size w) (.cells #[.int .i64 a, .int .i64 b] 24)) (.cells #[.int .i64 c, .int .i64 d] 24))
  show Calls Try.prog 5 #[_, .agg #[.int .i64 a, .int .i64 b], .agg #[.int .i64 c, .int .i64 d]] w _
  go_enter Try.func5, Try.ntmps5
  go_wp2_with fail
  refine (new_sits _).mono ?_
  rintro e w1 ⟨rfl, h1, hb1⟩
  simp only [World.size_alloc] at h1
  have HI : Hid (Box2 w.heap.size (w.heap.size + 1 + 1) w.heap.size (w.heap.size + 1) (a, b) (c, d) [] w1) := Lib.hid ⟨by omega, by omega, h1.down (by omega), HXR.out.later hb1, HYR.out.later hb1⟩
  have HB1 := Lib.hid (bl_step HB0.out hb1)
  clear h1 hb1 HXR HYR HB0
  go_wp2_with fail
  go_loopw [9] (fun i wr => ∃ k : Nat, k ≤ l.length ∧ k ≤ 60 ∧ i = .int .i64 k ∧ Box2 w.heap.size (w.heap.size + 1 + 1) w.heap.size (w.heap.size + 1) (a, b) (c, d) (addsO (l.take k)) wr ∧ Below w.heap.size w wr) (fun i _ => l.length - (intOf i).toNat)
  case atStart => exact ⟨0, by omega, by omega, rfl, HI.out, HB1.out⟩
  case round =>
    obtain ⟨k, hk, hk2, rfl, hbx, hbr⟩ := hrel
    have HBX := Lib.hid hbx
    have HBR := Lib.hid hbr
    clear hbx hbr HI HB1
    have hlL : (addsO (l.take k)).length ≤ 60 := by have := (addsO_ok (l.take k)).2.1; simp at this; omega
    by_cases hlt : k < l.length ∧ k < 60
    · obtain ⟨hlt, hlt2⟩ := hlt
      obtain ⟨bb, off, rfl, hc⟩ := HS.out (by omega)
      obtain ⟨o, ho⟩ : ∃ o, l[k]? = some o := ⟨_, List.getElem?_eq_getElem hlt⟩
      have HT1 := Lib.hid (show addsO (l.take (k + 1)) = addO o.2 (addsO (l.take k)) by rw [take_snoc ho, addsO_snoc])
      obtain ⟨_, c1, c2⟩ := hc k o ho
      have d1 := kept_box HBR.out c1
      have d2 := kept_box HBR.out c2
      clear hc ho c1 c2
      obtain ⟨t, z⟩ := o
      obtain ⟨u, v⟩ := z
      simp only at HT1 d1 d2
      have hi0 : (0 : Int) ≤ (k : Int) := by omega
      have hi1 : (k : Int) < (l.length : Int) := by omega
      go_wp2_with fail
      refine (sit_add (u, v) HBX.out.2.2.1 (by omega)).mono ?_
      rintro e w3 ⟨rfl, h3, ho3⟩
      have HF := Lib.hid (And.intro (HBX.out.set h3 ho3) (HBR.out.trans (HBX.out.down ho3)))
      clear h3 ho3 d1 d2
      go_wp2
      go_roundw
      case rel => exact ⟨k + 1, by omega, by omega, by go_num, by rw [HT1.out]; exact HF.out.1, HF.out.2⟩
      case measure => simp [intOf]; omega
    · have HNL := Lib.hid (addsO_ok (l.take k)).1
      generalize addsO (l.take k) = L at *
      obtain ⟨wa, hwa⟩ : ∃ wa, (hasF (c, d) L && rightB (c, d)) = wa := ⟨_, rfl⟩
      obtain ⟨ta, hta⟩ : ∃ ta, (touF (c, d) L && rightB (c, d)) = ta := ⟨_, rfl⟩
      have HWA := Lib.hid hwa
      have HTA := Lib.hid hta
      clear hwa hta
      have hlt' : l.length ≤ k ∨ 60 ≤ k := by omega
      clear hlt
      have q0 := HBX.out.x0
      have q1 := HBX.out.x1
      have q2 := HBX.out.y0
      have q3 := HBX.out.y1
      rcases Nat.lt_or_ge k l.length with hkl | hkl
      all_goals
        first
          | have h60 : 60 ≤ k := by omega
          | have h60 : k = l.length := by omega
        clear hlt'
        go_wp2
        go_region_held3 (fun w' => w'.cell? ⟨w.heap.size + 1, 0, none⟩ = some (.int .i64 c) ∧ w'.cell? ⟨w.heap.size + 1, 1, none⟩ = some (.int .i64 d)) (first | go_keep | (exact ⟨kept_box (by assumption) (by assumption), kept_box (by assumption) (by assumption)⟩)) (first
          | (go_at_call 25; refine (sit_has (c, d) (HBX.out.later (bl_drew (Below.refl _ _))).2.2.1 wa HWA.out).mono ?_; rintro e w3 ⟨rfl, hb3⟩; have HB3 := Lib.hid (bl_step (bl_drew (Below.refl wr.heap.size wr)) hb3))
          | (go_at_call 26; refine (sit_tou (c, d) (HBX.out.later HB3.out).2.2.1 ta HTA.out).mono ?_; rintro e w4 ⟨rfl, hb4⟩; have HB4 := Lib.hid (bl_step HB3.out hb4)))
        have HX4 := Lib.hid (HBX.out.later HB4.out)
        have HY4 := Lib.hid (bl_step HBR.out HB4.out)
        clear HB4 HB3 q0 q1 q2 q3 HBX HBR
        have HB4 := Lib.hid HY4.out
        clear HY4
        have q0 := HX4.out.x0
        have q1 := HX4.out.x1
        have q2 := HX4.out.y0
        have q3 := HX4.out.y1
        go_wp2_with fail
        refine (right_is (a, b) false HRX.out _).mono ?_
        rintro e w5 ⟨rfl, hb5⟩
        have HX5 := Lib.hid (HX4.out.later hb5)
        have HB5 := Lib.hid (bl_step HB4.out hb5)
        clear hb5 q0 q1 q2 q3
        have q0 := HX5.out.x0
        have q1 := HX5.out.x1
        have q2 := HX5.out.y0
        have q3 := HX5.out.y1
        clear HX4 HB4
        go_wp2_with fail
        refine (add_arg _ (a, b) _ HRX.out).mono ?_
        rintro e w6 ⟨rfl, hb6⟩
        have HX6 := Lib.hid (HX5.out.later hb6)
        have HB6 := Lib.hid (bl_step HB5.out hb6)
        clear hb6 q0 q1 q2 q3
        have q0 := HX6.out.x0
        have q1 := HX6.out.x1
        have q2 := HX6.out.y0
        have q3 := HX6.out.y1
        clear HX5 HB5
        go_wp2_with fail
        refine (alive3_any _).mono ?_
        rintro e w7 ⟨rfl, hb7⟩
        have HX7 := Lib.hid (HX6.out.later hb7)
        have HB7 := Lib.hid (bl_step HB6.out hb7)
        clear hb7 q0 q1 q2 q3
        have q0 := HX7.out.x0
        have q1 := HX7.out.x1
        have q2 := HX7.out.y0
        have q3 := HX7.out.y1
        clear HX6 HB6
        go_wp2_with fail
        refine (sit_has (c, d) HX7.out.2.2.1 wa HWA.out).mono ?_
        rintro e w8 ⟨rfl, hb8⟩
        have HX8 := Lib.hid (HX7.out.later hb8)
        have HB8 := Lib.hid (bl_step HB7.out hb8)
        clear hb8 q0 q1 q2 q3
        have q0 := HX8.out.x0
        have q1 := HX8.out.x1
        have q2 := HX8.out.y0
        have q3 := HX8.out.y1
        clear HX7 HB7
        go_wp2
        go_ret
        exact ⟨rfl, HB8.out⟩
end Go.Proofs.Ytmaefeckkodllaa
