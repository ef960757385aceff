/-
  RxwinFar: the walk.
-/
import Derived.Test.YtgdpjaojlhdhdaaJRxwinFar04
import Derived.Deep.DeepCutAuto
namespace Go.Proofs.Ytgdpjaojlhdhdaa
open Go.RowKit Go.Maps

section
variable {w v : World} {x m k c : Nat} {b size f st n : Int} {l r : List Bool} {p : Int → Bool}
set_option maxRecDepth 100000 in
set_option maxHeartbeats 1600000 in
theorem xfar_no (A0 : Option Addr) (n0 c0 : Nat) (bits size : Int) (W : World) (h : size < 1 ∨ sz bits / 2 < size) : Calls Try.prog 8 #[.int .i64 bits, .int .i64 size, .slice A0 n0 c0] W fun e w' => e = .returned (.bool true) ∧ Below W.heap.size W w' := by
  have HN := Lib.hid (xnew_bad bits size W h)
  have HA := Lib.hid xalive_any
  clear h
  go_enter Try.func8, Try.ntmps8
  go_wp2_with (first
    | (go_at_call 49; (with_reducible refine HN.out.mono ?_); rintro e w1 ⟨rfl, hb⟩; (have HB1 := Lib.hid hb; clear hb))
    | (go_at_call 50; (with_reducible refine (HA.out _).mono ?_); rintro e w2 ⟨rfl, hb⟩; (have HB2 := Lib.hid (bl_step HB1.out hb); clear hb)))
  go_ret
  exact ⟨rfl, HB2.out⟩
set_option maxRecDepth 100000 in
set_option maxHeartbeats 51200000 in
theorem xfar_ok (A0 : Option Addr) (n0 c0 : Nat) (bits size : Int) (l0 : List (Int × Int)) (W : World) (hl0 : l0.length = n0) (hm0 : n0 ≤ 9223372036854775807) (hs0 : OpSrc W A0 l0) (ht : rt bits = true) (h1 : 1 ≤ size) (h2 : size ≤ sz bits / 2) :
    Calls Try.prog 8 #[.int .i64 bits, .int .i64 size, .slice A0 n0 c0] W fun e w' => e = .returned (.bool true) ∧ Below W.heap.size W w' := by
  have HN := Lib.hid (xnew_ok bits size W ht h1 h2)
  have HA := Lib.hid xalive_any
  have HS0 := Lib.hid hs0
  have HL0 := Lib.hid hl0
  have heq := eq_arr3
  clear hs0 hl0 ht
  go_enter Try.func8, Try.ntmps8
  go_wp2_with (first
    | (go_at_call 49; (with_reducible refine HN.out.mono ?_); rintro e w1 ⟨x, m, rfl, hw, hb, hx, hm⟩; (have HB1 := Lib.hid hb; have HW1 := Lib.hid hw; have HX := Lib.hid (And.intro hx hm); clear hw hb hx hm)))
  go_loopw [9] (fun s9 wr => ∃ (i : Nat) (f : Int) (c : Nat) (l : List Bool), i ≤ 100 ∧ i ≤ n0 ∧ s9 = .int .i64 i ∧ Hid (RX wr x m bits size f c l) ∧ Hid (Below W.heap.size W wr)) (fun s9 _ => 100 - (intOf s9).toNat)
  case atStart => exact ⟨0, 0, 0, [], by omega, by omega, rfl, HW1, HB1⟩
  case round =>
    obtain ⟨i, f, c, l, hi, hin, rfl, HXr, HWr⟩ := hrel
    by_cases hlt : i < n0 ∧ i < 100
    · obtain ⟨hlt1, hlt2⟩ := hlt
      have hi1 : (i : Int) < n0 := by omega
      have hi2 : (i : Int) < 100 := by omega
      have hi0 : (0 : Int) ≤ i := by omega
      have HI := Lib.hid (And.intro hlt1 hlt2)
      obtain ⟨o, ho⟩ : ∃ o, l0[i]? = some o := ⟨_, List.getElem?_eq_getElem (by rw [HL0.out]; exact hlt1)⟩
      obtain ⟨bq, off, rfl, hq⟩ := HS0.out (by rw [HL0.out]; omega)
      obtain ⟨q0, q1, q2⟩ := hq i o ho
      have z0 := kept_box HWr.out q0
      have z1 := kept_box HWr.out q1
      obtain ⟨kd, nn⟩ := o
      simp only at z0 z1 q2
      have HQF := Lib.hid q2
      have HOB := Lib.hid (Row.made wr 83 #[.int .i64 kd, .int .i64 nn])
      have HXo := Lib.hid (HXr.out.later (bl_alloc (Below.refl _ _) (.cells #[.int .i64 kd, .int .i64 nn] 83)))
      have HWo := Lib.hid (bl_alloc HWr.out (.cells #[.int .i64 kd, .int .i64 nn] 83))
      clear ho hq q0 q1 q2 hlt1 hlt2 hi hin
      go_upto_region 8 with fail
      generalize hQ : (wr.alloc (.cells #[.int .i64 kd, .int .i64 nn] 83)) = wq at *
      clear hQ
      generalize hOO : wr.heap.size = oo at *
      clear hOO z0 z1
      have HST := Lib.hid (fun v (hb : Below wq.heap.size wq v) => xstate_any (HXo.out.mem.later hb).row)
      have HIN := Lib.hid (fun v (hb : Below wq.heap.size wq v) => xin_any (HXo.out.mem.later hb) nn)
      have HIS := Lib.hid (fun v (hb : Below wq.heap.size wq v) => xis_any (HXo.out.mem.later hb) HQF.out)
      have k1 := HOB.out.drawn.read (i := 1) (x := .int .i64 nn) rfl
      have HOR := Lib.hid (fun v (hb : Below wq.heap.size wq v) => (HOB.out.later hb).read (i := 1) (x := .int .i64 nn) rfl)
      go_cut [11, 12, 13] (fun s11 s12 s13 wx => ∃ (wy : World) (sb : Nat), wy = wx ∧ s11 = .pointer (some ⟨sb, 0, none⟩) ∧ s12 = .bool (inx bits size f nn) ∧ s13 = .bool (okn bits nn && ak (sz bits) f l nn) ∧ Hid (Row wy sb 88 #[.int .i64 f, .int .i64 ((f + (c : Int)) % sz bits), .int .i64 ((f + (l.length : Int)) % sz bits)]) ∧ Hid (Below wq.heap.size wq wy))
      case first =>
        generalize (f + (c : Int)) % sz bits = st at *
        generalize (f + (l.length : Int)) % sz bits = en at *
        go_region_held3 (fun w' => w'.cell? ⟨oo, 1, none⟩ = some (.int .i64 nn)) (first | with_reducible exact k1 | exact HOR.out _ (by repeat (first | with_reducible exact HB4.out | with_reducible exact HB3.out | with_reducible exact HB2.out | with_reducible exact Below.refl _ _ | with_reducible refine bl_drew ?_ | with_reducible refine bl_alloc ?_ _ | with_reducible refine Below.setCell ?_ ?_ _ | exact HB3.out.size | exact HB2.out.size | exact HB4.out.size | exact Nat.le_refl _)) | go_keep) (first
          | (go_at_call 54; (with_reducible refine (HST.out _ (by repeat (first | with_reducible exact HB4.out | with_reducible exact HB3.out | with_reducible exact HB2.out | with_reducible exact Below.refl _ _ | with_reducible refine bl_drew ?_ | with_reducible refine bl_alloc ?_ _ | with_reducible refine Below.setCell ?_ ?_ _ | exact HB3.out.size | exact HB2.out.size | exact HB4.out.size | exact Nat.le_refl _))).mono ?_); rintro e w2 ⟨rfl, hb2⟩; (
              have HB2 := Lib.hid (show Below wq.heap.size wq w2 from bl_step (by repeat (first | with_reducible exact HB4.out | with_reducible exact HB3.out | with_reducible exact HB2.out | with_reducible exact Below.refl _ _ | with_reducible refine bl_drew ?_ | with_reducible refine bl_alloc ?_ _ | with_reducible refine Below.setCell ?_ ?_ _ | exact HB3.out.size | exact HB2.out.size | exact HB4.out.size | exact Nat.le_refl _)) hb2)
              first
                | (have HA2 := Lib.hid ((show Row (wq.drew.alloc (.cells #[.int .i64 0, .int .i64 0, .int .i64 0] 88)) wq.heap.size 88 #[.int .i64 0, .int .i64 0, .int .i64 0] from Row.made wq.drew _ _).later hb2); obtain ⟨x0, x1, x2⟩ := arr_cells HA2.out; have g0 := HA2.out.free 0; have g1 := HA2.out.free 1; have g2 := HA2.out.free 2)
                | skip
              clear hb2))
          | (go_at_call 58; (with_reducible refine (HIN.out _ (by repeat (first | with_reducible exact HB4.out | with_reducible exact HB3.out | with_reducible exact HB2.out | with_reducible exact Below.refl _ _ | with_reducible refine bl_drew ?_ | with_reducible refine bl_alloc ?_ _ | with_reducible refine Below.setCell ?_ ?_ _ | exact HB3.out.size | exact HB2.out.size | exact HB4.out.size | exact Nat.le_refl _))).mono ?_); rintro e w3 ⟨rfl, hb3⟩; (
              have HB3 := Lib.hid (show Below wq.heap.size wq w3 from bl_step (by repeat (first | with_reducible exact HB4.out | with_reducible exact HB3.out | with_reducible exact HB2.out | with_reducible exact Below.refl _ _ | with_reducible refine bl_drew ?_ | with_reducible refine bl_alloc ?_ _ | with_reducible refine Below.setCell ?_ ?_ _ | exact HB3.out.size | exact HB2.out.size | exact HB4.out.size | exact Nat.le_refl _)) hb3)
              first
                | (have HS3 := Lib.hid (HS2.out.later hb3))
                | (have HS3 := Lib.hid (((((HA2.out).written 0 (.int .i64 f)).written 1 (.int .i64 st)).written 2 (.int .i64 en)).later hb3))
                | (have HA3 := Lib.hid (HA2.out.later hb3); clear x0 x1 x2 g0 g1 g2; obtain ⟨x0, x1, x2⟩ := arr_cells HA3.out; have g0 := HA3.out.free 0; have g1 := HA3.out.free 1; have g2 := HA3.out.free 2)
                | (have HS3 := Lib.hid (((((Row.made w2 88 #[.int .i64 0, .int .i64 0, .int .i64 0]).written 0 (.int .i64 f)).written 1 (.int .i64 st)).written 2 (.int .i64 en)).later hb3))
                | (have HA3 := Lib.hid ((Row.made w2 88 #[.int .i64 0, .int .i64 0, .int .i64 0]).later hb3); obtain ⟨x0, x1, x2⟩ := arr_cells HA3.out; have g0 := HA3.out.free 0; have g1 := HA3.out.free 1; have g2 := HA3.out.free 2)
                | skip
              clear hb3))
          | (go_at_call 56; (with_reducible refine (HIS.out _ (by repeat (first | with_reducible exact HB4.out | with_reducible exact HB3.out | with_reducible exact HB2.out | with_reducible exact Below.refl _ _ | with_reducible refine bl_drew ?_ | with_reducible refine bl_alloc ?_ _ | with_reducible refine Below.setCell ?_ ?_ _ | exact HB3.out.size | exact HB2.out.size | exact HB4.out.size | exact Nat.le_refl _))).mono ?_); rintro e w4 ⟨rfl, hb4⟩; (
              have HB4 := Lib.hid (show Below wq.heap.size wq w4 from bl_step (by repeat (first | with_reducible exact HB4.out | with_reducible exact HB3.out | with_reducible exact HB2.out | with_reducible exact Below.refl _ _ | with_reducible refine bl_drew ?_ | with_reducible refine bl_alloc ?_ _ | with_reducible refine Below.setCell ?_ ?_ _ | exact HB3.out.size | exact HB2.out.size | exact HB4.out.size | exact Nat.le_refl _)) hb4)
              first
                | (have HS4 := Lib.hid (HS3.out.later hb4))
                | (have HS4 := Lib.hid (((((HA3.out).written 0 (.int .i64 f)).written 1 (.int .i64 st)).written 2 (.int .i64 en)).later hb4))
                | (have HA4 := Lib.hid (HA3.out.later hb4); clear x0 x1 x2 g0 g1 g2; obtain ⟨x0, x1, x2⟩ := arr_cells HA4.out; have g0 := HA4.out.free 0; have g1 := HA4.out.free 1; have g2 := HA4.out.free 2)
                | (have HS4 := Lib.hid (((((Row.made w3 88 #[.int .i64 0, .int .i64 0, .int .i64 0]).written 0 (.int .i64 f)).written 1 (.int .i64 st)).written 2 (.int .i64 en)).later hb4))
                | (have HA4 := Lib.hid ((Row.made w3 88 #[.int .i64 0, .int .i64 0, .int .i64 0]).later hb4); obtain ⟨x0, x1, x2⟩ := arr_cells HA4.out; have g0 := HA4.out.free 0; have g1 := HA4.out.free 1; have g2 := HA4.out.free 2)
                | skip
              clear hb4)))
        all_goals
          go_wp2_with fail
          go_meet
          refine ⟨_, _, rfl, rfl, rfl, rfl, ?_, Lib.hid (by repeat (first | with_reducible exact HB4.out | with_reducible exact HB3.out | with_reducible exact HB2.out | with_reducible exact Below.refl _ _ | with_reducible refine bl_drew ?_ | with_reducible refine bl_alloc ?_ _ | with_reducible refine Below.setCell ?_ ?_ _ | exact HB3.out.size | exact HB2.out.size | exact HB4.out.size | exact Nat.le_refl _))⟩
          first
            | with_reducible exact Lib.hid (Row.made _ _ _)
            | exact Lib.hid ((((HA4.out).written 0 (.int .i64 f)).written 1 (.int .i64 st)).written 2 (.int .i64 en))
      case rest =>
        obtain ⟨wy, sb, hwy, rfl, rfl, rfl, HRS, HBY⟩ := hcut
        subst hwy
        have HXy := Lib.hid (HXo.out.later HBY.out)
        have HWy := Lib.hid (HWo.out.trans (HBY.out.mono HWo.out.size))
        have HOy := Lib.hid (HOB.out.later HBY.out)
        have d0 := HOy.out.read (i := 0) (x := .int .i64 kd) rfl
        have d1 := HOy.out.read (i := 1) (x := .int .i64 nn) rfl
        have HSI := Lib.hid (And.intro HRS.out.inside HXy.out.inside)
        have HNE := Lib.hid (And.intro (Row.apart HRS.out HXy.out.mem.row (by decide)) (HXy.out.mem.set.row_ne HRS.out))
        have HNO := Lib.hid (And.intro (Row.apart HOy.out HXy.out.mem.row (by decide)) (HXy.out.mem.set.row_ne HOy.out))
        have HST2 := Lib.hid (fun v (hb : Below wy.heap.size wy v) => xstate_any (HXy.out.mem.later hb).row)
        clear HST HIN HIS HOR k1
        cases hin : inx bits size f nn
        · have hq : fltx bits size f nn ≠ 0 := by
            intro h0
            obtain ⟨a1, a2⟩ := flt_zero h0
            rw [inx_ix a1, decide_eq_true a2] at hin
            cases hin
          have HC := Lib.hid (xcame_bad HXy.out hq)
          have HWH := Lib.hid (xwhole_bad HXy.out hq)
          generalize fltx bits size f nn = q at *
          have hq0 : (q == 0) = false := by simpa using hq
          have hq1 : (q != 0) = true := by simpa using hq
          generalize hst : (f + (c : Int)) % sz bits = st at *
          generalize hen : (f + (l.length : Int)) % sz bits = en at *
          generalize (okn bits nn && ak (sz bits) f l nn) = isb at *
          clear hin hq hst hen
          rcases Classical.em (kd = 0) with hk0 | hk0
          · subst hk0
            go_wp2_with (go_at_call 51; (with_reducible refine HC.out.mono ?_); rintro e w5 ⟨rfl, hb5⟩; (have HB5 := Lib.hid hb5; have HS5 := Lib.hid (HRS.out.later HB5.out); clear hb5 d0 d1))
            refine wp_region_noPanic ?_
            refine wp_region_held_drew (S := fun W => Below w5.heap.size w5 W) (by kernel_rfl) (bl_drew (Below.refl _ _)) (fun hS => ?_)
            refine take_at 0 61 (v := ?va0) (by simp only [List.getElem?_toArray, List.getElem?_cons_zero]; rfl) rfl (by kernel_rfl) (by kernel_rfl) (by kernel_rfl) (fun _ _ _ h => h) (Or.inl ⟨by rfl, ?ya0⟩) hS ?_
            case ya0 =>
              intro W hSW
              (try dsimp only at hSW)
              go_simp
              first | done | with_reducible rfl
            simp only [Act.put, List.setIfInBounds_toArray, List.set_cons_zero, List.set_cons_succ]
            refine take_at 1 62 (v := ?va1) (by simp only [List.getElem?_toArray, List.getElem?_cons_succ, List.getElem?_cons_zero]; rfl) rfl (by kernel_rfl) (by kernel_rfl) (by kernel_rfl) (fun _ _ _ h => h) (Or.inl ⟨by rfl, ?ya1⟩) hS ?_
            case ya1 =>
              intro W hSW
              (try dsimp only at hSW)
              go_simp
              first | done | with_reducible rfl
            simp only [Act.put, List.setIfInBounds_toArray, List.set_cons_zero, List.set_cons_succ]
            refine take_at 2 63 (v := ?va2) (by simp only [List.getElem?_toArray, List.getElem?_cons_succ, List.getElem?_cons_zero]; rfl) rfl (by kernel_rfl) (by kernel_rfl) (by kernel_rfl) (fun _ _ _ h => h) (Or.inl ⟨by rfl, ?ya2⟩) hS ?_
            case ya2 =>
              intro W hSW
              (try dsimp only at hSW)
              go_simp
              first | done | with_reducible rfl
            simp only [Act.put, List.setIfInBounds_toArray, List.set_cons_zero, List.set_cons_succ]
            refine take_at 3 64 (v := ?va3) (by simp only [List.getElem?_toArray, List.getElem?_cons_succ, List.getElem?_cons_zero]; rfl) rfl (by kernel_rfl) (by kernel_rfl) (by kernel_rfl) (fun _ _ _ h => h) (Or.inl ⟨by rfl, ?ya3⟩) hS ?_
            case ya3 =>
              intro W hSW
              (try dsimp only at hSW)
              go_simp
              first | done | with_reducible rfl
            simp only [Act.put, List.setIfInBounds_toArray, List.set_cons_zero, List.set_cons_succ]
            refine take_at 4 65 (v := ?va4) (by simp only [List.getElem?_toArray, List.getElem?_cons_succ, List.getElem?_cons_zero]; rfl) rfl (by kernel_rfl) (by kernel_rfl) (by kernel_rfl) (fun _ _ _ h => h) (Or.inl ⟨by rfl, ?ya4⟩) hS ?_
            case ya4 =>
              intro W hSW
              (try dsimp only at hSW)
              go_simp
              first | done | with_reducible rfl
            simp only [Act.put, List.setIfInBounds_toArray, List.set_cons_zero, List.set_cons_succ]
            refine take_at 5 66 (v := ?va5) (by simp only [List.getElem?_toArray, List.getElem?_cons_succ, List.getElem?_cons_zero]; rfl) rfl (by kernel_rfl) (by kernel_rfl) (by kernel_rfl) (fun _ _ _ h => h) (Or.inl ⟨by rfl, ?ya5⟩) hS ?_
            case ya5 =>
              intro W hSW
              (try dsimp only at hSW)
              go_simp
              first | done | with_reducible rfl
            simp only [Act.put, List.setIfInBounds_toArray, List.set_cons_zero, List.set_cons_succ]
            refine take_at 6 67 (v := ?va6) (by simp only [List.getElem?_toArray, List.getElem?_cons_succ, List.getElem?_cons_zero]; rfl) rfl (by kernel_rfl) (by kernel_rfl) (by kernel_rfl) (fun _ _ _ h => h) (Or.inl ⟨by rfl, ?ya6⟩) hS ?_
            case ya6 =>
              intro W hSW
              (try dsimp only at hSW)
              go_simp
              first | done | with_reducible rfl
            simp only [Act.put, List.setIfInBounds_toArray, List.set_cons_zero, List.set_cons_succ]
            refine take_at 7 68 (v := ?va7) (by simp only [List.getElem?_toArray, List.getElem?_cons_succ, List.getElem?_cons_zero]; rfl) rfl (by kernel_rfl) (by kernel_rfl) (by kernel_rfl) (fun _ _ _ h => h) (Or.inl ⟨by rfl, ?ya7⟩) hS ?_
            case ya7 =>
              intro W hSW
              (try dsimp only at hSW)
              go_simp
              first | done | with_reducible rfl
            simp only [Act.put, List.setIfInBounds_toArray, List.set_cons_zero, List.set_cons_succ]
            refine take_at 8 69 (v := ?va8) (by simp only [List.getElem?_toArray, List.getElem?_cons_succ, List.getElem?_cons_zero]; rfl) rfl (by kernel_rfl) (by kernel_rfl) (by kernel_rfl) (fun _ _ _ h => h) (Or.inl ⟨by rfl, ?ya8⟩) hS ?_
            case ya8 =>
              intro W hSW
              (try dsimp only at hSW)
              go_simp
              first | done | with_reducible rfl
            simp only [Act.put, List.setIfInBounds_toArray, List.set_cons_zero, List.set_cons_succ]
            refine take_at 10 71 (v := ?va10) (by simp only [List.getElem?_toArray, List.getElem?_cons_succ, List.getElem?_cons_zero]; rfl) rfl (by kernel_rfl) (by kernel_rfl) (by kernel_rfl) (fun _ _ _ h => h) (Or.inl ⟨by rfl, ?ya10⟩) hS ?_
            case ya10 =>
              intro W hSW
              (try dsimp only at hSW)
              obtain ⟨q0, q1, q2⟩ := arr_cells (HS5.out.later hSW)
              go_simp
              first | done | with_reducible rfl
            simp only [Act.put, List.setIfInBounds_toArray, List.set_cons_zero, List.set_cons_succ]
            refine wpAnyH_ready (rs := [9]) (by kernel_rfl) (by simp) ?_
            refine AllReadyH.cons rfl (fun K hK => ?_) AllReadyH.nil
            go_simp
            refine (HST2.out _ (bl_step HB5.out hS)).mono ?_
            rintro e w6 ⟨rfl, hb6⟩
            try go_simp
            refine hK.out _ _ (bl_step hS hb6) (fun hS => ?_)
            clear hK K
            try simp only [Act.put, List.setIfInBounds_toArray, List.set_cons_zero, List.set_cons_succ]
            have hBw6 : Below w5.heap.size w5 w6 := hS
            refine wpAnyH_more (S' := fun W => Below w6.heap.size w6 W) ?_ (fun _ h => bl_step hBw6 h)
            clear hS
            have hS : (fun W => Below w6.heap.size w6 W) w6 := Below.refl _ _
            refine take_at 11 72 (v := ?va11) (by simp only [List.getElem?_toArray, List.getElem?_cons_succ, List.getElem?_cons_zero]; rfl) rfl (by kernel_rfl) (by kernel_rfl) (by kernel_rfl) (fun _ _ _ h => h) (Or.inl ⟨by rfl, ?ya11⟩) hS ?_
            case ya11 =>
              intro W hSW
              (try dsimp only at hSW)
              go_simp
              first | done | with_reducible rfl
            simp only [Act.put, List.setIfInBounds_toArray, List.set_cons_zero, List.set_cons_succ]
            refine take_at 12 73 (v := ?va12) (by simp only [List.getElem?_toArray, List.getElem?_cons_succ, List.getElem?_cons_zero]; rfl) rfl (by kernel_rfl) (by kernel_rfl) (by kernel_rfl) (fun _ _ _ h => h) (Or.inl ⟨by rfl, ?ya12⟩) hS ?_
            case ya12 =>
              intro W hSW
              (try dsimp only at hSW)
              go_simp
              first | done | with_reducible rfl
            simp only [Act.put, List.setIfInBounds_toArray, List.set_cons_zero, List.set_cons_succ]
            refine take_at 13 74 (v := ?va13) (by simp only [List.getElem?_toArray, List.getElem?_cons_succ, List.getElem?_cons_zero]; rfl) rfl (by kernel_rfl) (by kernel_rfl) (by kernel_rfl) (fun _ _ _ h => h) (Or.inl ⟨by rfl, ?ya13⟩) hS ?_
            case ya13 =>
              intro W hSW
              (try dsimp only at hSW)
              go_simp
              first | done | with_reducible rfl
            simp only [Act.put, List.setIfInBounds_toArray, List.set_cons_zero, List.set_cons_succ]
            refine wpAnyH_done (by kernel_rfl) ?_ _
            refine NoPanic.normal ?_
            have HB6 := Lib.hid (bl_step HB5.out hBw6)
            have d0 := (HOy.out.later HB6.out).read (i := 0) (x := .int .i64 0) rfl
            all_goals
              go_wp2
              go_roundw
              case rel => exact ⟨i + 1, f, c, l, by have := HI.out.2; omega, by have := HI.out.1; omega, by go_num, Lib.hid (HXy.out.later HB6.out), Lib.hid (bl_step HWy.out HB6.out)⟩
              case measure => have := HI.out.2; simp [intOf]; omega
          · rcases Classical.em (kd = 1) with hk1 | hk1
            · subst hk1
              go_wp2_with (go_at_call 52; (with_reducible refine HWH.out.mono ?_); rintro e w5 ⟨rfl, hb5⟩; (have HB5 := Lib.hid hb5; have HS5 := Lib.hid (HRS.out.later HB5.out); clear hb5 d0 d1))
              refine wp_region_noPanic ?_
              refine wp_region_held_drew (S := fun W => Below w5.heap.size w5 W) (by kernel_rfl) (bl_drew (Below.refl _ _)) (fun hS => ?_)
              refine take_at 0 85 (v := ?vbWhole110) (by simp only [List.getElem?_toArray, List.getElem?_cons_zero]; rfl) rfl (by kernel_rfl) (by kernel_rfl) (by kernel_rfl) (fun _ _ _ h => h) (Or.inl ⟨by rfl, ?ybWhole110⟩) hS ?_
              case ybWhole110 =>
                intro W hSW
                (try dsimp only at hSW)
                go_simp
                first | done | with_reducible rfl
              simp only [Act.put, List.setIfInBounds_toArray, List.set_cons_zero, List.set_cons_succ]
              refine take_at 1 86 (v := ?vbWhole111) (by simp only [List.getElem?_toArray, List.getElem?_cons_succ, List.getElem?_cons_zero]; rfl) rfl (by kernel_rfl) (by kernel_rfl) (by kernel_rfl) (fun _ _ _ h => h) (Or.inl ⟨by rfl, ?ybWhole111⟩) hS ?_
              case ybWhole111 =>
                intro W hSW
                (try dsimp only at hSW)
                go_simp
                first | done | with_reducible rfl
              simp only [Act.put, List.setIfInBounds_toArray, List.set_cons_zero, List.set_cons_succ]
              refine take_at 2 87 (v := ?vbWhole112) (by simp only [List.getElem?_toArray, List.getElem?_cons_succ, List.getElem?_cons_zero]; rfl) rfl (by kernel_rfl) (by kernel_rfl) (by kernel_rfl) (fun _ _ _ h => h) (Or.inl ⟨by rfl, ?ybWhole112⟩) hS ?_
              case ybWhole112 =>
                intro W hSW
                (try dsimp only at hSW)
                go_simp
                first | done | with_reducible rfl
              simp only [Act.put, List.setIfInBounds_toArray, List.set_cons_zero, List.set_cons_succ]
              refine take_at 3 88 (v := ?vbWhole113) (by simp only [List.getElem?_toArray, List.getElem?_cons_succ, List.getElem?_cons_zero]; rfl) rfl (by kernel_rfl) (by kernel_rfl) (by kernel_rfl) (fun _ _ _ h => h) (Or.inl ⟨by rfl, ?ybWhole113⟩) hS ?_
              case ybWhole113 =>
                intro W hSW
                (try dsimp only at hSW)
                go_simp
                first | done | with_reducible rfl
              simp only [Act.put, List.setIfInBounds_toArray, List.set_cons_zero, List.set_cons_succ]
              refine take_at 4 89 (v := undef) (by simp only [List.getElem?_toArray, List.getElem?_cons_succ, List.getElem?_cons_zero]; rfl) rfl (by kernel_rfl) (by kernel_rfl) (by kernel_rfl) (fun _ _ _ h => h) (Or.inr ⟨by rfl, rfl⟩) hS ?_
              simp only [Act.put, List.setIfInBounds_toArray, List.set_cons_zero, List.set_cons_succ]
              refine take_at 5 90 (v := undef) (by simp only [List.getElem?_toArray, List.getElem?_cons_succ, List.getElem?_cons_zero]; rfl) rfl (by kernel_rfl) (by kernel_rfl) (by kernel_rfl) (fun _ _ _ h => h) (Or.inr ⟨by rfl, rfl⟩) hS ?_
              simp only [Act.put, List.setIfInBounds_toArray, List.set_cons_zero, List.set_cons_succ]
              refine take_at 6 91 (v := ?vbWhole116) (by simp only [List.getElem?_toArray, List.getElem?_cons_succ, List.getElem?_cons_zero]; rfl) rfl (by kernel_rfl) (by kernel_rfl) (by kernel_rfl) (fun _ _ _ h => h) (Or.inl ⟨by rfl, ?ybWhole116⟩) hS ?_
              case ybWhole116 =>
                intro W hSW
                (try dsimp only at hSW)
                go_simp
                first | done | with_reducible rfl
              simp only [Act.put, List.setIfInBounds_toArray, List.set_cons_zero, List.set_cons_succ]
              refine take_at 7 92 (v := ?vbWhole117) (by simp only [List.getElem?_toArray, List.getElem?_cons_succ, List.getElem?_cons_zero]; rfl) rfl (by kernel_rfl) (by kernel_rfl) (by kernel_rfl) (fun _ _ _ h => h) (Or.inl ⟨by rfl, ?ybWhole117⟩) hS ?_
              case ybWhole117 =>
                intro W hSW
                (try dsimp only at hSW)
                go_simp
                first | done | with_reducible rfl
              simp only [Act.put, List.setIfInBounds_toArray, List.set_cons_zero, List.set_cons_succ]
              refine take_at 8 93 (v := ?vbWhole118) (by simp only [List.getElem?_toArray, List.getElem?_cons_succ, List.getElem?_cons_zero]; rfl) rfl (by kernel_rfl) (by kernel_rfl) (by kernel_rfl) (fun _ _ _ h => h) (Or.inl ⟨by rfl, ?ybWhole118⟩) hS ?_
              case ybWhole118 =>
                intro W hSW
                (try dsimp only at hSW)
                go_simp
                first | done | with_reducible rfl
              simp only [Act.put, List.setIfInBounds_toArray, List.set_cons_zero, List.set_cons_succ]
              refine take_at 9 94 (v := ?vbWhole119) (by simp only [List.getElem?_toArray, List.getElem?_cons_succ, List.getElem?_cons_zero]; rfl) rfl (by kernel_rfl) (by kernel_rfl) (by kernel_rfl) (fun _ _ _ h => h) (Or.inl ⟨by rfl, ?ybWhole119⟩) hS ?_
              case ybWhole119 =>
                intro W hSW
                (try dsimp only at hSW)
                go_simp
                first | done | with_reducible rfl
              simp only [Act.put, List.setIfInBounds_toArray, List.set_cons_zero, List.set_cons_succ]
              refine take_at 10 95 (v := ?vbWhole1110) (by simp only [List.getElem?_toArray, List.getElem?_cons_succ, List.getElem?_cons_zero]; rfl) rfl (by kernel_rfl) (by kernel_rfl) (by kernel_rfl) (fun _ _ _ h => h) (Or.inl ⟨by rfl, ?ybWhole1110⟩) hS ?_
              case ybWhole1110 =>
                intro W hSW
                (try dsimp only at hSW)
                go_simp
                first | done | with_reducible rfl
              simp only [Act.put, List.setIfInBounds_toArray, List.set_cons_zero, List.set_cons_succ]
              refine take_at 11 96 (v := ?vbWhole1111) (by simp only [List.getElem?_toArray, List.getElem?_cons_succ, List.getElem?_cons_zero]; rfl) rfl (by kernel_rfl) (by kernel_rfl) (by kernel_rfl) (fun _ _ _ h => h) (Or.inl ⟨by rfl, ?ybWhole1111⟩) hS ?_
              case ybWhole1111 =>
                intro W hSW
                (try dsimp only at hSW)
                go_simp
                first | done | with_reducible rfl
              simp only [Act.put, List.setIfInBounds_toArray, List.set_cons_zero, List.set_cons_succ]
              refine take_at 12 97 (v := ?vbWhole1112) (by simp only [List.getElem?_toArray, List.getElem?_cons_succ, List.getElem?_cons_zero]; rfl) rfl (by kernel_rfl) (by kernel_rfl) (by kernel_rfl) (fun _ _ _ h => h) (Or.inl ⟨by rfl, ?ybWhole1112⟩) hS ?_
              case ybWhole1112 =>
                intro W hSW
                (try dsimp only at hSW)
                go_simp
                first | done | with_reducible rfl
              simp only [Act.put, List.setIfInBounds_toArray, List.set_cons_zero, List.set_cons_succ]
              refine take_at 14 99 (v := ?vbWhole1114) (by simp only [List.getElem?_toArray, List.getElem?_cons_succ, List.getElem?_cons_zero]; rfl) rfl (by kernel_rfl) (by kernel_rfl) (by kernel_rfl) (fun _ _ _ h => h) (Or.inl ⟨by rfl, ?ybWhole1114⟩) hS ?_
              case ybWhole1114 =>
                intro W hSW
                (try dsimp only at hSW)
                obtain ⟨q0, q1, q2⟩ := arr_cells (HS5.out.later hSW)
                go_simp
                first | done | with_reducible rfl
              simp only [Act.put, List.setIfInBounds_toArray, List.set_cons_zero, List.set_cons_succ]
              refine wpAnyH_ready (rs := [13]) (by kernel_rfl) (by simp) ?_
              refine AllReadyH.cons rfl (fun K hK => ?_) AllReadyH.nil
              go_simp
              refine (HST2.out _ (bl_step HB5.out hS)).mono ?_
              rintro e w6 ⟨rfl, hb6⟩
              try go_simp
              refine hK.out _ _ (bl_step hS hb6) (fun hS => ?_)
              clear hK K
              try simp only [Act.put, List.setIfInBounds_toArray, List.set_cons_zero, List.set_cons_succ]
              have hBw6 : Below w5.heap.size w5 w6 := hS
              refine wpAnyH_more (S' := fun W => Below w6.heap.size w6 W) ?_ (fun _ h => bl_step hBw6 h)
              clear hS
              have hS : (fun W => Below w6.heap.size w6 W) w6 := Below.refl _ _
              refine take_at 15 100 (v := ?vbWhole1115) (by simp only [List.getElem?_toArray, List.getElem?_cons_succ, List.getElem?_cons_zero]; rfl) rfl (by kernel_rfl) (by kernel_rfl) (by kernel_rfl) (fun _ _ _ h => h) (Or.inl ⟨by rfl, ?ybWhole1115⟩) hS ?_
              case ybWhole1115 =>
                intro W hSW
                (try dsimp only at hSW)
                go_simp
                first | done | with_reducible rfl
              simp only [Act.put, List.setIfInBounds_toArray, List.set_cons_zero, List.set_cons_succ]
              refine take_at 16 101 (v := ?vbWhole1116) (by simp only [List.getElem?_toArray, List.getElem?_cons_succ, List.getElem?_cons_zero]; rfl) rfl (by kernel_rfl) (by kernel_rfl) (by kernel_rfl) (fun _ _ _ h => h) (Or.inl ⟨by rfl, ?ybWhole1116⟩) hS ?_
              case ybWhole1116 =>
                intro W hSW
                (try dsimp only at hSW)
                go_simp
                first | done | with_reducible rfl
              simp only [Act.put, List.setIfInBounds_toArray, List.set_cons_zero, List.set_cons_succ]
              refine take_at 17 102 (v := ?vbWhole1117) (by simp only [List.getElem?_toArray, List.getElem?_cons_succ, List.getElem?_cons_zero]; rfl) rfl (by kernel_rfl) (by kernel_rfl) (by kernel_rfl) (fun _ _ _ h => h) (Or.inl ⟨by rfl, ?ybWhole1117⟩) hS ?_
              case ybWhole1117 =>
                intro W hSW
                (try dsimp only at hSW)
                go_simp
                first | done | with_reducible rfl
              simp only [Act.put, List.setIfInBounds_toArray, List.set_cons_zero, List.set_cons_succ]
              refine take_at 18 103 (v := ?vbWhole1118) (by simp only [List.getElem?_toArray, List.getElem?_cons_succ, List.getElem?_cons_zero]; rfl) rfl (by kernel_rfl) (by kernel_rfl) (by kernel_rfl) (fun _ _ _ h => h) (Or.inl ⟨by rfl, ?ybWhole1118⟩) hS ?_
              case ybWhole1118 =>
                intro W hSW
                (try dsimp only at hSW)
                go_simp
                first | done | with_reducible rfl
              simp only [Act.put, List.setIfInBounds_toArray, List.set_cons_zero, List.set_cons_succ]
              refine take_at 19 104 (v := ?vbWhole1119) (by simp only [List.getElem?_toArray, List.getElem?_cons_succ, List.getElem?_cons_zero]; rfl) rfl (by kernel_rfl) (by kernel_rfl) (by kernel_rfl) (fun _ _ _ h => h) (Or.inl ⟨by rfl, ?ybWhole1119⟩) hS ?_
              case ybWhole1119 =>
                intro W hSW
                (try dsimp only at hSW)
                go_simp
                first | done | with_reducible rfl
              simp only [Act.put, List.setIfInBounds_toArray, List.set_cons_zero, List.set_cons_succ]
              refine take_at 20 105 (v := ?vbWhole1120) (by simp only [List.getElem?_toArray, List.getElem?_cons_succ, List.getElem?_cons_zero]; rfl) rfl (by kernel_rfl) (by kernel_rfl) (by kernel_rfl) (fun _ _ _ h => h) (Or.inl ⟨by rfl, ?ybWhole1120⟩) hS ?_
              case ybWhole1120 =>
                intro W hSW
                (try dsimp only at hSW)
                go_simp
                first | done | with_reducible rfl
              simp only [Act.put, List.setIfInBounds_toArray, List.set_cons_zero, List.set_cons_succ]
              refine take_at 21 106 (v := ?vbWhole1121) (by simp only [List.getElem?_toArray, List.getElem?_cons_succ, List.getElem?_cons_zero]; rfl) rfl (by kernel_rfl) (by kernel_rfl) (by kernel_rfl) (fun _ _ _ h => h) (Or.inl ⟨by rfl, ?ybWhole1121⟩) hS ?_
              case ybWhole1121 =>
                intro W hSW
                (try dsimp only at hSW)
                go_simp
                first | done | with_reducible rfl
              simp only [Act.put, List.setIfInBounds_toArray, List.set_cons_zero, List.set_cons_succ]
              refine take_at 22 107 (v := ?vbWhole1122) (by simp only [List.getElem?_toArray, List.getElem?_cons_succ, List.getElem?_cons_zero]; rfl) rfl (by kernel_rfl) (by kernel_rfl) (by kernel_rfl) (fun _ _ _ h => h) (Or.inl ⟨by rfl, ?ybWhole1122⟩) hS ?_
              case ybWhole1122 =>
                intro W hSW
                (try dsimp only at hSW)
                go_simp
                first | done | with_reducible rfl
              simp only [Act.put, List.setIfInBounds_toArray, List.set_cons_zero, List.set_cons_succ]
              refine take_at 23 108 (v := ?vbWhole1123) (by simp only [List.getElem?_toArray, List.getElem?_cons_succ, List.getElem?_cons_zero]; rfl) rfl (by kernel_rfl) (by kernel_rfl) (by kernel_rfl) (fun _ _ _ h => h) (Or.inl ⟨by rfl, ?ybWhole1123⟩) hS ?_
              case ybWhole1123 =>
                intro W hSW
                (try dsimp only at hSW)
                go_simp
                first | done | with_reducible rfl
              simp only [Act.put, List.setIfInBounds_toArray, List.set_cons_zero, List.set_cons_succ]
              refine take_at 24 109 (v := ?vbWhole1124) (by simp only [List.getElem?_toArray, List.getElem?_cons_succ, List.getElem?_cons_zero]; rfl) rfl (by kernel_rfl) (by kernel_rfl) (by kernel_rfl) (fun _ _ _ h => h) (Or.inl ⟨by rfl, ?ybWhole1124⟩) hS ?_
              case ybWhole1124 =>
                intro W hSW
                (try dsimp only at hSW)
                go_simp
                first | done | with_reducible rfl
              simp only [Act.put, List.setIfInBounds_toArray, List.set_cons_zero, List.set_cons_succ]
              refine take_at 25 110 (v := ?vbWhole1125) (by simp only [List.getElem?_toArray, List.getElem?_cons_succ, List.getElem?_cons_zero]; rfl) rfl (by kernel_rfl) (by kernel_rfl) (by kernel_rfl) (fun _ _ _ h => h) (Or.inl ⟨by rfl, ?ybWhole1125⟩) hS ?_
              case ybWhole1125 =>
                intro W hSW
                (try dsimp only at hSW)
                go_simp
                first | done | with_reducible rfl
              simp only [Act.put, List.setIfInBounds_toArray, List.set_cons_zero, List.set_cons_succ]
              refine take_at 26 111 (v := ?vbWhole1126) (by simp only [List.getElem?_toArray, List.getElem?_cons_succ, List.getElem?_cons_zero]; rfl) rfl (by kernel_rfl) (by kernel_rfl) (by kernel_rfl) (fun _ _ _ h => h) (Or.inl ⟨by rfl, ?ybWhole1126⟩) hS ?_
              case ybWhole1126 =>
                intro W hSW
                (try dsimp only at hSW)
                go_simp
                first | done | with_reducible rfl
              simp only [Act.put, List.setIfInBounds_toArray, List.set_cons_zero, List.set_cons_succ]
              refine take_at 27 112 (v := undef) (by simp only [List.getElem?_toArray, List.getElem?_cons_succ, List.getElem?_cons_zero]; rfl) rfl (by kernel_rfl) (by kernel_rfl) (by kernel_rfl) (fun _ _ _ h => h) (Or.inr ⟨by rfl, rfl⟩) hS ?_
              simp only [Act.put, List.setIfInBounds_toArray, List.set_cons_zero, List.set_cons_succ]
              refine take_at 28 113 (v := undef) (by simp only [List.getElem?_toArray, List.getElem?_cons_succ, List.getElem?_cons_zero]; rfl) rfl (by kernel_rfl) (by kernel_rfl) (by kernel_rfl) (fun _ _ _ h => h) (Or.inr ⟨by rfl, rfl⟩) hS ?_
              simp only [Act.put, List.setIfInBounds_toArray, List.set_cons_zero, List.set_cons_succ]
              refine take_at 29 114 (v := undef) (by simp only [List.getElem?_toArray, List.getElem?_cons_succ, List.getElem?_cons_zero]; rfl) rfl (by kernel_rfl) (by kernel_rfl) (by kernel_rfl) (fun _ _ _ h => h) (Or.inr ⟨by rfl, rfl⟩) hS ?_
              simp only [Act.put, List.setIfInBounds_toArray, List.set_cons_zero, List.set_cons_succ]
              refine take_at 30 115 (v := ?vbWhole1130) (by simp only [List.getElem?_toArray, List.getElem?_cons_succ, List.getElem?_cons_zero]; rfl) rfl (by kernel_rfl) (by kernel_rfl) (by kernel_rfl) (fun _ _ _ h => h) (Or.inl ⟨by rfl, ?ybWhole1130⟩) hS ?_
              case ybWhole1130 =>
                intro W hSW
                (try dsimp only at hSW)
                go_simp
                first | done | with_reducible rfl
              simp only [Act.put, List.setIfInBounds_toArray, List.set_cons_zero, List.set_cons_succ]
              refine take_at 31 116 (v := ?vbWhole1131) (by simp only [List.getElem?_toArray, List.getElem?_cons_succ, List.getElem?_cons_zero]; rfl) rfl (by kernel_rfl) (by kernel_rfl) (by kernel_rfl) (fun _ _ _ h => h) (Or.inl ⟨by rfl, ?ybWhole1131⟩) hS ?_
              case ybWhole1131 =>
                intro W hSW
                (try dsimp only at hSW)
                go_simp
                first | done | with_reducible rfl
              simp only [Act.put, List.setIfInBounds_toArray, List.set_cons_zero, List.set_cons_succ]
              refine take_at 32 117 (v := undef) (by simp only [List.getElem?_toArray, List.getElem?_cons_succ, List.getElem?_cons_zero]; rfl) rfl (by kernel_rfl) (by kernel_rfl) (by kernel_rfl) (fun _ _ _ h => h) (Or.inr ⟨by rfl, rfl⟩) hS ?_
              simp only [Act.put, List.setIfInBounds_toArray, List.set_cons_zero, List.set_cons_succ]
              refine take_at 33 118 (v := undef) (by simp only [List.getElem?_toArray, List.getElem?_cons_succ, List.getElem?_cons_zero]; rfl) rfl (by kernel_rfl) (by kernel_rfl) (by kernel_rfl) (fun _ _ _ h => h) (Or.inr ⟨by rfl, rfl⟩) hS ?_
              simp only [Act.put, List.setIfInBounds_toArray, List.set_cons_zero, List.set_cons_succ]
              refine take_at 34 119 (v := undef) (by simp only [List.getElem?_toArray, List.getElem?_cons_succ, List.getElem?_cons_zero]; rfl) rfl (by kernel_rfl) (by kernel_rfl) (by kernel_rfl) (fun _ _ _ h => h) (Or.inr ⟨by rfl, rfl⟩) hS ?_
              simp only [Act.put, List.setIfInBounds_toArray, List.set_cons_zero, List.set_cons_succ]
              refine take_at 35 120 (v := undef) (by simp only [List.getElem?_toArray, List.getElem?_cons_succ, List.getElem?_cons_zero]; rfl) rfl (by kernel_rfl) (by kernel_rfl) (by kernel_rfl) (fun _ _ _ h => h) (Or.inr ⟨by rfl, rfl⟩) hS ?_
              simp only [Act.put, List.setIfInBounds_toArray, List.set_cons_zero, List.set_cons_succ]
              refine take_at 36 121 (v := undef) (by simp only [List.getElem?_toArray, List.getElem?_cons_succ, List.getElem?_cons_zero]; rfl) rfl (by kernel_rfl) (by kernel_rfl) (by kernel_rfl) (fun _ _ _ h => h) (Or.inr ⟨by rfl, rfl⟩) hS ?_
              simp only [Act.put, List.setIfInBounds_toArray, List.set_cons_zero, List.set_cons_succ]
              refine take_at 37 122 (v := undef) (by simp only [List.getElem?_toArray, List.getElem?_cons_succ, List.getElem?_cons_zero]; rfl) rfl (by kernel_rfl) (by kernel_rfl) (by kernel_rfl) (fun _ _ _ h => h) (Or.inr ⟨by rfl, rfl⟩) hS ?_
              simp only [Act.put, List.setIfInBounds_toArray, List.set_cons_zero, List.set_cons_succ]
              refine take_at 38 123 (v := ?vbWhole1138) (by simp only [List.getElem?_toArray, List.getElem?_cons_succ, List.getElem?_cons_zero]; rfl) rfl (by kernel_rfl) (by kernel_rfl) (by kernel_rfl) (fun _ _ _ h => h) (Or.inl ⟨by rfl, ?ybWhole1138⟩) hS ?_
              case ybWhole1138 =>
                intro W hSW
                (try dsimp only at hSW)
                go_simp
                first | done | with_reducible rfl
              simp only [Act.put, List.setIfInBounds_toArray, List.set_cons_zero, List.set_cons_succ]
              refine take_at 39 124 (v := ?vbWhole1139) (by simp only [List.getElem?_toArray, List.getElem?_cons_succ, List.getElem?_cons_zero]; rfl) rfl (by kernel_rfl) (by kernel_rfl) (by kernel_rfl) (fun _ _ _ h => h) (Or.inl ⟨by rfl, ?ybWhole1139⟩) hS ?_
              case ybWhole1139 =>
                intro W hSW
                (try dsimp only at hSW)
                go_simp
                first | done | with_reducible rfl
              simp only [Act.put, List.setIfInBounds_toArray, List.set_cons_zero, List.set_cons_succ]
              refine wpAnyH_done (by kernel_rfl) ?_ _
              refine NoPanic.normal ?_
              have HB6 := Lib.hid (bl_step HB5.out hBw6)
              have d0 := (HOy.out.later HB6.out).read (i := 0) (x := .int .i64 1) rfl
              all_goals
                go_wp2
                go_roundw
                case rel => exact ⟨i + 1, f, c, l, by have := HI.out.2; omega, by have := HI.out.1; omega, by go_num, Lib.hid (HXy.out.later HB6.out), Lib.hid (bl_step HWy.out HB6.out)⟩
                case measure => have := HI.out.2; simp [intOf]; omega
            · have e0 : (kd == 0) = false := by simpa using hk0
              have e1 : (kd == 1) = false := by simpa using hk1
              all_goals
                go_wp2
                go_roundw
                case rel => exact ⟨i + 1, f, c, l, by have := HI.out.2; omega, by have := HI.out.1; omega, by go_num, Lib.hid (HXy.out), Lib.hid (HWy.out)⟩
                case measure => have := HI.out.2; simp [intOf]; omega
        · have hok : okn bits nn = true := by
            cases ho : okn bits nn
            · rw [inx_no ho] at hin; cases hin
            · rfl
          have hix : (ix (sz bits) f nn : Int) < size := by rw [inx_ix hok] at hin; exact of_decide_eq_true hin
          have HC := Lib.hid (xcame_ok HXy.out hok hix)
          rw [hok, Bool.true_and]
          rcases Classical.em (kd = 0) with hk0 | hk0
          · subst hk0
            generalize ak (sz bits) f l nn = isb at *
            clear hin hok hix
            go_wp2_with (go_at_call 51; (with_reducible refine HC.out.mono ?_); rintro e w5 ⟨rfl, hw5, ho5⟩; (have HW5 := Lib.hid hw5; have HB5 := Lib.hid (HWy.out.trans (ho5.below HWy.out.size (XM_new HX.out))); have HO5 := Lib.hid (HOy.out.only ho5 (by rintro (e | e); exact HNO.out.1 e; exact HNO.out.2 e)); clear hw5 ho5 d0 d1; have d0 := HO5.out.read (i := 0) (x := .int .i64 0) rfl))
            go_quiet (fail)
            all_goals
              go_wp2
              go_roundw
              case rel => exact ⟨i + 1, _, _, _, by have := HI.out.2; omega, by have := HI.out.1; omega, by go_num, Lib.hid (HW5.out.later (below_drewN (Below.refl _ _) _)), Lib.hid (bl_step HB5.out (below_drewN (Below.refl _ _) _))⟩
              case measure => have := HI.out.2; simp [intOf]; omega
          · rcases Classical.em (kd = 1) with hk1 | hk1
            · subst hk1
              cases his : ak (sz bits) f l nn
              · have HWH := Lib.hid (xwhole_ok HXy.out hok hix his)
                have hp0 : past (sz bits) f (opn (mark l (ix (sz bits) f nn)) 0) ≠ [] → (past (sz bits) f (opn (mark l (ix (sz bits) f nn)) 0))[0]? = some f := by
                  intro hne
                  have hj : 0 < (past (sz bits) f (opn (mark l (ix (sz bits) f nn)) 0)).length := List.length_pos_iff.2 hne
                  rw [past_length] at hj
                  unfold past
                  rw [List.getElem?_map, List.getElem?_range hj]
                  have := okn_true HXy.out.mem.hf
                  simp [Int.emod_eq_of_lt this.1 this.2]
                have HP0 := Lib.hid hp0
                generalize hj : opn (mark l (ix (sz bits) f nn)) 0 = j at *
                have hjl : j ≤ 70000 := by
                  have q1 := opn_le (l := mark l (ix (sz bits) f nn)) (c := 0) (by omega)
                  rw [mark_length, hj] at q1
                  have q2 := HXy.out.mem.hl
                  have q3 := HXy.out.mem.hs2
                  have q4 := HXy.out.mem.pos
                  omega
                have HPL := Lib.hid (past_length (N := sz bits) (f := f) (k := j))
                clear hin hok hix his hp0 hj hk0
                by_cases hj0 : j = 0
                · subst hj0
                  go_wp2_with (go_at_call 52; (with_reducible refine HWH.out.mono ?_); rintro e w5 ⟨A5, rfl, ha5, hw5, ho5⟩; (have HW5 := Lib.hid hw5; have HB5 := Lib.hid (HWy.out.trans (ho5.below HWy.out.size (XM_new HX.out))); clear hw5 ho5 ha5 d0 d1))
                  go_quiet (fail)
                  all_goals
                    go_wp2
                    go_roundw
                    case rel => exact ⟨i + 1, _, _, _, by have := HI.out.2; omega, by have := HI.out.1; omega, by go_num, Lib.hid (HW5.out.later (below_drewN (Below.refl _ _) _)), Lib.hid (bl_step HB5.out (below_drewN (Below.refl _ _) _))⟩
                    case measure => have := HI.out.2; simp [intOf]; omega
                · have hjp : (0 : Int) < j := by omega
                  have hjd : decide ((0 : Int) < (j : Int)) = true := decide_eq_true hjp
                  have hjn : 0 < j := by omega
                  have hff : (f != f) = false := by simp
                  go_wp2_with (go_at_call 52; (with_reducible refine HWH.out.mono ?_); rintro e w5 ⟨A5, rfl, ha5, hw5, ho5⟩; (
                    have HW5 := Lib.hid hw5
                    have HB5 := Lib.hid (HWy.out.trans (ho5.below HWy.out.size (XM_new HX.out)))
                    have HR5 := HRS.out.only ho5 (by rintro (e | e); exact HNE.out.1 e; exact HNE.out.2 e)
                    obtain ⟨k0, k1, k2⟩ := arr_cells HR5
                    have hq0 := HP0.out (by intro hn; have := HPL.out; rw [hn] at this; simp at this; omega)
                    obtain ⟨g5, rfl, hc5⟩ := ha5.cell (i := 0) (u := .int .i64 f) (by unfold ints; rw [List.getElem?_map, hq0]; rfl)
                    have HS5 := Lib.hid HR5
                    have HC5 := Lib.hid hc5
                    clear hw5 ho5 ha5 d0 d1 HR5 hq0 k0 k1 k2 hc5))
                  refine wp_region_noPanic ?_
                  refine wp_region_held_drew (S := fun W => Below w5.heap.size w5 W) (by kernel_rfl) (bl_drew (Below.refl _ _)) (fun hS => ?_)
                  refine take_at 0 85 (v := ?vg0) (by simp only [List.getElem?_toArray, List.getElem?_cons_zero]; rfl) rfl (by kernel_rfl) (by kernel_rfl) (by kernel_rfl) (fun _ _ _ h => h) (Or.inl ⟨by rfl, ?yg0⟩) hS ?_
                  case yg0 =>
                    intro W hSW
                    (try dsimp only at hSW)
                    go_simp
                    first | done | with_reducible rfl
                  simp only [Act.put, List.setIfInBounds_toArray, List.set_cons_zero, List.set_cons_succ]
                  refine take_at 1 86 (v := ?vg1) (by simp only [List.getElem?_toArray, List.getElem?_cons_succ, List.getElem?_cons_zero]; rfl) rfl (by kernel_rfl) (by kernel_rfl) (by kernel_rfl) (fun _ _ _ h => h) (Or.inl ⟨by rfl, ?yg1⟩) hS ?_
                  case yg1 =>
                    intro W hSW
                    (try dsimp only at hSW)
                    go_simp
                    first | done | with_reducible rfl
                  simp only [Act.put, List.setIfInBounds_toArray, List.set_cons_zero, List.set_cons_succ]
                  refine take_at 2 87 (v := ?vg2) (by simp only [List.getElem?_toArray, List.getElem?_cons_succ, List.getElem?_cons_zero]; rfl) rfl (by kernel_rfl) (by kernel_rfl) (by kernel_rfl) (fun _ _ _ h => h) (Or.inl ⟨by rfl, ?yg2⟩) hS ?_
                  case yg2 =>
                    intro W hSW
                    (try dsimp only at hSW)
                    go_simp
                    first | done | with_reducible rfl
                  simp only [Act.put, List.setIfInBounds_toArray, List.set_cons_zero, List.set_cons_succ]
                  refine take_at 3 88 (v := ?vg3) (by simp only [List.getElem?_toArray, List.getElem?_cons_succ, List.getElem?_cons_zero]; rfl) rfl (by kernel_rfl) (by kernel_rfl) (by kernel_rfl) (fun _ _ _ h => h) (Or.inl ⟨by rfl, ?yg3⟩) hS ?_
                  case yg3 =>
                    intro W hSW
                    (try dsimp only at hSW)
                    go_simp
                    first | done | with_reducible rfl
                  simp only [Act.put, List.setIfInBounds_toArray, List.set_cons_zero, List.set_cons_succ]
                  refine take_at 4 89 (v := ?vg4) (by simp only [List.getElem?_toArray, List.getElem?_cons_succ, List.getElem?_cons_zero]; rfl) rfl (by kernel_rfl) (by kernel_rfl) (by kernel_rfl) (fun _ _ _ h => h) (Or.inl ⟨by rfl, ?yg4⟩) hS ?_
                  case yg4 =>
                    intro W hSW
                    (try dsimp only at hSW)
                    go_simp
                    first | done | with_reducible rfl
                  simp only [Act.put, List.setIfInBounds_toArray, List.set_cons_zero, List.set_cons_succ]
                  refine take_at 5 90 (v := ?vg5) (by simp only [List.getElem?_toArray, List.getElem?_cons_succ, List.getElem?_cons_zero]; rfl) rfl (by kernel_rfl) (by kernel_rfl) (by kernel_rfl) (fun _ _ _ h => h) (Or.inl ⟨by rfl, ?yg5⟩) hS ?_
                  case yg5 =>
                    intro W hSW
                    (try dsimp only at hSW)
                    go_simp
                    first | done | with_reducible rfl
                  simp only [Act.put, List.setIfInBounds_toArray, List.set_cons_zero, List.set_cons_succ]
                  refine take_at 6 91 (v := ?vg6) (by simp only [List.getElem?_toArray, List.getElem?_cons_succ, List.getElem?_cons_zero]; rfl) rfl (by kernel_rfl) (by kernel_rfl) (by kernel_rfl) (fun _ _ _ h => h) (Or.inl ⟨by rfl, ?yg6⟩) hS ?_
                  case yg6 =>
                    intro W hSW
                    (try dsimp only at hSW)
                    go_simp
                    first | done | with_reducible rfl
                  simp only [Act.put, List.setIfInBounds_toArray, List.set_cons_zero, List.set_cons_succ]
                  refine take_at 7 92 (v := ?vg7) (by simp only [List.getElem?_toArray, List.getElem?_cons_succ, List.getElem?_cons_zero]; rfl) rfl (by kernel_rfl) (by kernel_rfl) (by kernel_rfl) (fun _ _ _ h => h) (Or.inl ⟨by rfl, ?yg7⟩) hS ?_
                  case yg7 =>
                    intro W hSW
                    (try dsimp only at hSW)
                    go_simp
                    first | done | with_reducible rfl
                  simp only [Act.put, List.setIfInBounds_toArray, List.set_cons_zero, List.set_cons_succ]
                  refine take_at 8 93 (v := ?vg8) (by simp only [List.getElem?_toArray, List.getElem?_cons_succ, List.getElem?_cons_zero]; rfl) rfl (by kernel_rfl) (by kernel_rfl) (by kernel_rfl) (fun _ _ _ h => h) (Or.inl ⟨by rfl, ?yg8⟩) hS ?_
                  case yg8 =>
                    intro W hSW
                    (try dsimp only at hSW)
                    go_simp
                    first | done | with_reducible rfl
                  simp only [Act.put, List.setIfInBounds_toArray, List.set_cons_zero, List.set_cons_succ]
                  refine take_at 9 94 (v := ?vg9) (by simp only [List.getElem?_toArray, List.getElem?_cons_succ, List.getElem?_cons_zero]; rfl) rfl (by kernel_rfl) (by kernel_rfl) (by kernel_rfl) (fun _ _ _ h => h) (Or.inl ⟨by rfl, ?yg9⟩) hS ?_
                  case yg9 =>
                    intro W hSW
                    (try dsimp only at hSW)
                    go_simp
                    first | done | with_reducible rfl
                  simp only [Act.put, List.setIfInBounds_toArray, List.set_cons_zero, List.set_cons_succ]
                  refine take_at 10 95 (v := ?vg10) (by simp only [List.getElem?_toArray, List.getElem?_cons_succ, List.getElem?_cons_zero]; rfl) rfl (by kernel_rfl) (by kernel_rfl) (by kernel_rfl) (fun _ _ _ h => h) (Or.inl ⟨by rfl, ?yg10⟩) hS ?_
                  case yg10 =>
                    intro W hSW
                    (try dsimp only at hSW)
                    go_simp
                    first | done | with_reducible rfl
                  simp only [Act.put, List.setIfInBounds_toArray, List.set_cons_zero, List.set_cons_succ]
                  refine take_at 11 96 (v := ?vg11) (by simp only [List.getElem?_toArray, List.getElem?_cons_succ, List.getElem?_cons_zero]; rfl) rfl (by kernel_rfl) (by kernel_rfl) (by kernel_rfl) (fun _ _ _ h => h) (Or.inl ⟨by rfl, ?yg11⟩) hS ?_
                  case yg11 =>
                    intro W hSW
                    (try dsimp only at hSW)
                    go_simp
                    first | done | with_reducible rfl
                  simp only [Act.put, List.setIfInBounds_toArray, List.set_cons_zero, List.set_cons_succ]
                  refine take_at 12 97 (v := undef) (by simp only [List.getElem?_toArray, List.getElem?_cons_succ, List.getElem?_cons_zero]; rfl) rfl (by kernel_rfl) (by kernel_rfl) (by kernel_rfl) (fun _ _ _ h => h) (Or.inr ⟨by rfl, rfl⟩) hS ?_
                  simp only [Act.put, List.setIfInBounds_toArray, List.set_cons_zero, List.set_cons_succ]
                  refine take_at 13 98 (v := undef) (by simp only [List.getElem?_toArray, List.getElem?_cons_succ, List.getElem?_cons_zero]; rfl) rfl (by kernel_rfl) (by kernel_rfl) (by kernel_rfl) (fun _ _ _ h => h) (Or.inr ⟨by rfl, rfl⟩) hS ?_
                  simp only [Act.put, List.setIfInBounds_toArray, List.set_cons_zero, List.set_cons_succ]
                  refine take_at 14 99 (v := undef) (by simp only [List.getElem?_toArray, List.getElem?_cons_succ, List.getElem?_cons_zero]; rfl) rfl (by kernel_rfl) (by kernel_rfl) (by kernel_rfl) (fun _ _ _ h => h) (Or.inr ⟨by rfl, rfl⟩) hS ?_
                  simp only [Act.put, List.setIfInBounds_toArray, List.set_cons_zero, List.set_cons_succ]
                  refine take_at 15 100 (v := undef) (by simp only [List.getElem?_toArray, List.getElem?_cons_succ, List.getElem?_cons_zero]; rfl) rfl (by kernel_rfl) (by kernel_rfl) (by kernel_rfl) (fun _ _ _ h => h) (Or.inr ⟨by rfl, rfl⟩) hS ?_
                  simp only [Act.put, List.setIfInBounds_toArray, List.set_cons_zero, List.set_cons_succ]
                  refine take_at 16 101 (v := undef) (by simp only [List.getElem?_toArray, List.getElem?_cons_succ, List.getElem?_cons_zero]; rfl) rfl (by kernel_rfl) (by kernel_rfl) (by kernel_rfl) (fun _ _ _ h => h) (Or.inr ⟨by rfl, rfl⟩) hS ?_
                  simp only [Act.put, List.setIfInBounds_toArray, List.set_cons_zero, List.set_cons_succ]
                  refine take_at 17 102 (v := undef) (by simp only [List.getElem?_toArray, List.getElem?_cons_succ, List.getElem?_cons_zero]; rfl) rfl (by kernel_rfl) (by kernel_rfl) (by kernel_rfl) (fun _ _ _ h => h) (Or.inr ⟨by rfl, rfl⟩) hS ?_
                  simp only [Act.put, List.setIfInBounds_toArray, List.set_cons_zero, List.set_cons_succ]
                  refine take_at 18 103 (v := undef) (by simp only [List.getElem?_toArray, List.getElem?_cons_succ, List.getElem?_cons_zero]; rfl) rfl (by kernel_rfl) (by kernel_rfl) (by kernel_rfl) (fun _ _ _ h => h) (Or.inr ⟨by rfl, rfl⟩) hS ?_
                  simp only [Act.put, List.setIfInBounds_toArray, List.set_cons_zero, List.set_cons_succ]
                  refine take_at 19 104 (v := undef) (by simp only [List.getElem?_toArray, List.getElem?_cons_succ, List.getElem?_cons_zero]; rfl) rfl (by kernel_rfl) (by kernel_rfl) (by kernel_rfl) (fun _ _ _ h => h) (Or.inr ⟨by rfl, rfl⟩) hS ?_
                  simp only [Act.put, List.setIfInBounds_toArray, List.set_cons_zero, List.set_cons_succ]
                  refine take_at 20 105 (v := undef) (by simp only [List.getElem?_toArray, List.getElem?_cons_succ, List.getElem?_cons_zero]; rfl) rfl (by kernel_rfl) (by kernel_rfl) (by kernel_rfl) (fun _ _ _ h => h) (Or.inr ⟨by rfl, rfl⟩) hS ?_
                  simp only [Act.put, List.setIfInBounds_toArray, List.set_cons_zero, List.set_cons_succ]
                  refine take_at 21 106 (v := ?vg21) (by simp only [List.getElem?_toArray, List.getElem?_cons_succ, List.getElem?_cons_zero]; rfl) rfl (by kernel_rfl) (by kernel_rfl) (by kernel_rfl) (fun _ _ _ h => h) (Or.inl ⟨by rfl, ?yg21⟩) hS ?_
                  case yg21 =>
                    intro W hSW
                    (try dsimp only at hSW)
                    go_simp
                    first | done | with_reducible rfl
                  simp only [Act.put, List.setIfInBounds_toArray, List.set_cons_zero, List.set_cons_succ]
                  refine take_at 22 107 (v := ?vg22) (by simp only [List.getElem?_toArray, List.getElem?_cons_succ, List.getElem?_cons_zero]; rfl) rfl (by kernel_rfl) (by kernel_rfl) (by kernel_rfl) (fun _ _ _ h => h) (Or.inl ⟨by rfl, ?yg22⟩) hS ?_
                  case yg22 =>
                    intro W hSW
                    (try dsimp only at hSW)
                    go_simp
                    first | done | with_reducible rfl
                  simp only [Act.put, List.setIfInBounds_toArray, List.set_cons_zero, List.set_cons_succ]
                  refine take_at 23 108 (v := ?vg23) (by simp only [List.getElem?_toArray, List.getElem?_cons_succ, List.getElem?_cons_zero]; rfl) rfl (by kernel_rfl) (by kernel_rfl) (by kernel_rfl) (fun _ _ _ h => h) (Or.inl ⟨by rfl, ?yg23⟩) hS ?_
                  case yg23 =>
                    intro W hSW
                    (try dsimp only at hSW)
                    go_simp
                    first | done | with_reducible rfl
                  simp only [Act.put, List.setIfInBounds_toArray, List.set_cons_zero, List.set_cons_succ]
                  refine take_at 24 109 (v := ?vg24) (by simp only [List.getElem?_toArray, List.getElem?_cons_succ, List.getElem?_cons_zero]; rfl) rfl (by kernel_rfl) (by kernel_rfl) (by kernel_rfl) (fun _ _ _ h => h) (Or.inl ⟨by rfl, ?yg24⟩) hS ?_
                  case yg24 =>
                    intro W hSW
                    (try dsimp only at hSW)
                    go_simp
                    first | done | with_reducible rfl
                  simp only [Act.put, List.setIfInBounds_toArray, List.set_cons_zero, List.set_cons_succ]
                  refine take_at 25 110 (v := ?vg25) (by simp only [List.getElem?_toArray, List.getElem?_cons_succ, List.getElem?_cons_zero]; rfl) rfl (by kernel_rfl) (by kernel_rfl) (by kernel_rfl) (fun _ _ _ h => h) (Or.inl ⟨by rfl, ?yg25⟩) hS ?_
                  case yg25 =>
                    intro W hSW
                    (try dsimp only at hSW)
                    go_simp
                    first | done | with_reducible rfl
                  simp only [Act.put, List.setIfInBounds_toArray, List.set_cons_zero, List.set_cons_succ]
                  refine take_at 26 111 (v := ?vg26) (by simp only [List.getElem?_toArray, List.getElem?_cons_succ, List.getElem?_cons_zero]; rfl) rfl (by kernel_rfl) (by kernel_rfl) (by kernel_rfl) (fun _ _ _ h => h) (Or.inl ⟨by rfl, ?yg26⟩) hS ?_
                  case yg26 =>
                    intro W hSW
                    (try dsimp only at hSW)
                    go_simp
                    first | done | with_reducible rfl
                  simp only [Act.put, List.setIfInBounds_toArray, List.set_cons_zero, List.set_cons_succ]
                  refine take_at 27 112 (v := ?vg27) (by simp only [List.getElem?_toArray, List.getElem?_cons_succ, List.getElem?_cons_zero]; rfl) rfl (by kernel_rfl) (by kernel_rfl) (by kernel_rfl) (fun _ _ _ h => h) (Or.inl ⟨by rfl, ?yg27⟩) hS ?_
                  case yg27 =>
                    intro W hSW
                    (try dsimp only at hSW)
                    go_simp
                    first | done | with_reducible rfl
                  simp only [Act.put, List.setIfInBounds_toArray, List.set_cons_zero, List.set_cons_succ]
                  refine take_at 28 113 (v := ?vg28) (by simp only [List.getElem?_toArray, List.getElem?_cons_succ, List.getElem?_cons_zero]; rfl) rfl (by kernel_rfl) (by kernel_rfl) (by kernel_rfl) (fun _ _ _ h => h) (Or.inl ⟨by rfl, ?yg28⟩) hS ?_
                  case yg28 =>
                    intro W hSW
                    (try dsimp only at hSW)
                    go_simp
                    first | done | with_reducible rfl
                  simp only [Act.put, List.setIfInBounds_toArray, List.set_cons_zero, List.set_cons_succ]
                  refine take_at 29 114 (v := ?vg29) (by simp only [List.getElem?_toArray, List.getElem?_cons_succ, List.getElem?_cons_zero]; rfl) rfl (by kernel_rfl) (by kernel_rfl) (by kernel_rfl) (fun _ _ _ h => h) (Or.inl ⟨by rfl, ?yg29⟩) hS ?_
                  case yg29 =>
                    intro W hSW
                    (try dsimp only at hSW)
                    go_simp
                    first | done | with_reducible rfl
                  simp only [Act.put, List.setIfInBounds_toArray, List.set_cons_zero, List.set_cons_succ]
                  refine take_at 30 115 (v := ?vg30) (by simp only [List.getElem?_toArray, List.getElem?_cons_succ, List.getElem?_cons_zero]; rfl) rfl (by kernel_rfl) (by kernel_rfl) (by kernel_rfl) (fun _ _ _ h => h) (Or.inl ⟨by rfl, ?yg30⟩) hS ?_
                  case yg30 =>
                    intro W hSW
                    (try dsimp only at hSW)
                    go_simp
                    first | done | with_reducible rfl
                  simp only [Act.put, List.setIfInBounds_toArray, List.set_cons_zero, List.set_cons_succ]
                  refine take_at 31 116 (v := ?vg31) (by simp only [List.getElem?_toArray, List.getElem?_cons_succ, List.getElem?_cons_zero]; rfl) rfl (by kernel_rfl) (by kernel_rfl) (by kernel_rfl) (fun _ _ _ h => h) (Or.inl ⟨by rfl, ?yg31⟩) hS ?_
                  case yg31 =>
                    intro W hSW
                    (try dsimp only at hSW)
                    go_simp
                    first | done | with_reducible rfl
                  simp only [Act.put, List.setIfInBounds_toArray, List.set_cons_zero, List.set_cons_succ]
                  refine take_at 32 117 (v := ?vg32) (by simp only [List.getElem?_toArray, List.getElem?_cons_succ, List.getElem?_cons_zero]; rfl) rfl (by kernel_rfl) (by kernel_rfl) (by kernel_rfl) (fun _ _ _ h => h) (Or.inl ⟨by rfl, ?yg32⟩) hS ?_
                  case yg32 =>
                    intro W hSW
                    (try dsimp only at hSW)
                    go_simp
                    first | done | with_reducible rfl
                  simp only [Act.put, List.setIfInBounds_toArray, List.set_cons_zero, List.set_cons_succ]
                  refine take_at 33 118 (v := ?vg33) (by simp only [List.getElem?_toArray, List.getElem?_cons_succ, List.getElem?_cons_zero]; rfl) rfl (by kernel_rfl) (by kernel_rfl) (by kernel_rfl) (fun _ _ _ h => h) (Or.inl ⟨by rfl, ?yg33⟩) hS ?_
                  case yg33 =>
                    intro W hSW
                    (try dsimp only at hSW)
                    go_simp
                    first | done | with_reducible rfl
                  simp only [Act.put, List.setIfInBounds_toArray, List.set_cons_zero, List.set_cons_succ]
                  refine take_at 34 119 (v := ?vg34) (by simp only [List.getElem?_toArray, List.getElem?_cons_succ, List.getElem?_cons_zero]; rfl) rfl (by kernel_rfl) (by kernel_rfl) (by kernel_rfl) (fun _ _ _ h => h) (Or.inl ⟨by rfl, ?yg34⟩) hS ?_
                  case yg34 =>
                    intro W hSW
                    (try dsimp only at hSW)
                    have q3 := kept_box hSW HC5.out
                    go_simp
                    first | done | with_reducible rfl
                  simp only [Act.put, List.setIfInBounds_toArray, List.set_cons_zero, List.set_cons_succ]
                  refine take_at 35 120 (v := ?vg35) (by simp only [List.getElem?_toArray, List.getElem?_cons_succ, List.getElem?_cons_zero]; rfl) rfl (by kernel_rfl) (by kernel_rfl) (by kernel_rfl) (fun _ _ _ h => h) (Or.inl ⟨by rfl, ?yg35⟩) hS ?_
                  case yg35 =>
                    intro W hSW
                    (try dsimp only at hSW)
                    go_simp
                    first | done | with_reducible rfl
                  simp only [Act.put, List.setIfInBounds_toArray, List.set_cons_zero, List.set_cons_succ]
                  refine take_at 36 121 (v := ?vg36) (by simp only [List.getElem?_toArray, List.getElem?_cons_succ, List.getElem?_cons_zero]; rfl) rfl (by kernel_rfl) (by kernel_rfl) (by kernel_rfl) (fun _ _ _ h => h) (Or.inl ⟨by rfl, ?yg36⟩) hS ?_
                  case yg36 =>
                    intro W hSW
                    (try dsimp only at hSW)
                    obtain ⟨q0, q1, q2⟩ := arr_cells (HS5.out.later hSW)
                    go_simp
                    first | done | with_reducible rfl
                  simp only [Act.put, List.setIfInBounds_toArray, List.set_cons_zero, List.set_cons_succ]
                  refine take_at 37 122 (v := ?vg37) (by simp only [List.getElem?_toArray, List.getElem?_cons_succ, List.getElem?_cons_zero]; rfl) rfl (by kernel_rfl) (by kernel_rfl) (by kernel_rfl) (fun _ _ _ h => h) (Or.inl ⟨by rfl, ?yg37⟩) hS ?_
                  case yg37 =>
                    intro W hSW
                    (try dsimp only at hSW)
                    go_simp
                    first | done | with_reducible rfl
                  simp only [Act.put, List.setIfInBounds_toArray, List.set_cons_zero, List.set_cons_succ]
                  refine take_at 38 123 (v := ?vg38) (by simp only [List.getElem?_toArray, List.getElem?_cons_succ, List.getElem?_cons_zero]; rfl) rfl (by kernel_rfl) (by kernel_rfl) (by kernel_rfl) (fun _ _ _ h => h) (Or.inl ⟨by rfl, ?yg38⟩) hS ?_
                  case yg38 =>
                    intro W hSW
                    (try dsimp only at hSW)
                    go_simp
                    first | done | with_reducible rfl
                  simp only [Act.put, List.setIfInBounds_toArray, List.set_cons_zero, List.set_cons_succ]
                  refine take_at 39 124 (v := ?vg39) (by simp only [List.getElem?_toArray, List.getElem?_cons_succ, List.getElem?_cons_zero]; rfl) rfl (by kernel_rfl) (by kernel_rfl) (by kernel_rfl) (fun _ _ _ h => h) (Or.inl ⟨by rfl, ?yg39⟩) hS ?_
                  case yg39 =>
                    intro W hSW
                    (try dsimp only at hSW)
                    go_simp
                    first | done | with_reducible rfl
                  simp only [Act.put, List.setIfInBounds_toArray, List.set_cons_zero, List.set_cons_succ]
                  refine wpAnyH_done (by kernel_rfl) ?_ _
                  refine NoPanic.normal ?_
                  have HBD := Lib.hid (bl_drew (Below.refl w5.heap.size w5))
                  all_goals
                    go_wp2
                    go_roundw
                    case rel => exact ⟨i + 1, _, _, _, by have := HI.out.2; omega, by have := HI.out.1; omega, by go_num, Lib.hid (HW5.out.later HBD.out), Lib.hid (bl_step HB5.out HBD.out)⟩
                    case measure => have := HI.out.2; simp [intOf]; omega
              · have HWH := Lib.hid (xwhole_twice HXy.out hok hix his)
                generalize hst : (f + (c : Int)) % sz bits = st at *
                generalize hen : (f + (l.length : Int)) % sz bits = en at *
                clear hin hok hix his hk0 hst hen
                go_wp2_with (go_at_call 52; (with_reducible refine HWH.out.mono ?_); rintro e w5 ⟨rfl, hb5⟩; (have HB5 := Lib.hid hb5; have HS5 := Lib.hid (HRS.out.later HB5.out); clear hb5 d0 d1))
                refine wp_region_noPanic ?_
                refine wp_region_held_drew (S := fun W => Below w5.heap.size w5 W) (by kernel_rfl) (bl_drew (Below.refl _ _)) (fun hS => ?_)
                refine take_at 0 85 (v := ?vbWhole90) (by simp only [List.getElem?_toArray, List.getElem?_cons_zero]; rfl) rfl (by kernel_rfl) (by kernel_rfl) (by kernel_rfl) (fun _ _ _ h => h) (Or.inl ⟨by rfl, ?ybWhole90⟩) hS ?_
                case ybWhole90 =>
                  intro W hSW
                  (try dsimp only at hSW)
                  go_simp
                  first | done | with_reducible rfl
                simp only [Act.put, List.setIfInBounds_toArray, List.set_cons_zero, List.set_cons_succ]
                refine take_at 1 86 (v := ?vbWhole91) (by simp only [List.getElem?_toArray, List.getElem?_cons_succ, List.getElem?_cons_zero]; rfl) rfl (by kernel_rfl) (by kernel_rfl) (by kernel_rfl) (fun _ _ _ h => h) (Or.inl ⟨by rfl, ?ybWhole91⟩) hS ?_
                case ybWhole91 =>
                  intro W hSW
                  (try dsimp only at hSW)
                  go_simp
                  first | done | with_reducible rfl
                simp only [Act.put, List.setIfInBounds_toArray, List.set_cons_zero, List.set_cons_succ]
                refine take_at 2 87 (v := ?vbWhole92) (by simp only [List.getElem?_toArray, List.getElem?_cons_succ, List.getElem?_cons_zero]; rfl) rfl (by kernel_rfl) (by kernel_rfl) (by kernel_rfl) (fun _ _ _ h => h) (Or.inl ⟨by rfl, ?ybWhole92⟩) hS ?_
                case ybWhole92 =>
                  intro W hSW
                  (try dsimp only at hSW)
                  go_simp
                  first | done | with_reducible rfl
                simp only [Act.put, List.setIfInBounds_toArray, List.set_cons_zero, List.set_cons_succ]
                refine take_at 3 88 (v := ?vbWhole93) (by simp only [List.getElem?_toArray, List.getElem?_cons_succ, List.getElem?_cons_zero]; rfl) rfl (by kernel_rfl) (by kernel_rfl) (by kernel_rfl) (fun _ _ _ h => h) (Or.inl ⟨by rfl, ?ybWhole93⟩) hS ?_
                case ybWhole93 =>
                  intro W hSW
                  (try dsimp only at hSW)
                  go_simp
                  first | done | with_reducible rfl
                simp only [Act.put, List.setIfInBounds_toArray, List.set_cons_zero, List.set_cons_succ]
                refine take_at 4 89 (v := ?vbWhole94) (by simp only [List.getElem?_toArray, List.getElem?_cons_succ, List.getElem?_cons_zero]; rfl) rfl (by kernel_rfl) (by kernel_rfl) (by kernel_rfl) (fun _ _ _ h => h) (Or.inl ⟨by rfl, ?ybWhole94⟩) hS ?_
                case ybWhole94 =>
                  intro W hSW
                  (try dsimp only at hSW)
                  go_simp
                  first | done | with_reducible rfl
                simp only [Act.put, List.setIfInBounds_toArray, List.set_cons_zero, List.set_cons_succ]
                refine take_at 5 90 (v := ?vbWhole95) (by simp only [List.getElem?_toArray, List.getElem?_cons_succ, List.getElem?_cons_zero]; rfl) rfl (by kernel_rfl) (by kernel_rfl) (by kernel_rfl) (fun _ _ _ h => h) (Or.inl ⟨by rfl, ?ybWhole95⟩) hS ?_
                case ybWhole95 =>
                  intro W hSW
                  (try dsimp only at hSW)
                  go_simp
                  first | done | with_reducible rfl
                simp only [Act.put, List.setIfInBounds_toArray, List.set_cons_zero, List.set_cons_succ]
                refine take_at 6 91 (v := ?vbWhole96) (by simp only [List.getElem?_toArray, List.getElem?_cons_succ, List.getElem?_cons_zero]; rfl) rfl (by kernel_rfl) (by kernel_rfl) (by kernel_rfl) (fun _ _ _ h => h) (Or.inl ⟨by rfl, ?ybWhole96⟩) hS ?_
                case ybWhole96 =>
                  intro W hSW
                  (try dsimp only at hSW)
                  go_simp
                  first | done | with_reducible rfl
                simp only [Act.put, List.setIfInBounds_toArray, List.set_cons_zero, List.set_cons_succ]
                refine take_at 7 92 (v := ?vbWhole97) (by simp only [List.getElem?_toArray, List.getElem?_cons_succ, List.getElem?_cons_zero]; rfl) rfl (by kernel_rfl) (by kernel_rfl) (by kernel_rfl) (fun _ _ _ h => h) (Or.inl ⟨by rfl, ?ybWhole97⟩) hS ?_
                case ybWhole97 =>
                  intro W hSW
                  (try dsimp only at hSW)
                  go_simp
                  first | done | with_reducible rfl
                simp only [Act.put, List.setIfInBounds_toArray, List.set_cons_zero, List.set_cons_succ]
                refine take_at 8 93 (v := ?vbWhole98) (by simp only [List.getElem?_toArray, List.getElem?_cons_succ, List.getElem?_cons_zero]; rfl) rfl (by kernel_rfl) (by kernel_rfl) (by kernel_rfl) (fun _ _ _ h => h) (Or.inl ⟨by rfl, ?ybWhole98⟩) hS ?_
                case ybWhole98 =>
                  intro W hSW
                  (try dsimp only at hSW)
                  go_simp
                  first | done | with_reducible rfl
                simp only [Act.put, List.setIfInBounds_toArray, List.set_cons_zero, List.set_cons_succ]
                refine take_at 9 94 (v := ?vbWhole99) (by simp only [List.getElem?_toArray, List.getElem?_cons_succ, List.getElem?_cons_zero]; rfl) rfl (by kernel_rfl) (by kernel_rfl) (by kernel_rfl) (fun _ _ _ h => h) (Or.inl ⟨by rfl, ?ybWhole99⟩) hS ?_
                case ybWhole99 =>
                  intro W hSW
                  (try dsimp only at hSW)
                  go_simp
                  first | done | with_reducible rfl
                simp only [Act.put, List.setIfInBounds_toArray, List.set_cons_zero, List.set_cons_succ]
                refine take_at 10 95 (v := ?vbWhole910) (by simp only [List.getElem?_toArray, List.getElem?_cons_succ, List.getElem?_cons_zero]; rfl) rfl (by kernel_rfl) (by kernel_rfl) (by kernel_rfl) (fun _ _ _ h => h) (Or.inl ⟨by rfl, ?ybWhole910⟩) hS ?_
                case ybWhole910 =>
                  intro W hSW
                  (try dsimp only at hSW)
                  go_simp
                  first | done | with_reducible rfl
                simp only [Act.put, List.setIfInBounds_toArray, List.set_cons_zero, List.set_cons_succ]
                refine take_at 11 96 (v := ?vbWhole911) (by simp only [List.getElem?_toArray, List.getElem?_cons_succ, List.getElem?_cons_zero]; rfl) rfl (by kernel_rfl) (by kernel_rfl) (by kernel_rfl) (fun _ _ _ h => h) (Or.inl ⟨by rfl, ?ybWhole911⟩) hS ?_
                case ybWhole911 =>
                  intro W hSW
                  (try dsimp only at hSW)
                  go_simp
                  first | done | with_reducible rfl
                simp only [Act.put, List.setIfInBounds_toArray, List.set_cons_zero, List.set_cons_succ]
                refine take_at 12 97 (v := ?vbWhole912) (by simp only [List.getElem?_toArray, List.getElem?_cons_succ, List.getElem?_cons_zero]; rfl) rfl (by kernel_rfl) (by kernel_rfl) (by kernel_rfl) (fun _ _ _ h => h) (Or.inl ⟨by rfl, ?ybWhole912⟩) hS ?_
                case ybWhole912 =>
                  intro W hSW
                  (try dsimp only at hSW)
                  go_simp
                  first | done | with_reducible rfl
                simp only [Act.put, List.setIfInBounds_toArray, List.set_cons_zero, List.set_cons_succ]
                refine take_at 14 99 (v := ?vbWhole914) (by simp only [List.getElem?_toArray, List.getElem?_cons_succ, List.getElem?_cons_zero]; rfl) rfl (by kernel_rfl) (by kernel_rfl) (by kernel_rfl) (fun _ _ _ h => h) (Or.inl ⟨by rfl, ?ybWhole914⟩) hS ?_
                case ybWhole914 =>
                  intro W hSW
                  (try dsimp only at hSW)
                  obtain ⟨q0, q1, q2⟩ := arr_cells (HS5.out.later hSW)
                  go_simp
                  first | done | with_reducible rfl
                simp only [Act.put, List.setIfInBounds_toArray, List.set_cons_zero, List.set_cons_succ]
                refine wpAnyH_ready (rs := [13]) (by kernel_rfl) (by simp) ?_
                refine AllReadyH.cons rfl (fun K hK => ?_) AllReadyH.nil
                go_simp
                refine (HST2.out _ (bl_step HB5.out hS)).mono ?_
                rintro e w6 ⟨rfl, hb6⟩
                try go_simp
                refine hK.out _ _ (bl_step hS hb6) (fun hS => ?_)
                clear hK K
                try simp only [Act.put, List.setIfInBounds_toArray, List.set_cons_zero, List.set_cons_succ]
                have hBw6 : Below w5.heap.size w5 w6 := hS
                refine wpAnyH_more (S' := fun W => Below w6.heap.size w6 W) ?_ (fun _ h => bl_step hBw6 h)
                clear hS
                have hS : (fun W => Below w6.heap.size w6 W) w6 := Below.refl _ _
                refine take_at 15 100 (v := ?vbWhole915) (by simp only [List.getElem?_toArray, List.getElem?_cons_succ, List.getElem?_cons_zero]; rfl) rfl (by kernel_rfl) (by kernel_rfl) (by kernel_rfl) (fun _ _ _ h => h) (Or.inl ⟨by rfl, ?ybWhole915⟩) hS ?_
                case ybWhole915 =>
                  intro W hSW
                  (try dsimp only at hSW)
                  go_simp
                  first | done | with_reducible rfl
                simp only [Act.put, List.setIfInBounds_toArray, List.set_cons_zero, List.set_cons_succ]
                refine take_at 16 101 (v := ?vbWhole916) (by simp only [List.getElem?_toArray, List.getElem?_cons_succ, List.getElem?_cons_zero]; rfl) rfl (by kernel_rfl) (by kernel_rfl) (by kernel_rfl) (fun _ _ _ h => h) (Or.inl ⟨by rfl, ?ybWhole916⟩) hS ?_
                case ybWhole916 =>
                  intro W hSW
                  (try dsimp only at hSW)
                  go_simp
                  first | done | with_reducible rfl
                simp only [Act.put, List.setIfInBounds_toArray, List.set_cons_zero, List.set_cons_succ]
                refine take_at 17 102 (v := ?vbWhole917) (by simp only [List.getElem?_toArray, List.getElem?_cons_succ, List.getElem?_cons_zero]; rfl) rfl (by kernel_rfl) (by kernel_rfl) (by kernel_rfl) (fun _ _ _ h => h) (Or.inl ⟨by rfl, ?ybWhole917⟩) hS ?_
                case ybWhole917 =>
                  intro W hSW
                  (try dsimp only at hSW)
                  go_simp
                  first | done | with_reducible rfl
                simp only [Act.put, List.setIfInBounds_toArray, List.set_cons_zero, List.set_cons_succ]
                refine take_at 18 103 (v := ?vbWhole918) (by simp only [List.getElem?_toArray, List.getElem?_cons_succ, List.getElem?_cons_zero]; rfl) rfl (by kernel_rfl) (by kernel_rfl) (by kernel_rfl) (fun _ _ _ h => h) (Or.inl ⟨by rfl, ?ybWhole918⟩) hS ?_
                case ybWhole918 =>
                  intro W hSW
                  (try dsimp only at hSW)
                  go_simp
                  first | done | with_reducible rfl
                simp only [Act.put, List.setIfInBounds_toArray, List.set_cons_zero, List.set_cons_succ]
                refine take_at 19 104 (v := ?vbWhole919) (by simp only [List.getElem?_toArray, List.getElem?_cons_succ, List.getElem?_cons_zero]; rfl) rfl (by kernel_rfl) (by kernel_rfl) (by kernel_rfl) (fun _ _ _ h => h) (Or.inl ⟨by rfl, ?ybWhole919⟩) hS ?_
                case ybWhole919 =>
                  intro W hSW
                  (try dsimp only at hSW)
                  go_simp
                  first | done | with_reducible rfl
                simp only [Act.put, List.setIfInBounds_toArray, List.set_cons_zero, List.set_cons_succ]
                refine take_at 20 105 (v := ?vbWhole920) (by simp only [List.getElem?_toArray, List.getElem?_cons_succ, List.getElem?_cons_zero]; rfl) rfl (by kernel_rfl) (by kernel_rfl) (by kernel_rfl) (fun _ _ _ h => h) (Or.inl ⟨by rfl, ?ybWhole920⟩) hS ?_
                case ybWhole920 =>
                  intro W hSW
                  (try dsimp only at hSW)
                  go_simp
                  first | done | with_reducible rfl
                simp only [Act.put, List.setIfInBounds_toArray, List.set_cons_zero, List.set_cons_succ]
                refine take_at 21 106 (v := ?vbWhole921) (by simp only [List.getElem?_toArray, List.getElem?_cons_succ, List.getElem?_cons_zero]; rfl) rfl (by kernel_rfl) (by kernel_rfl) (by kernel_rfl) (fun _ _ _ h => h) (Or.inl ⟨by rfl, ?ybWhole921⟩) hS ?_
                case ybWhole921 =>
                  intro W hSW
                  (try dsimp only at hSW)
                  go_simp
                  first | done | with_reducible rfl
                simp only [Act.put, List.setIfInBounds_toArray, List.set_cons_zero, List.set_cons_succ]
                refine take_at 22 107 (v := ?vbWhole922) (by simp only [List.getElem?_toArray, List.getElem?_cons_succ, List.getElem?_cons_zero]; rfl) rfl (by kernel_rfl) (by kernel_rfl) (by kernel_rfl) (fun _ _ _ h => h) (Or.inl ⟨by rfl, ?ybWhole922⟩) hS ?_
                case ybWhole922 =>
                  intro W hSW
                  (try dsimp only at hSW)
                  go_simp
                  first | done | with_reducible rfl
                simp only [Act.put, List.setIfInBounds_toArray, List.set_cons_zero, List.set_cons_succ]
                refine take_at 23 108 (v := ?vbWhole923) (by simp only [List.getElem?_toArray, List.getElem?_cons_succ, List.getElem?_cons_zero]; rfl) rfl (by kernel_rfl) (by kernel_rfl) (by kernel_rfl) (fun _ _ _ h => h) (Or.inl ⟨by rfl, ?ybWhole923⟩) hS ?_
                case ybWhole923 =>
                  intro W hSW
                  (try dsimp only at hSW)
                  go_simp
                  first | done | with_reducible rfl
                simp only [Act.put, List.setIfInBounds_toArray, List.set_cons_zero, List.set_cons_succ]
                refine take_at 24 109 (v := ?vbWhole924) (by simp only [List.getElem?_toArray, List.getElem?_cons_succ, List.getElem?_cons_zero]; rfl) rfl (by kernel_rfl) (by kernel_rfl) (by kernel_rfl) (fun _ _ _ h => h) (Or.inl ⟨by rfl, ?ybWhole924⟩) hS ?_
                case ybWhole924 =>
                  intro W hSW
                  (try dsimp only at hSW)
                  go_simp
                  first | done | with_reducible rfl
                simp only [Act.put, List.setIfInBounds_toArray, List.set_cons_zero, List.set_cons_succ]
                refine take_at 25 110 (v := ?vbWhole925) (by simp only [List.getElem?_toArray, List.getElem?_cons_succ, List.getElem?_cons_zero]; rfl) rfl (by kernel_rfl) (by kernel_rfl) (by kernel_rfl) (fun _ _ _ h => h) (Or.inl ⟨by rfl, ?ybWhole925⟩) hS ?_
                case ybWhole925 =>
                  intro W hSW
                  (try dsimp only at hSW)
                  go_simp
                  first | done | with_reducible rfl
                simp only [Act.put, List.setIfInBounds_toArray, List.set_cons_zero, List.set_cons_succ]
                refine take_at 26 111 (v := ?vbWhole926) (by simp only [List.getElem?_toArray, List.getElem?_cons_succ, List.getElem?_cons_zero]; rfl) rfl (by kernel_rfl) (by kernel_rfl) (by kernel_rfl) (fun _ _ _ h => h) (Or.inl ⟨by rfl, ?ybWhole926⟩) hS ?_
                case ybWhole926 =>
                  intro W hSW
                  (try dsimp only at hSW)
                  go_simp
                  first | done | with_reducible rfl
                simp only [Act.put, List.setIfInBounds_toArray, List.set_cons_zero, List.set_cons_succ]
                refine take_at 27 112 (v := undef) (by simp only [List.getElem?_toArray, List.getElem?_cons_succ, List.getElem?_cons_zero]; rfl) rfl (by kernel_rfl) (by kernel_rfl) (by kernel_rfl) (fun _ _ _ h => h) (Or.inr ⟨by rfl, rfl⟩) hS ?_
                simp only [Act.put, List.setIfInBounds_toArray, List.set_cons_zero, List.set_cons_succ]
                refine take_at 28 113 (v := undef) (by simp only [List.getElem?_toArray, List.getElem?_cons_succ, List.getElem?_cons_zero]; rfl) rfl (by kernel_rfl) (by kernel_rfl) (by kernel_rfl) (fun _ _ _ h => h) (Or.inr ⟨by rfl, rfl⟩) hS ?_
                simp only [Act.put, List.setIfInBounds_toArray, List.set_cons_zero, List.set_cons_succ]
                refine take_at 29 114 (v := undef) (by simp only [List.getElem?_toArray, List.getElem?_cons_succ, List.getElem?_cons_zero]; rfl) rfl (by kernel_rfl) (by kernel_rfl) (by kernel_rfl) (fun _ _ _ h => h) (Or.inr ⟨by rfl, rfl⟩) hS ?_
                simp only [Act.put, List.setIfInBounds_toArray, List.set_cons_zero, List.set_cons_succ]
                refine take_at 30 115 (v := ?vbWhole930) (by simp only [List.getElem?_toArray, List.getElem?_cons_succ, List.getElem?_cons_zero]; rfl) rfl (by kernel_rfl) (by kernel_rfl) (by kernel_rfl) (fun _ _ _ h => h) (Or.inl ⟨by rfl, ?ybWhole930⟩) hS ?_
                case ybWhole930 =>
                  intro W hSW
                  (try dsimp only at hSW)
                  go_simp
                  first | done | with_reducible rfl
                simp only [Act.put, List.setIfInBounds_toArray, List.set_cons_zero, List.set_cons_succ]
                refine take_at 31 116 (v := ?vbWhole931) (by simp only [List.getElem?_toArray, List.getElem?_cons_succ, List.getElem?_cons_zero]; rfl) rfl (by kernel_rfl) (by kernel_rfl) (by kernel_rfl) (fun _ _ _ h => h) (Or.inl ⟨by rfl, ?ybWhole931⟩) hS ?_
                case ybWhole931 =>
                  intro W hSW
                  (try dsimp only at hSW)
                  go_simp
                  first | done | with_reducible rfl
                simp only [Act.put, List.setIfInBounds_toArray, List.set_cons_zero, List.set_cons_succ]
                refine take_at 32 117 (v := undef) (by simp only [List.getElem?_toArray, List.getElem?_cons_succ, List.getElem?_cons_zero]; rfl) rfl (by kernel_rfl) (by kernel_rfl) (by kernel_rfl) (fun _ _ _ h => h) (Or.inr ⟨by rfl, rfl⟩) hS ?_
                simp only [Act.put, List.setIfInBounds_toArray, List.set_cons_zero, List.set_cons_succ]
                refine take_at 33 118 (v := undef) (by simp only [List.getElem?_toArray, List.getElem?_cons_succ, List.getElem?_cons_zero]; rfl) rfl (by kernel_rfl) (by kernel_rfl) (by kernel_rfl) (fun _ _ _ h => h) (Or.inr ⟨by rfl, rfl⟩) hS ?_
                simp only [Act.put, List.setIfInBounds_toArray, List.set_cons_zero, List.set_cons_succ]
                refine take_at 34 119 (v := undef) (by simp only [List.getElem?_toArray, List.getElem?_cons_succ, List.getElem?_cons_zero]; rfl) rfl (by kernel_rfl) (by kernel_rfl) (by kernel_rfl) (fun _ _ _ h => h) (Or.inr ⟨by rfl, rfl⟩) hS ?_
                simp only [Act.put, List.setIfInBounds_toArray, List.set_cons_zero, List.set_cons_succ]
                refine take_at 35 120 (v := undef) (by simp only [List.getElem?_toArray, List.getElem?_cons_succ, List.getElem?_cons_zero]; rfl) rfl (by kernel_rfl) (by kernel_rfl) (by kernel_rfl) (fun _ _ _ h => h) (Or.inr ⟨by rfl, rfl⟩) hS ?_
                simp only [Act.put, List.setIfInBounds_toArray, List.set_cons_zero, List.set_cons_succ]
                refine take_at 36 121 (v := undef) (by simp only [List.getElem?_toArray, List.getElem?_cons_succ, List.getElem?_cons_zero]; rfl) rfl (by kernel_rfl) (by kernel_rfl) (by kernel_rfl) (fun _ _ _ h => h) (Or.inr ⟨by rfl, rfl⟩) hS ?_
                simp only [Act.put, List.setIfInBounds_toArray, List.set_cons_zero, List.set_cons_succ]
                refine take_at 37 122 (v := undef) (by simp only [List.getElem?_toArray, List.getElem?_cons_succ, List.getElem?_cons_zero]; rfl) rfl (by kernel_rfl) (by kernel_rfl) (by kernel_rfl) (fun _ _ _ h => h) (Or.inr ⟨by rfl, rfl⟩) hS ?_
                simp only [Act.put, List.setIfInBounds_toArray, List.set_cons_zero, List.set_cons_succ]
                refine take_at 38 123 (v := ?vbWhole938) (by simp only [List.getElem?_toArray, List.getElem?_cons_succ, List.getElem?_cons_zero]; rfl) rfl (by kernel_rfl) (by kernel_rfl) (by kernel_rfl) (fun _ _ _ h => h) (Or.inl ⟨by rfl, ?ybWhole938⟩) hS ?_
                case ybWhole938 =>
                  intro W hSW
                  (try dsimp only at hSW)
                  go_simp
                  first | done | with_reducible rfl
                simp only [Act.put, List.setIfInBounds_toArray, List.set_cons_zero, List.set_cons_succ]
                refine take_at 39 124 (v := ?vbWhole939) (by simp only [List.getElem?_toArray, List.getElem?_cons_succ, List.getElem?_cons_zero]; rfl) rfl (by kernel_rfl) (by kernel_rfl) (by kernel_rfl) (fun _ _ _ h => h) (Or.inl ⟨by rfl, ?ybWhole939⟩) hS ?_
                case ybWhole939 =>
                  intro W hSW
                  (try dsimp only at hSW)
                  go_simp
                  first | done | with_reducible rfl
                simp only [Act.put, List.setIfInBounds_toArray, List.set_cons_zero, List.set_cons_succ]
                refine wpAnyH_done (by kernel_rfl) ?_ _
                refine NoPanic.normal ?_
                have HB6 := Lib.hid (bl_step HB5.out hBw6)
                have d0 := (HOy.out.later HB6.out).read (i := 0) (x := .int .i64 1) rfl
                all_goals
                  go_wp2
                  go_roundw
                  case rel => exact ⟨i + 1, f, c, l, by have := HI.out.2; omega, by have := HI.out.1; omega, by go_num, Lib.hid (HXy.out.later HB6.out), Lib.hid (bl_step HWy.out HB6.out)⟩
                  case measure => have := HI.out.2; simp [intOf]; omega
            · have e0 : (kd == 0) = false := by simpa using hk0
              have e1 : (kd == 1) = false := by simpa using hk1
              all_goals
                go_wp2
                go_roundw
                case rel => exact ⟨i + 1, f, c, l, by have := HI.out.2; omega, by have := HI.out.1; omega, by go_num, Lib.hid (HXy.out), Lib.hid (HWy.out)⟩
                case measure => have := HI.out.2; simp [intOf]; omega
    · rcases Nat.lt_or_ge i n0 with hc | hc
      all_goals
        first
          | (have hi1 : (i : Int) < n0 := (by omega); have hi2 : ¬ (i : Int) < 100 := (by omega))
          | (have hi1 : ¬ (i : Int) < n0 := (by omega))
        clear hlt hc hi hin
        go_wp2_with (go_at_call 50; (with_reducible refine (HA.out _).mono ?_); rintro e w2 ⟨rfl, hb⟩; (have HB2 := Lib.hid (bl_step HWr.out hb); clear hb))
        go_ret
        exact ⟨rfl, HB2.out⟩
theorem xfar_every (A0 : Option Addr) (n0 c0 : Nat) (bits size : Int) (l0 : List (Int × Int)) (W : World) (hl0 : l0.length = n0) (hm0 : n0 ≤ 9223372036854775807) (hs0 : OpSrc W A0 l0) :
    Calls Try.prog 8 #[.int .i64 bits, .int .i64 size, .slice A0 n0 c0] W fun e w' => e = .returned (.bool true) ∧ Below W.heap.size W w' := by
  rcases sz_lt (b := bits) (size := size) with h | h | ⟨ht, h1, h2⟩
  · exact xfar_no A0 n0 c0 bits size W (.inl h)
  · exact xfar_no A0 n0 c0 bits size W (.inr h)
  · exact xfar_ok A0 n0 c0 bits size l0 W hl0 hm0 hs0 ht h1 h2
end
end Go.Proofs.Ytgdpjaojlhdhdaa
