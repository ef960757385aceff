/-
  RxwinOnce: the walk.
-/
import Derived.Test.YtgdpjaojlhdhdaaJRxwinOnce04
import Derived.Deep.DeepCutAuto
import Derived.Deep.CutBlock
import Derived.OpenShut
namespace Go.Proofs.Ytgdpjaojlhdhdaa
open Go.RowKit Go.Maps

section
variable {w v : World} {x m k c : Nat} {b size f st n : Int} {l r : List Bool} {p : Int → Bool}
theorem RX.far_c (h : RX w x m b size f c l) : Calls Try.prog 55 #[.pointer (some ⟨x, 0, none⟩), .int .i64 ((f + (c : Int)) % sz b)] w fun e w' => e = .returned (.int .i64 c) ∧ Below w.heap.size w w' := by
  have h1 := xfar_any h.mem ((f + (c : Int)) % sz b)
  rw [h.stat_far] at h1
  exact h1
theorem RX.far_l (h : RX w x m b size f c l) : Calls Try.prog 55 #[.pointer (some ⟨x, 0, none⟩), .int .i64 ((f + (l.length : Int)) % sz b)] w fun e w' => e = .returned (.int .i64 l.length) ∧ Below w.heap.size w w' := by
  have h1 := xfar_any h.mem ((f + (l.length : Int)) % sz b)
  rw [end_farx h.mem] at h1
  exact h1
theorem RX.is_f (h : RX w x m b size f c l) : Calls Try.prog 56 #[.pointer (some ⟨x, 0, none⟩), .int .i64 f] w fun e w' => e = .returned (.bool false) ∧ Below w.heap.size w w' := by
  have h1 := xis_any h.mem (okn_wf h.mem.hf)
  rw [ak_first, h.h0, Bool.and_false] at h1
  exact h1
theorem RX.is_j (h : RX w x m b size f c l) {j : Nat} (hj : j < c) (hv : l.getD j false = false) (hu : n = (f + (j : Int)) % sz b) : Calls Try.prog 56 #[.pointer (some ⟨x, 0, none⟩), .int .i64 n] w fun e w' => e = .returned (.bool false) ∧ Below w.heap.size w w' := by
  subst hu
  have h1 := xis_any (n := (f + (j : Int)) % sz b) h.mem (okn_wf (okn_mod h.mem.rt _))
  have h2 := h.hc
  have h3 := h.mem.hl
  rw [ak_at h.mem (by omega), hv, Bool.and_false] at h1
  exact h1
theorem RX.far_j (h : RX w x m b size f c l) {j : Nat} (hj : j < c) (hu : n = (f + (j : Int)) % sz b) : Calls Try.prog 55 #[.pointer (some ⟨x, 0, none⟩), .int .i64 n] w fun e w' => e = .returned (.int .i64 j) ∧ Below w.heap.size w w' := by
  subst hu
  have h1 := xfar_any h.mem ((f + (j : Int)) % sz b)
  have h2 := h.hc
  have h3 := h.mem.hl
  have h4 := h.mem.hs2
  have h5 := h.mem.pos
  rw [farx_at h.mem.rt (by omega)] at h1
  exact h1
theorem RX.in_j (h : RX w x m b size f c l) {j : Nat} (hj : j < c) (hu : n = (f + (j : Int)) % sz b) : Calls Try.prog 58 #[.pointer (some ⟨x, 0, none⟩), .int .i64 n] w fun e w' => e = .returned (.bool true) ∧ Below w.heap.size w w' := by
  subst hu
  have h1 := xin_any h.mem ((f + (j : Int)) % sz b)
  have h2 := h.hc
  have h3 := h.mem.hl
  rw [inx_ix (okn_mod h.mem.rt _), sz_ix h.mem (by omega), decide_eq_true (by omega)] at h1
  exact h1
theorem half_sz {bits : Int} (ht : rt bits = true) : (2 : Int) ^ (bits - 1).toNat = sz bits / 2 := by
  obtain ⟨h1, h2⟩ := rt_true ht
  have e : sz bits = 2 ^ bits.toNat := by unfold sz; rw [if_pos ht]
  rw [e]
  obtain ⟨k, rfl⟩ : ∃ k : Nat, bits = k + 1 := ⟨(bits - 1).toNat, by omega⟩
  rw [show ((k : Int) + 1 - 1).toNat = k by omega, show ((k : Int) + 1).toNat = k + 1 by omega, Int.pow_succ]
  omega
set_option maxRecDepth 100000 in
set_option maxHeartbeats 3200000 in
theorem xonce_no (A0 : Option Addr) (n0 c0 : Nat) (bits size : Int) (W : World) (hw : (Lit.int .i64 bits).wf = true) (h : size < 1 ∨ sz bits / 2 < size) : Calls Try.prog 7 #[.int .i64 bits, .int .i64 size, .slice A0 n0 c0] W fun e w' => e = .returned (.bool true) ∧ Below W.heap.size W w' := by
  have HN := Lib.hid (xnew_bad bits size W h)
  have HA := Lib.hid xalive_any
  have hbd := Go.bounds_i64 hw
  by_cases h1 : bits < 1
  · clear h
    go_enter Try.func7, Try.ntmps7
    go_wp2_with (first
      | (go_at_call 49; (with_reducible refine HN.out.mono ?_); rintro e w1 ⟨rfl, hb⟩; (have HB1 := Lib.hid hb; clear hb))
      | (go_at_call 50; (with_reducible refine (HA.out _).mono ?_); rintro e w2 ⟨rfl, hb⟩; (have HB2 := Lib.hid (bl_step HB1.out hb); clear hb)))
    go_ret
    exact ⟨rfl, HB2.out⟩
  · by_cases h2 : 16 < bits
    · clear h
      go_enter Try.func7, Try.ntmps7
      go_wp2_with (first
        | (go_at_call 49; (with_reducible refine HN.out.mono ?_); rintro e w1 ⟨rfl, hb⟩; (have HB1 := Lib.hid hb; clear hb))
        | (go_at_call 50; (with_reducible refine (HA.out _).mono ?_); rintro e w2 ⟨rfl, hb⟩; (have HB2 := Lib.hid (bl_step HB1.out hb); clear hb)))
      go_ret
      exact ⟨rfl, HB2.out⟩
    · by_cases h3 : size < 1
      · clear h
        go_enter Try.func7, Try.ntmps7
        go_wp2_with (first
          | (go_at_call 49; (with_reducible refine HN.out.mono ?_); rintro e w1 ⟨rfl, hb⟩; (have HB1 := Lib.hid hb; clear hb))
          | (go_at_call 50; (with_reducible refine (HA.out _).mono ?_); rintro e w2 ⟨rfl, hb⟩; (have HB2 := Lib.hid (bl_step HB1.out hb); clear hb)))
        go_ret
        exact ⟨rfl, HB2.out⟩
      · have ht : rt bits = true := by unfold rt; exact decide_eq_true (by omega)
        have hz := rt_pos ht
        have hs : wrap64 (2 ^ (bits.toNat - 1)) = sz bits / 2 := by
          rw [show bits.toNat - 1 = (bits - 1).toNat by omega, half_sz ht]
          exact IntWalk.wrap64_in _ ⟨by omega, by omega⟩
        have h4 : sz bits / 2 < size := by omega
        generalize sz bits / 2 = hf at *
        clear h ht hz
        go_enter Try.func7, Try.ntmps7
        go_wp2_with (first
          | (go_at_call 49; (with_reducible refine HN.out.mono ?_); rintro e w1 ⟨rfl, hb⟩; (have HB1 := Lib.hid hb; clear hb))
          | (go_at_call 50; (with_reducible refine (HA.out _).mono ?_); rintro e w2 ⟨rfl, hb⟩; (have HB2 := Lib.hid (bl_step HB1.out hb); clear hb)))
        go_ret
        exact ⟨rfl, HB2.out⟩
set_option maxRecDepth 100000 in
set_option maxHeartbeats 25600000 in
theorem xonce_ok (A0 : Option Addr) (n0 c0 : Nat) (bits size : Int) (l0 : List (Int × Int)) (W : World) (hl0 : l0.length = n0) (hm0 : n0 ≤ 9223372036854775807) (hs0 : OpSrc W A0 l0) (ht : rt bits = true) (h1 : 1 ≤ size) (h2 : size ≤ sz bits / 2) :
    Calls Try.prog 7 #[.int .i64 bits, .int .i64 size, .slice A0 n0 c0] W fun e w' => e = .returned (.bool true) ∧ Below W.heap.size W w' := by
  have HN := Lib.hid (xnew_ok bits size W ht h1 h2)
  have HA := Lib.hid xalive_any
  have HS0 := Lib.hid hs0
  have HL0 := Lib.hid hl0
  obtain ⟨hb1, hb2⟩ := rt_true ht
  have hs : wrap64 (2 ^ bits.toNat) = sz bits := by
    have e : sz bits = 2 ^ bits.toNat := by unfold sz; rw [if_pos ht]
    rw [← e]
    have := rt_pos ht
    exact IntWalk.wrap64_in _ ⟨by omega, by omega⟩
  obtain ⟨hz1, hz2⟩ := rt_pos ht
  clear hs0 hl0 ht
  go_enter Try.func7, Try.ntmps7
  go_wp2_with (first
    | (go_at_call 49; (with_reducible refine HN.out.mono ?_); rintro e w1 ⟨x, m, rfl, hw, hb, hx, hm⟩; (have HB1 := Lib.hid hb; have HW1 := Lib.hid hw; have HX := Lib.hid (And.intro hx hm); clear hw hb hx hm)))
  go_loopw [9, 10] (fun s9 s10 wr => ∃ (i : Nat) (f : Int) (c : Nat) (l : List Bool), i ≤ 150 ∧ i ≤ n0 ∧ s9 = .int .i64 f ∧ s10 = .int .i64 i ∧ Hid (RX wr x m bits size f c l) ∧ Hid (Below W.heap.size W wr)) (fun _ s10 _ => 150 - (intOf s10).toNat)
  case atStart => exact ⟨0, 0, 0, [], by omega, by omega, rfl, rfl, HW1, HB1⟩
  case round =>
    obtain ⟨i, f, c, l, hi, hin, rfl, rfl, HXr, HWr⟩ := hrel
    by_cases hlt : i < n0 ∧ i < 150
    · obtain ⟨hlt1, hlt2⟩ := hlt
      have hi1 : (i : Int) < n0 := by omega
      have hi2 : (i : Int) < 150 := by omega
      have hi0 : (0 : Int) ≤ i := by omega
      have HI := Lib.hid (And.intro hlt1 hlt2)
      obtain ⟨o, ho⟩ : ∃ o, l0[i]? = some o := ⟨_, List.getElem?_eq_getElem (by rw [HL0.out]; exact hlt1)⟩
      obtain ⟨bq, off, rfl, hq⟩ := HS0.out (by rw [HL0.out]; omega)
      obtain ⟨q0, q1, q2⟩ := hq i o ho
      have z0 := kept_box HWr.out q0
      have z1 := kept_box HWr.out q1
      obtain ⟨kd, nn⟩ := o
      simp only at z0 z1 q2
      have HOB := Lib.hid (Row.made wr 83 #[.int .i64 kd, .int .i64 nn])
      have HXo := Lib.hid (HXr.out.later (bl_alloc (Below.refl _ _) (.cells #[.int .i64 kd, .int .i64 nn] 83)))
      have HWo := Lib.hid (bl_alloc HWr.out (.cells #[.int .i64 kd, .int .i64 nn] 83))
      clear ho hq q0 q1 q2 hlt1 hlt2 hi hin
      go_upto_region 9 with fail
      generalize hQ : (wr.alloc (.cells #[.int .i64 kd, .int .i64 nn] 83)) = wq at *
      clear hQ
      generalize hOO : wr.heap.size = oo at *
      clear hOO z0 z1
      have d0 := HOB.out.read (i := 0) (x := .int .i64 kd) rfl
      have d1 := HOB.out.read (i := 1) (x := .int .i64 nn) rfl
      go_upto_block 2 with fail
      go_cut [9] (fun s9 wx => ∃ (wy : World) (f' : Int) (c' : Nat) (l' : List Bool), wy = wx ∧ s9 = .int .i64 f' ∧ Hid (RX wy x m bits size f' c' l') ∧ Hid (Below W.heap.size W wy))
      case first =>
        rcases Classical.em (kd = 0) with hk0 | hk0
        · subst hk0
          have HC := Lib.hid (xcame_both HXo.out nn)
          go_wp2_with (go_at_call 51; (with_reducible refine HC.out.mono ?_); rintro e w5 ⟨q, l', rfl, hw5, ho5⟩; (have HW5 := Lib.hid hw5; have HB5 := Lib.hid (HWo.out.trans (ho5.below HWo.out.size (XM_new HX.out))); clear hw5 ho5))
          go_meet
          exact ⟨_, f, c, l', rfl, rfl, HW5, HB5⟩
        · have e0 : (kd == 0) = false := by simpa using hk0
          rcases Classical.em (kd = 1) with hk1 | hk1
          · subst hk1
            have HC := Lib.hid (xwhole_both HXo.out nn)
            have HF0 := Lib.hid (f_zero HXo.out)
            go_wp2_with (go_at_call 52; (with_reducible refine HC.out.mono ?_); rintro e w5 ⟨A5, j, q, c', l', rfl, hj, ha5, hw5, ho5⟩; (have HW5 := Lib.hid hw5; have HB5 := Lib.hid (HWo.out.trans (ho5.below HWo.out.size (XM_new HX.out))); have HA5 := Lib.hid ha5; clear hw5 ho5 ha5))
            go_loopw [9, 14] (fun s9 s14 wx => ∃ (k : Nat) (fk : Int), k ≤ j ∧ s14 = .int .i64 k ∧ s9 = .int .i64 fk ∧ Hid (fk = (f + (k : Int)) % sz bits) ∧ Hid (Below w5.heap.size w5 wx)) (fun _ s14 _ => j - (intOf s14).toNat)
            case atStart => exact ⟨0, f, by omega, rfl, rfl, Lib.hid HF0.out.symm, Lib.hid (Below.refl _ _)⟩
            case round =>
              obtain ⟨k, fk, hk, rfl, rfl, HFK, HBx⟩ := hrel
              by_cases hlt : k < j
              · have hlti : (k : Int) < j := by omega
                have hk0 : (0 : Int) ≤ k := by omega
                obtain ⟨g5, rfl, hc5⟩ := (HA5.out.later HBx.out).cell (i := k) (u := .int .i64 fk) (by unfold ints past; rw [List.getElem?_map, List.getElem?_map, List.getElem?_range hlt, HFK.out]; rfl)
                have hfk : (0 : Int) ≤ fk ∧ fk < sz bits := by rw [HFK.out]; exact ⟨Int.emod_nonneg _ (by omega), Int.emod_lt_of_pos _ (by omega)⟩
                obtain ⟨hfk1, hfk2⟩ := hfk
                have HFN := Lib.hid (show (fk + 1) % sz bits = (f + ((k + 1 : Nat) : Int)) % sz bits by rw [HFK.out, Int.emod_add_emod, show f + (k : Int) + 1 = f + ((k + 1 : Nat) : Int) by omega])
                go_wp2
                go_roundw
                case rel => exact ⟨k + 1, (fk + 1) % sz bits, by omega, by go_num, by first | rfl | (rw [hs]), HFN, HBx⟩
                case measure => simp [intOf]; omega
              · have hlti : ¬ (k : Int) < j := by omega
                obtain rfl : k = j := by omega
                go_wp2
                go_meet
                exact ⟨_, fk, c', l', rfl, rfl, Lib.hid (by rw [HFK.out]; exact HW5.out.later HBx.out), Lib.hid (bl_step HB5.out HBx.out)⟩
          · have e1 : (kd == 1) = false := by simpa using hk1
            rcases Classical.em (kd = 2) with hk2 | hk2
            · subst hk2
              have HC := Lib.hid (xlate_both HXo.out nn)
              go_wp2_with (go_at_call 53; (with_reducible refine HC.out.mono ?_); rintro e w5 ⟨q, c', rfl, hw5, ho5⟩; (have HW5 := Lib.hid hw5; have HB5 := Lib.hid (HWo.out.trans (ho5.below HWo.out.size (XM_new HX.out))); clear hw5 ho5))
              go_meet
              exact ⟨_, f, c', l, rfl, rfl, HW5, HB5⟩
            · have e2 : (kd == 2) = false := by simpa using hk2
              go_wp2
              go_meet
              exact ⟨_, f, c, l, rfl, rfl, HXo, HWo⟩
      case rest =>
        obtain ⟨wy, f', c', l', hwy, rfl, HXy, HWy⟩ := hcut
        subst hwy
        have HST := Lib.hid (xstate_any HXy.out.mem.row)
        have hcl : c' ≤ l'.length := HXy.out.hc
        have hll : (l'.length : Int) ≤ size := HXy.out.mem.hl
        clear HXo HWo HXr HWr HOB d0 d1
        go_upto_region 23 with (go_at_call 54; (with_reducible refine HST.out.mono ?_); rintro e w6 ⟨rfl, hb6⟩; (have HB6 := Lib.hid hb6; clear hb6))
        have HRZ := Lib.hid (Row.made w6 88 #[.int .i64 f', .int .i64 ((f' + (c' : Int)) % sz bits), .int .i64 ((f' + (l'.length : Int)) % sz bits)])
        have HBz := Lib.hid (bl_alloc HB6.out (.cells #[.int .i64 f', .int .i64 ((f' + (c' : Int)) % sz bits), .int .i64 ((f' + (l'.length : Int)) % sz bits)] 88))
        generalize hZ : w6.alloc (.cells #[.int .i64 f', .int .i64 ((f' + (c' : Int)) % sz bits), .int .i64 ((f' + (l'.length : Int)) % sz bits)] 88) = wz at *
        generalize hSB : w6.heap.size = sb at *
        clear hZ hSB
        have HXz := Lib.hid (HXy.out.later HBz.out)
        have HFC := Lib.hid (fun v (hb : Below wz.heap.size wz v) => (HXz.out.later hb).far_c)
        have HFL := Lib.hid (fun v (hb : Below wz.heap.size wz v) => (HXz.out.later hb).far_l)
        have HIS := Lib.hid (fun v (hb : Below wz.heap.size wz v) => (HXz.out.later hb).is_f)
        have HMI := Lib.hid (fun v (hb : Below wz.heap.size wz v) => xmissing_any (HXz.out.later hb))
        have HML := Lib.hid (miss_le (N := sz bits) (f := f') (l := l') (k := c'))
        have HMA := Lib.hid (fun q u => miss_at (N := sz bits) (f := f') (l := l') (k := c') (q := q) (v := u))
        have HMR := Lib.hid (fun q u v => miss_rise (N := sz bits) (f := f') (l := l') (k := c') (q := q) (u := u) (v := v))
        have HVI := Lib.hid (fun (j : Nat) (hj : j < c') (hv : l'.getD j false = false) (u : Int) (hu : u = (f' + (j : Int)) % sz bits) v (hb : Below wz.heap.size wz v) => (HXz.out.later hb).is_j hj hv hu)
        have HVF := Lib.hid (fun (j : Nat) (hj : j < c') (u : Int) (hu : u = (f' + (j : Int)) % sz bits) v (hb : Below wz.heap.size wz v) => (HXz.out.later hb).far_j hj hu)
        have HVN := Lib.hid (fun (j : Nat) (hj : j < c') (u : Int) (hu : u = (f' + (j : Int)) % sz bits) v (hb : Below wz.heap.size wz v) => (HXz.out.later hb).in_j hj hu)
        have hcb : c' ≤ 40000 := by have := HXz.out.mem.hs2; omega
        generalize hst : (f' + (c' : Int)) % sz bits = st at *
        generalize hen : (f' + (l'.length : Int)) % sz bits = en at *
        generalize hml : miss (sz bits) f' l' c' = M at *
        generalize hL : l'.length = L at *
        have hLc : ¬ ((L : Int) < (c' : Int)) := by omega
        have hLs : ¬ (size < (L : Int)) := by omega
        have hff : (f' != f') = false := by simp
        have HCB := Lib.hid hcb
        clear hst hen hml hL hcl hll hcb hs h1 h2 hb1 hb2 hz1 hz2 hm0
        refine wp_region_noPanic ?_
        refine wp_region_held_drew (S := fun W => Below wz.heap.size wz W) (by kernel_rfl) (bl_drew (Below.refl _ _)) (fun hS => ?_)
        refine take_at 0 106 (v := ?vt0) (by simp only [List.getElem?_toArray, List.getElem?_cons_zero]; rfl) rfl (by kernel_rfl) (by kernel_rfl) (by kernel_rfl) (fun _ _ _ h => h) (Or.inl ⟨by rfl, ?yt0⟩) hS ?_
        case yt0 =>
          intro W hSW
          (try dsimp only at hSW)
          go_simp
          first | done | with_reducible rfl
        simp only [Act.put, List.setIfInBounds_toArray, List.set_cons_zero, List.set_cons_succ]
        refine take_at 1 107 (v := ?vt1) (by simp only [List.getElem?_toArray, List.getElem?_cons_succ, List.getElem?_cons_zero]; rfl) rfl (by kernel_rfl) (by kernel_rfl) (by kernel_rfl) (fun _ _ _ h => h) (Or.inl ⟨by rfl, ?yt1⟩) hS ?_
        case yt1 =>
          intro W hSW
          (try dsimp only at hSW)
          first | have qq := arr_cells (HRZ.out.later hSW) | have qq := arr_cells ((HRZ.out.later hBv1).later hSW) | have qq := arr_cells ((HRZ.out.later (bl_step hBv1 hBv2)).later hSW) | have qq := arr_cells ((HRZ.out.later (bl_step (bl_step hBv1 hBv2) hBv3)).later hSW) | have qq := arr_cells ((HRZ.out.later (bl_step (bl_step (bl_step hBv1 hBv2) hBv3) hBv4)).later hSW)
          obtain ⟨q0, q1, q2⟩ := qq
          go_simp
          first | done | with_reducible rfl
        simp only [Act.put, List.setIfInBounds_toArray, List.set_cons_zero, List.set_cons_succ]
        refine take_at 2 108 (v := ?vt2) (by simp only [List.getElem?_toArray, List.getElem?_cons_succ, List.getElem?_cons_zero]; rfl) rfl (by kernel_rfl) (by kernel_rfl) (by kernel_rfl) (fun _ _ _ h => h) (Or.inl ⟨by rfl, ?yt2⟩) hS ?_
        case yt2 =>
          intro W hSW
          (try dsimp only at hSW)
          go_simp
          first | done | with_reducible rfl
        simp only [Act.put, List.setIfInBounds_toArray, List.set_cons_zero, List.set_cons_succ]
        refine take_at 3 109 (v := ?vt3) (by simp only [List.getElem?_toArray, List.getElem?_cons_succ, List.getElem?_cons_zero]; rfl) rfl (by kernel_rfl) (by kernel_rfl) (by kernel_rfl) (fun _ _ _ h => h) (Or.inl ⟨by rfl, ?yt3⟩) hS ?_
        case yt3 =>
          intro W hSW
          (try dsimp only at hSW)
          go_simp
          first | done | with_reducible rfl
        simp only [Act.put, List.setIfInBounds_toArray, List.set_cons_zero, List.set_cons_succ]
        refine take_at 4 110 (v := ?vt4) (by simp only [List.getElem?_toArray, List.getElem?_cons_succ, List.getElem?_cons_zero]; rfl) rfl (by kernel_rfl) (by kernel_rfl) (by kernel_rfl) (fun _ _ _ h => h) (Or.inl ⟨by rfl, ?yt4⟩) hS ?_
        case yt4 =>
          intro W hSW
          (try dsimp only at hSW)
          go_simp
          first | done | with_reducible rfl
        simp only [Act.put, List.setIfInBounds_toArray, List.set_cons_zero, List.set_cons_succ]
        refine take_at 5 111 (v := ?vt5) (by simp only [List.getElem?_toArray, List.getElem?_cons_succ, List.getElem?_cons_zero]; rfl) rfl (by kernel_rfl) (by kernel_rfl) (by kernel_rfl) (fun _ _ _ h => h) (Or.inl ⟨by rfl, ?yt5⟩) hS ?_
        case yt5 =>
          intro W hSW
          (try dsimp only at hSW)
          go_simp
          first | done | with_reducible rfl
        simp only [Act.put, List.setIfInBounds_toArray, List.set_cons_zero, List.set_cons_succ]
        refine take_at 6 112 (v := ?vt6) (by simp only [List.getElem?_toArray, List.getElem?_cons_succ, List.getElem?_cons_zero]; rfl) rfl (by kernel_rfl) (by kernel_rfl) (by kernel_rfl) (fun _ _ _ h => h) (Or.inl ⟨by rfl, ?yt6⟩) hS ?_
        case yt6 =>
          intro W hSW
          (try dsimp only at hSW)
          go_simp
          first | done | with_reducible rfl
        simp only [Act.put, List.setIfInBounds_toArray, List.set_cons_zero, List.set_cons_succ]
        refine take_at 7 113 (v := ?vt7) (by simp only [List.getElem?_toArray, List.getElem?_cons_succ, List.getElem?_cons_zero]; rfl) rfl (by kernel_rfl) (by kernel_rfl) (by kernel_rfl) (fun _ _ _ h => h) (Or.inl ⟨by rfl, ?yt7⟩) hS ?_
        case yt7 =>
          intro W hSW
          (try dsimp only at hSW)
          first | have qq := arr_cells (HRZ.out.later hSW) | have qq := arr_cells ((HRZ.out.later hBv1).later hSW) | have qq := arr_cells ((HRZ.out.later (bl_step hBv1 hBv2)).later hSW) | have qq := arr_cells ((HRZ.out.later (bl_step (bl_step hBv1 hBv2) hBv3)).later hSW) | have qq := arr_cells ((HRZ.out.later (bl_step (bl_step (bl_step hBv1 hBv2) hBv3) hBv4)).later hSW)
          obtain ⟨q0, q1, q2⟩ := qq
          go_simp
          first | done | with_reducible rfl
        simp only [Act.put, List.setIfInBounds_toArray, List.set_cons_zero, List.set_cons_succ]
        refine take_at 9 115 (v := ?vt9) (by simp only [List.getElem?_toArray, List.getElem?_cons_succ, List.getElem?_cons_zero]; rfl) rfl (by kernel_rfl) (by kernel_rfl) (by kernel_rfl) (fun _ _ _ h => h) (Or.inl ⟨by rfl, ?yt9⟩) hS ?_
        case yt9 =>
          intro W hSW
          (try dsimp only at hSW)
          go_simp
          first | done | with_reducible rfl
        simp only [Act.put, List.setIfInBounds_toArray, List.set_cons_zero, List.set_cons_succ]
        refine take_at 10 116 (v := ?vt10) (by simp only [List.getElem?_toArray, List.getElem?_cons_succ, List.getElem?_cons_zero]; rfl) rfl (by kernel_rfl) (by kernel_rfl) (by kernel_rfl) (fun _ _ _ h => h) (Or.inl ⟨by rfl, ?yt10⟩) hS ?_
        case yt10 =>
          intro W hSW
          (try dsimp only at hSW)
          go_simp
          first | done | with_reducible rfl
        simp only [Act.put, List.setIfInBounds_toArray, List.set_cons_zero, List.set_cons_succ]
        refine take_at 11 117 (v := ?vt11) (by simp only [List.getElem?_toArray, List.getElem?_cons_succ, List.getElem?_cons_zero]; rfl) rfl (by kernel_rfl) (by kernel_rfl) (by kernel_rfl) (fun _ _ _ h => h) (Or.inl ⟨by rfl, ?yt11⟩) hS ?_
        case yt11 =>
          intro W hSW
          (try dsimp only at hSW)
          first | have qq := arr_cells (HRZ.out.later hSW) | have qq := arr_cells ((HRZ.out.later hBv1).later hSW) | have qq := arr_cells ((HRZ.out.later (bl_step hBv1 hBv2)).later hSW) | have qq := arr_cells ((HRZ.out.later (bl_step (bl_step hBv1 hBv2) hBv3)).later hSW) | have qq := arr_cells ((HRZ.out.later (bl_step (bl_step (bl_step hBv1 hBv2) hBv3) hBv4)).later hSW)
          obtain ⟨q0, q1, q2⟩ := qq
          go_simp
          first | done | with_reducible rfl
        simp only [Act.put, List.setIfInBounds_toArray, List.set_cons_zero, List.set_cons_succ]
        refine wpAnyH_ready (rs := [8]) (by kernel_rfl) (by simp) ?_
        refine AllReadyH.cons rfl (fun K hK => ?_) AllReadyH.nil
        go_simp
        refine (HFC.out _ hS).mono ?_
        rintro e v1 ⟨rfl, hb1⟩
        try go_simp
        refine hK.out _ _ (bl_step hS hb1) (fun hS => ?_)
        clear hK K
        try simp only [Act.put, List.setIfInBounds_toArray, List.set_cons_zero, List.set_cons_succ]
        have hBv1 : Below wz.heap.size wz v1 := hS
        refine wpAnyH_more (S' := fun W => Below v1.heap.size v1 W) ?_ (fun _ h => bl_step hBv1 h)
        clear hS
        have hS : (fun W => Below v1.heap.size v1 W) v1 := Below.refl _ _
        refine wpAnyH_ready (rs := [12]) (by kernel_rfl) (by simp) ?_
        refine AllReadyH.cons rfl (fun K hK => ?_) AllReadyH.nil
        go_simp
        refine (HFL.out _ (bl_step hBv1 hS)).mono ?_
        rintro e v2 ⟨rfl, hb2⟩
        try go_simp
        refine hK.out _ _ (bl_step hS hb2) (fun hS => ?_)
        clear hK K
        try simp only [Act.put, List.setIfInBounds_toArray, List.set_cons_zero, List.set_cons_succ]
        have hBv2 : Below v1.heap.size v1 v2 := hS
        refine wpAnyH_more (S' := fun W => Below v2.heap.size v2 W) ?_ (fun _ h => bl_step hBv2 h)
        clear hS
        have hS : (fun W => Below v2.heap.size v2 W) v2 := Below.refl _ _
        refine take_at 13 119 (v := ?vt13) (by simp only [List.getElem?_toArray, List.getElem?_cons_succ, List.getElem?_cons_zero]; rfl) rfl (by kernel_rfl) (by kernel_rfl) (by kernel_rfl) (fun _ _ _ h => h) (Or.inl ⟨by rfl, ?yt13⟩) hS ?_
        case yt13 =>
          intro W hSW
          (try dsimp only at hSW)
          go_simp
          first | done | with_reducible rfl
        simp only [Act.put, List.setIfInBounds_toArray, List.set_cons_zero, List.set_cons_succ]
        refine take_at 14 120 (v := ?vt14) (by simp only [List.getElem?_toArray, List.getElem?_cons_succ, List.getElem?_cons_zero]; rfl) rfl (by kernel_rfl) (by kernel_rfl) (by kernel_rfl) (fun _ _ _ h => h) (Or.inl ⟨by rfl, ?yt14⟩) hS ?_
        case yt14 =>
          intro W hSW
          (try dsimp only at hSW)
          go_simp
          first | done | with_reducible rfl
        simp only [Act.put, List.setIfInBounds_toArray, List.set_cons_zero, List.set_cons_succ]
        refine take_at 15 121 (v := ?vt15) (by simp only [List.getElem?_toArray, List.getElem?_cons_succ, List.getElem?_cons_zero]; rfl) rfl (by kernel_rfl) (by kernel_rfl) (by kernel_rfl) (fun _ _ _ h => h) (Or.inl ⟨by rfl, ?yt15⟩) hS ?_
        case yt15 =>
          intro W hSW
          (try dsimp only at hSW)
          go_simp
          first | done | with_reducible rfl
        simp only [Act.put, List.setIfInBounds_toArray, List.set_cons_zero, List.set_cons_succ]
        refine take_at 16 122 (v := ?vt16) (by simp only [List.getElem?_toArray, List.getElem?_cons_succ, List.getElem?_cons_zero]; rfl) rfl (by kernel_rfl) (by kernel_rfl) (by kernel_rfl) (fun _ _ _ h => h) (Or.inl ⟨by rfl, ?yt16⟩) hS ?_
        case yt16 =>
          intro W hSW
          (try dsimp only at hSW)
          go_simp
          first | done | with_reducible rfl
        simp only [Act.put, List.setIfInBounds_toArray, List.set_cons_zero, List.set_cons_succ]
        refine take_at 17 123 (v := ?vt17) (by simp only [List.getElem?_toArray, List.getElem?_cons_succ, List.getElem?_cons_zero]; rfl) rfl (by kernel_rfl) (by kernel_rfl) (by kernel_rfl) (fun _ _ _ h => h) (Or.inl ⟨by rfl, ?yt17⟩) hS ?_
        case yt17 =>
          intro W hSW
          (try dsimp only at hSW)
          go_simp
          first | done | with_reducible rfl
        simp only [Act.put, List.setIfInBounds_toArray, List.set_cons_zero, List.set_cons_succ]
        refine take_at 18 124 (v := ?vt18) (by simp only [List.getElem?_toArray, List.getElem?_cons_succ, List.getElem?_cons_zero]; rfl) rfl (by kernel_rfl) (by kernel_rfl) (by kernel_rfl) (fun _ _ _ h => h) (Or.inl ⟨by rfl, ?yt18⟩) hS ?_
        case yt18 =>
          intro W hSW
          (try dsimp only at hSW)
          first | have qq := arr_cells (HRZ.out.later hSW) | have qq := arr_cells ((HRZ.out.later hBv1).later hSW) | have qq := arr_cells ((HRZ.out.later (bl_step hBv1 hBv2)).later hSW) | have qq := arr_cells ((HRZ.out.later (bl_step (bl_step hBv1 hBv2) hBv3)).later hSW) | have qq := arr_cells ((HRZ.out.later (bl_step (bl_step (bl_step hBv1 hBv2) hBv3) hBv4)).later hSW)
          obtain ⟨q0, q1, q2⟩ := qq
          go_simp
          first | done | with_reducible rfl
        simp only [Act.put, List.setIfInBounds_toArray, List.set_cons_zero, List.set_cons_succ]
        refine take_at 20 126 (v := ?vt20) (by simp only [List.getElem?_toArray, List.getElem?_cons_succ, List.getElem?_cons_zero]; rfl) rfl (by kernel_rfl) (by kernel_rfl) (by kernel_rfl) (fun _ _ _ h => h) (Or.inl ⟨by rfl, ?yt20⟩) hS ?_
        case yt20 =>
          intro W hSW
          (try dsimp only at hSW)
          go_simp
          first | done | with_reducible rfl
        simp only [Act.put, List.setIfInBounds_toArray, List.set_cons_zero, List.set_cons_succ]
        refine wpAnyH_ready (rs := [19]) (by kernel_rfl) (by simp) ?_
        refine AllReadyH.cons rfl (fun K hK => ?_) AllReadyH.nil
        go_simp
        refine (HFL.out _ (bl_step (bl_step hBv1 hBv2) hS)).mono ?_
        rintro e v3 ⟨rfl, hb3⟩
        try go_simp
        refine hK.out _ _ (bl_step hS hb3) (fun hS => ?_)
        clear hK K
        try simp only [Act.put, List.setIfInBounds_toArray, List.set_cons_zero, List.set_cons_succ]
        have hBv3 : Below v2.heap.size v2 v3 := hS
        refine wpAnyH_more (S' := fun W => Below v3.heap.size v3 W) ?_ (fun _ h => bl_step hBv3 h)
        clear hS
        have hS : (fun W => Below v3.heap.size v3 W) v3 := Below.refl _ _
        refine take_at 21 127 (v := ?vt21) (by simp only [List.getElem?_toArray, List.getElem?_cons_succ, List.getElem?_cons_zero]; rfl) rfl (by kernel_rfl) (by kernel_rfl) (by kernel_rfl) (fun _ _ _ h => h) (Or.inl ⟨by rfl, ?yt21⟩) hS ?_
        case yt21 =>
          intro W hSW
          (try dsimp only at hSW)
          go_simp
          first | done | with_reducible rfl
        simp only [Act.put, List.setIfInBounds_toArray, List.set_cons_zero, List.set_cons_succ]
        refine take_at 22 128 (v := ?vt22) (by simp only [List.getElem?_toArray, List.getElem?_cons_succ, List.getElem?_cons_zero]; rfl) rfl (by kernel_rfl) (by kernel_rfl) (by kernel_rfl) (fun _ _ _ h => h) (Or.inl ⟨by rfl, ?yt22⟩) hS ?_
        case yt22 =>
          intro W hSW
          (try dsimp only at hSW)
          go_simp
          first | done | with_reducible rfl
        simp only [Act.put, List.setIfInBounds_toArray, List.set_cons_zero, List.set_cons_succ]
        refine take_at 23 129 (v := ?vt23) (by simp only [List.getElem?_toArray, List.getElem?_cons_succ, List.getElem?_cons_zero]; rfl) rfl (by kernel_rfl) (by kernel_rfl) (by kernel_rfl) (fun _ _ _ h => h) (Or.inl ⟨by rfl, ?yt23⟩) hS ?_
        case yt23 =>
          intro W hSW
          (try dsimp only at hSW)
          go_simp
          first | done | with_reducible rfl
        simp only [Act.put, List.setIfInBounds_toArray, List.set_cons_zero, List.set_cons_succ]
        refine take_at 24 130 (v := ?vt24) (by simp only [List.getElem?_toArray, List.getElem?_cons_succ, List.getElem?_cons_zero]; rfl) rfl (by kernel_rfl) (by kernel_rfl) (by kernel_rfl) (fun _ _ _ h => h) (Or.inl ⟨by rfl, ?yt24⟩) hS ?_
        case yt24 =>
          intro W hSW
          (try dsimp only at hSW)
          go_simp
          first | done | with_reducible rfl
        simp only [Act.put, List.setIfInBounds_toArray, List.set_cons_zero, List.set_cons_succ]
        refine take_at 25 131 (v := ?vt25) (by simp only [List.getElem?_toArray, List.getElem?_cons_succ, List.getElem?_cons_zero]; rfl) rfl (by kernel_rfl) (by kernel_rfl) (by kernel_rfl) (fun _ _ _ h => h) (Or.inl ⟨by rfl, ?yt25⟩) hS ?_
        case yt25 =>
          intro W hSW
          (try dsimp only at hSW)
          go_simp
          first | done | with_reducible rfl
        simp only [Act.put, List.setIfInBounds_toArray, List.set_cons_zero, List.set_cons_succ]
        refine take_at 26 132 (v := ?vt26) (by simp only [List.getElem?_toArray, List.getElem?_cons_succ, List.getElem?_cons_zero]; rfl) rfl (by kernel_rfl) (by kernel_rfl) (by kernel_rfl) (fun _ _ _ h => h) (Or.inl ⟨by rfl, ?yt26⟩) hS ?_
        case yt26 =>
          intro W hSW
          (try dsimp only at hSW)
          first | have qq := arr_cells (HRZ.out.later hSW) | have qq := arr_cells ((HRZ.out.later hBv1).later hSW) | have qq := arr_cells ((HRZ.out.later (bl_step hBv1 hBv2)).later hSW) | have qq := arr_cells ((HRZ.out.later (bl_step (bl_step hBv1 hBv2) hBv3)).later hSW) | have qq := arr_cells ((HRZ.out.later (bl_step (bl_step (bl_step hBv1 hBv2) hBv3) hBv4)).later hSW)
          obtain ⟨q0, q1, q2⟩ := qq
          go_simp
          first | done | with_reducible rfl
        simp only [Act.put, List.setIfInBounds_toArray, List.set_cons_zero, List.set_cons_succ]
        refine wpAnyH_ready (rs := [27]) (by kernel_rfl) (by simp) ?_
        refine AllReadyH.cons rfl (fun K hK => ?_) AllReadyH.nil
        go_simp
        refine (HIS.out _ (bl_step (bl_step (bl_step hBv1 hBv2) hBv3) hS)).mono ?_
        rintro e v4 ⟨rfl, hb4⟩
        try go_simp
        refine hK.out _ _ (bl_step hS hb4) (fun hS => ?_)
        clear hK K
        try simp only [Act.put, List.setIfInBounds_toArray, List.set_cons_zero, List.set_cons_succ]
        have hBv4 : Below v3.heap.size v3 v4 := hS
        refine wpAnyH_more (S' := fun W => Below v4.heap.size v4 W) ?_ (fun _ h => bl_step hBv4 h)
        clear hS
        have hS : (fun W => Below v4.heap.size v4 W) v4 := Below.refl _ _
        refine take_at 28 134 (v := ?vt28) (by simp only [List.getElem?_toArray, List.getElem?_cons_succ, List.getElem?_cons_zero]; rfl) rfl (by kernel_rfl) (by kernel_rfl) (by kernel_rfl) (fun _ _ _ h => h) (Or.inl ⟨by rfl, ?yt28⟩) hS ?_
        case yt28 =>
          intro W hSW
          (try dsimp only at hSW)
          go_simp
          first | done | with_reducible rfl
        simp only [Act.put, List.setIfInBounds_toArray, List.set_cons_zero, List.set_cons_succ]
        refine wpAnyH_done (by kernel_rfl) ?_ _
        refine NoPanic.normal ?_
        have HBv := Lib.hid (bl_step (bl_step (bl_step hBv1 hBv2) hBv3) hBv4)
        clear hBv1 hBv2 hBv3 hBv4
        go_wp2_with (go_at_call 57; (with_reducible refine (HMI.out _ HBv.out).mono ?_); rintro e wm ⟨A5, rfl, ha5, hb5⟩; (have HBm := Lib.hid (bl_step HBv.out hb5); have HA5 := Lib.hid ha5; clear ha5 hb5))
        generalize hMM : M.length = ml at *
        go_loopw [17] (fun s17 wx => ∃ (k : Nat), k ≤ ml ∧ s17 = .int .i64 k ∧ Hid (Below wm.heap.size wm wx)) (fun s17 _ => ml - (intOf s17).toNat)
        case atStart => exact ⟨0, by omega, rfl, Lib.hid (Below.refl _ _)⟩
        case round =>
          obtain ⟨k, hk, rfl, HBx⟩ := hrel
          by_cases hlt : k < ml
          · have hlti : (k : Int) < ml := by omega
            have hk0 : (0 : Int) ≤ k := by omega
            obtain ⟨vk, hvk⟩ : ∃ vk, M[k]? = some vk := ⟨_, List.getElem?_eq_getElem (by rw [hMM]; exact hlt)⟩
            have HBzx := Lib.hid (bl_step HBm.out HBx.out)
            have HRV := Lib.hid (HRZ.out.later HBzx.out)
            obtain ⟨j, hj, hjv, hjk⟩ := HMA.out k vk hvk
            have HIV := Lib.hid (fun v (hb : Below wr.heap.size wr v) => HVI.out j hj hjv vk hjk v (bl_step HBzx.out hb))
            have HNV := Lib.hid (fun v (hb : Below wr.heap.size wr v) => HVN.out j hj vk hjk v (bl_step HBzx.out hb))
            have HFV := Lib.hid (fun v (hb : Below wr.heap.size wr v) => HVF.out j hj vk hjk v (bl_step HBzx.out hb))
            have HFC2 := Lib.hid (fun v (hb : Below wr.heap.size wr v) => HFC.out v (bl_step HBzx.out hb))
            have hjc : ¬ ((c' : Int) ≤ (j : Int)) := by omega
            have HKL := Lib.hid hlt
            rcases Nat.eq_zero_or_pos k with hz | hz
            · subst hz
              obtain ⟨g5, rfl, hc5⟩ := (HA5.out.later HBx.out).cell (i := 0) (u := .int .i64 vk) (by unfold ints; rw [List.getElem?_map, hvk]; rfl)
              clear hvk hjv hjk hj hlt hk hff hMM
              go_upto_region 29 with fail
              refine wp_region_noPanic ?_
              refine wp_region_held_drew (S := fun W => Below wr.heap.size wr W) (by kernel_rfl) (bl_drew (Below.refl _ _)) (fun hS => ?_)
              refine take_at 0 143 (v := ?vu0) (by simp only [List.getElem?_toArray, List.getElem?_cons_zero]; rfl) rfl (by kernel_rfl) (by kernel_rfl) (by kernel_rfl) (fun _ _ _ h => h) (Or.inl ⟨by rfl, ?yu0⟩) hS ?_
              case yu0 =>
                intro W hSW
                (try dsimp only at hSW)
                go_simp
                first | done | with_reducible rfl
              simp only [Act.put, List.setIfInBounds_toArray, List.set_cons_zero, List.set_cons_succ]
              refine take_at 1 144 (v := ?vu1) (by simp only [List.getElem?_toArray, List.getElem?_cons_succ, List.getElem?_cons_zero]; rfl) rfl (by kernel_rfl) (by kernel_rfl) (by kernel_rfl) (fun _ _ _ h => h) (Or.inl ⟨by rfl, ?yu1⟩) hS ?_
              case yu1 =>
                intro W hSW
                (try dsimp only at hSW)
                go_simp
                first | done | with_reducible rfl
              simp only [Act.put, List.setIfInBounds_toArray, List.set_cons_zero, List.set_cons_succ]
              refine take_at 2 145 (v := ?vu2) (by simp only [List.getElem?_toArray, List.getElem?_cons_succ, List.getElem?_cons_zero]; rfl) rfl (by kernel_rfl) (by kernel_rfl) (by kernel_rfl) (fun _ _ _ h => h) (Or.inl ⟨by rfl, ?yu2⟩) hS ?_
              case yu2 =>
                intro W hSW
                (try dsimp only at hSW)
                go_simp
                first | done | with_reducible rfl
              simp only [Act.put, List.setIfInBounds_toArray, List.set_cons_zero, List.set_cons_succ]
              refine take_at 3 146 (v := ?vu3) (by simp only [List.getElem?_toArray, List.getElem?_cons_succ, List.getElem?_cons_zero]; rfl) rfl (by kernel_rfl) (by kernel_rfl) (by kernel_rfl) (fun _ _ _ h => h) (Or.inl ⟨by rfl, ?yu3⟩) hS ?_
              case yu3 =>
                intro W hSW
                (try dsimp only at hSW)
                go_simp
                first | done | with_reducible rfl
              simp only [Act.put, List.setIfInBounds_toArray, List.set_cons_zero, List.set_cons_succ]
              refine take_at 4 147 (v := ?vu4) (by simp only [List.getElem?_toArray, List.getElem?_cons_succ, List.getElem?_cons_zero]; rfl) rfl (by kernel_rfl) (by kernel_rfl) (by kernel_rfl) (fun _ _ _ h => h) (Or.inl ⟨by rfl, ?yu4⟩) hS ?_
              case yu4 =>
                intro W hSW
                (try dsimp only at hSW)
                first | have q3 := kept_box hSW hc5 | have q3 := kept_box hSW (kept_box hBv1 hc5) | have q3 := kept_box hSW (kept_box (bl_step hBv1 hBv2) hc5) | have q3 := kept_box hSW (kept_box (bl_step (bl_step hBv1 hBv2) hBv3) hc5) | have q3 := kept_box hSW (kept_box (bl_step (bl_step (bl_step hBv1 hBv2) hBv3) hBv4) hc5) | have q3 := kept_box hSW (kept_box (bl_step (bl_step (bl_step (bl_step hBv1 hBv2) hBv3) hBv4) hBv5) hc5)
                go_simp
                first | done | with_reducible rfl
              simp only [Act.put, List.setIfInBounds_toArray, List.set_cons_zero, List.set_cons_succ]
              refine wpAnyH_ready (rs := [5]) (by kernel_rfl) (by simp) ?_
              refine AllReadyH.cons rfl (fun K hK => ?_) AllReadyH.nil
              go_simp
              refine (HIV.out _ hS).mono ?_
              rintro e v1 ⟨rfl, hb1⟩
              try go_simp
              refine hK.out _ _ (bl_step hS hb1) (fun hS => ?_)
              clear hK K
              try simp only [Act.put, List.setIfInBounds_toArray, List.set_cons_zero, List.set_cons_succ]
              have hBv1 : Below wr.heap.size wr v1 := hS
              refine wpAnyH_more (S' := fun W => Below v1.heap.size v1 W) ?_ (fun _ h => bl_step hBv1 h)
              clear hS
              have hS : (fun W => Below v1.heap.size v1 W) v1 := Below.refl _ _
              refine take_at 6 149 (v := ?vu6) (by simp only [List.getElem?_toArray, List.getElem?_cons_succ, List.getElem?_cons_zero]; rfl) rfl (by kernel_rfl) (by kernel_rfl) (by kernel_rfl) (fun _ _ _ h => h) (Or.inl ⟨by rfl, ?yu6⟩) hS ?_
              case yu6 =>
                intro W hSW
                (try dsimp only at hSW)
                go_simp
                first | done | with_reducible rfl
              simp only [Act.put, List.setIfInBounds_toArray, List.set_cons_zero, List.set_cons_succ]
              refine take_at 7 150 (v := ?vu7) (by simp only [List.getElem?_toArray, List.getElem?_cons_succ, List.getElem?_cons_zero]; rfl) rfl (by kernel_rfl) (by kernel_rfl) (by kernel_rfl) (fun _ _ _ h => h) (Or.inl ⟨by rfl, ?yu7⟩) hS ?_
              case yu7 =>
                intro W hSW
                (try dsimp only at hSW)
                go_simp
                first | done | with_reducible rfl
              simp only [Act.put, List.setIfInBounds_toArray, List.set_cons_zero, List.set_cons_succ]
              refine take_at 8 151 (v := ?vu8) (by simp only [List.getElem?_toArray, List.getElem?_cons_succ, List.getElem?_cons_zero]; rfl) rfl (by kernel_rfl) (by kernel_rfl) (by kernel_rfl) (fun _ _ _ h => h) (Or.inl ⟨by rfl, ?yu8⟩) hS ?_
              case yu8 =>
                intro W hSW
                (try dsimp only at hSW)
                go_simp
                first | done | with_reducible rfl
              simp only [Act.put, List.setIfInBounds_toArray, List.set_cons_zero, List.set_cons_succ]
              refine take_at 9 152 (v := ?vu9) (by simp only [List.getElem?_toArray, List.getElem?_cons_succ, List.getElem?_cons_zero]; rfl) rfl (by kernel_rfl) (by kernel_rfl) (by kernel_rfl) (fun _ _ _ h => h) (Or.inl ⟨by rfl, ?yu9⟩) hS ?_
              case yu9 =>
                intro W hSW
                (try dsimp only at hSW)
                go_simp
                first | done | with_reducible rfl
              simp only [Act.put, List.setIfInBounds_toArray, List.set_cons_zero, List.set_cons_succ]
              refine take_at 10 153 (v := ?vu10) (by simp only [List.getElem?_toArray, List.getElem?_cons_succ, List.getElem?_cons_zero]; rfl) rfl (by kernel_rfl) (by kernel_rfl) (by kernel_rfl) (fun _ _ _ h => h) (Or.inl ⟨by rfl, ?yu10⟩) hS ?_
              case yu10 =>
                intro W hSW
                (try dsimp only at hSW)
                go_simp
                first | done | with_reducible rfl
              simp only [Act.put, List.setIfInBounds_toArray, List.set_cons_zero, List.set_cons_succ]
              refine take_at 11 154 (v := ?vu11) (by simp only [List.getElem?_toArray, List.getElem?_cons_succ, List.getElem?_cons_zero]; rfl) rfl (by kernel_rfl) (by kernel_rfl) (by kernel_rfl) (fun _ _ _ h => h) (Or.inl ⟨by rfl, ?yu11⟩) hS ?_
              case yu11 =>
                intro W hSW
                (try dsimp only at hSW)
                first | have q3 := kept_box hSW hc5 | have q3 := kept_box hSW (kept_box hBv1 hc5) | have q3 := kept_box hSW (kept_box (bl_step hBv1 hBv2) hc5) | have q3 := kept_box hSW (kept_box (bl_step (bl_step hBv1 hBv2) hBv3) hc5) | have q3 := kept_box hSW (kept_box (bl_step (bl_step (bl_step hBv1 hBv2) hBv3) hBv4) hc5) | have q3 := kept_box hSW (kept_box (bl_step (bl_step (bl_step (bl_step hBv1 hBv2) hBv3) hBv4) hBv5) hc5)
                go_simp
                first | done | with_reducible rfl
              simp only [Act.put, List.setIfInBounds_toArray, List.set_cons_zero, List.set_cons_succ]
              refine wpAnyH_ready (rs := [12]) (by kernel_rfl) (by simp) ?_
              refine AllReadyH.cons rfl (fun K hK => ?_) AllReadyH.nil
              go_simp
              refine (HNV.out _ (bl_step hBv1 hS)).mono ?_
              rintro e v2 ⟨rfl, hb2⟩
              try go_simp
              refine hK.out _ _ (bl_step hS hb2) (fun hS => ?_)
              clear hK K
              try simp only [Act.put, List.setIfInBounds_toArray, List.set_cons_zero, List.set_cons_succ]
              have hBv2 : Below v1.heap.size v1 v2 := hS
              refine wpAnyH_more (S' := fun W => Below v2.heap.size v2 W) ?_ (fun _ h => bl_step hBv2 h)
              clear hS
              have hS : (fun W => Below v2.heap.size v2 W) v2 := Below.refl _ _
              refine take_at 13 156 (v := ?vu13) (by simp only [List.getElem?_toArray, List.getElem?_cons_succ, List.getElem?_cons_zero]; rfl) rfl (by kernel_rfl) (by kernel_rfl) (by kernel_rfl) (fun _ _ _ h => h) (Or.inl ⟨by rfl, ?yu13⟩) hS ?_
              case yu13 =>
                intro W hSW
                (try dsimp only at hSW)
                go_simp
                first | done | with_reducible rfl
              simp only [Act.put, List.setIfInBounds_toArray, List.set_cons_zero, List.set_cons_succ]
              refine take_at 14 157 (v := ?vu14) (by simp only [List.getElem?_toArray, List.getElem?_cons_succ, List.getElem?_cons_zero]; rfl) rfl (by kernel_rfl) (by kernel_rfl) (by kernel_rfl) (fun _ _ _ h => h) (Or.inl ⟨by rfl, ?yu14⟩) hS ?_
              case yu14 =>
                intro W hSW
                (try dsimp only at hSW)
                go_simp
                first | done | with_reducible rfl
              simp only [Act.put, List.setIfInBounds_toArray, List.set_cons_zero, List.set_cons_succ]
              refine take_at 15 158 (v := ?vu15) (by simp only [List.getElem?_toArray, List.getElem?_cons_succ, List.getElem?_cons_zero]; rfl) rfl (by kernel_rfl) (by kernel_rfl) (by kernel_rfl) (fun _ _ _ h => h) (Or.inl ⟨by rfl, ?yu15⟩) hS ?_
              case yu15 =>
                intro W hSW
                (try dsimp only at hSW)
                go_simp
                first | done | with_reducible rfl
              simp only [Act.put, List.setIfInBounds_toArray, List.set_cons_zero, List.set_cons_succ]
              refine take_at 16 159 (v := ?vu16) (by simp only [List.getElem?_toArray, List.getElem?_cons_succ, List.getElem?_cons_zero]; rfl) rfl (by kernel_rfl) (by kernel_rfl) (by kernel_rfl) (fun _ _ _ h => h) (Or.inl ⟨by rfl, ?yu16⟩) hS ?_
              case yu16 =>
                intro W hSW
                (try dsimp only at hSW)
                go_simp
                first | done | with_reducible rfl
              simp only [Act.put, List.setIfInBounds_toArray, List.set_cons_zero, List.set_cons_succ]
              refine take_at 17 160 (v := ?vu17) (by simp only [List.getElem?_toArray, List.getElem?_cons_succ, List.getElem?_cons_zero]; rfl) rfl (by kernel_rfl) (by kernel_rfl) (by kernel_rfl) (fun _ _ _ h => h) (Or.inl ⟨by rfl, ?yu17⟩) hS ?_
              case yu17 =>
                intro W hSW
                (try dsimp only at hSW)
                go_simp
                first | done | with_reducible rfl
              simp only [Act.put, List.setIfInBounds_toArray, List.set_cons_zero, List.set_cons_succ]
              refine take_at 18 161 (v := ?vu18) (by simp only [List.getElem?_toArray, List.getElem?_cons_succ, List.getElem?_cons_zero]; rfl) rfl (by kernel_rfl) (by kernel_rfl) (by kernel_rfl) (fun _ _ _ h => h) (Or.inl ⟨by rfl, ?yu18⟩) hS ?_
              case yu18 =>
                intro W hSW
                (try dsimp only at hSW)
                go_simp
                first | done | with_reducible rfl
              simp only [Act.put, List.setIfInBounds_toArray, List.set_cons_zero, List.set_cons_succ]
              refine take_at 19 162 (v := ?vu19) (by simp only [List.getElem?_toArray, List.getElem?_cons_succ, List.getElem?_cons_zero]; rfl) rfl (by kernel_rfl) (by kernel_rfl) (by kernel_rfl) (fun _ _ _ h => h) (Or.inl ⟨by rfl, ?yu19⟩) hS ?_
              case yu19 =>
                intro W hSW
                (try dsimp only at hSW)
                go_simp
                first | done | with_reducible rfl
              simp only [Act.put, List.setIfInBounds_toArray, List.set_cons_zero, List.set_cons_succ]
              refine take_at 20 163 (v := ?vu20) (by simp only [List.getElem?_toArray, List.getElem?_cons_succ, List.getElem?_cons_zero]; rfl) rfl (by kernel_rfl) (by kernel_rfl) (by kernel_rfl) (fun _ _ _ h => h) (Or.inl ⟨by rfl, ?yu20⟩) hS ?_
              case yu20 =>
                intro W hSW
                (try dsimp only at hSW)
                first | have q3 := kept_box hSW hc5 | have q3 := kept_box hSW (kept_box hBv1 hc5) | have q3 := kept_box hSW (kept_box (bl_step hBv1 hBv2) hc5) | have q3 := kept_box hSW (kept_box (bl_step (bl_step hBv1 hBv2) hBv3) hc5) | have q3 := kept_box hSW (kept_box (bl_step (bl_step (bl_step hBv1 hBv2) hBv3) hBv4) hc5) | have q3 := kept_box hSW (kept_box (bl_step (bl_step (bl_step (bl_step hBv1 hBv2) hBv3) hBv4) hBv5) hc5)
                go_simp
                first | done | with_reducible rfl
              simp only [Act.put, List.setIfInBounds_toArray, List.set_cons_zero, List.set_cons_succ]
              refine take_at 22 165 (v := ?vu22) (by simp only [List.getElem?_toArray, List.getElem?_cons_succ, List.getElem?_cons_zero]; rfl) rfl (by kernel_rfl) (by kernel_rfl) (by kernel_rfl) (fun _ _ _ h => h) (Or.inl ⟨by rfl, ?yu22⟩) hS ?_
              case yu22 =>
                intro W hSW
                (try dsimp only at hSW)
                go_simp
                first | done | with_reducible rfl
              simp only [Act.put, List.setIfInBounds_toArray, List.set_cons_zero, List.set_cons_succ]
              refine take_at 23 166 (v := ?vu23) (by simp only [List.getElem?_toArray, List.getElem?_cons_succ, List.getElem?_cons_zero]; rfl) rfl (by kernel_rfl) (by kernel_rfl) (by kernel_rfl) (fun _ _ _ h => h) (Or.inl ⟨by rfl, ?yu23⟩) hS ?_
              case yu23 =>
                intro W hSW
                (try dsimp only at hSW)
                go_simp
                first | done | with_reducible rfl
              simp only [Act.put, List.setIfInBounds_toArray, List.set_cons_zero, List.set_cons_succ]
              refine take_at 24 167 (v := ?vu24) (by simp only [List.getElem?_toArray, List.getElem?_cons_succ, List.getElem?_cons_zero]; rfl) rfl (by kernel_rfl) (by kernel_rfl) (by kernel_rfl) (fun _ _ _ h => h) (Or.inl ⟨by rfl, ?yu24⟩) hS ?_
              case yu24 =>
                intro W hSW
                (try dsimp only at hSW)
                first | have qq := arr_cells (HRV.out.later hSW) | have qq := arr_cells ((HRV.out.later hBv1).later hSW) | have qq := arr_cells ((HRV.out.later (bl_step hBv1 hBv2)).later hSW) | have qq := arr_cells ((HRV.out.later (bl_step (bl_step hBv1 hBv2) hBv3)).later hSW) | have qq := arr_cells ((HRV.out.later (bl_step (bl_step (bl_step hBv1 hBv2) hBv3) hBv4)).later hSW)
                obtain ⟨q0, q1, q2⟩ := qq
                go_simp
                first | done | with_reducible rfl
              simp only [Act.put, List.setIfInBounds_toArray, List.set_cons_zero, List.set_cons_succ]
              refine wpAnyH_ready (rs := [21]) (by kernel_rfl) (by simp) ?_
              refine AllReadyH.cons rfl (fun K hK => ?_) AllReadyH.nil
              go_simp
              refine (HFV.out _ (bl_step (bl_step hBv1 hBv2) hS)).mono ?_
              rintro e v3 ⟨rfl, hb3⟩
              try go_simp
              refine hK.out _ _ (bl_step hS hb3) (fun hS => ?_)
              clear hK K
              try simp only [Act.put, List.setIfInBounds_toArray, List.set_cons_zero, List.set_cons_succ]
              have hBv3 : Below v2.heap.size v2 v3 := hS
              refine wpAnyH_more (S' := fun W => Below v3.heap.size v3 W) ?_ (fun _ h => bl_step hBv3 h)
              clear hS
              have hS : (fun W => Below v3.heap.size v3 W) v3 := Below.refl _ _
              refine wpAnyH_ready (rs := [25]) (by kernel_rfl) (by simp) ?_
              refine AllReadyH.cons rfl (fun K hK => ?_) AllReadyH.nil
              go_simp
              refine (HFC2.out _ (bl_step (bl_step (bl_step hBv1 hBv2) hBv3) hS)).mono ?_
              rintro e v4 ⟨rfl, hb4⟩
              try go_simp
              refine hK.out _ _ (bl_step hS hb4) (fun hS => ?_)
              clear hK K
              try simp only [Act.put, List.setIfInBounds_toArray, List.set_cons_zero, List.set_cons_succ]
              have hBv4 : Below v3.heap.size v3 v4 := hS
              refine wpAnyH_more (S' := fun W => Below v4.heap.size v4 W) ?_ (fun _ h => bl_step hBv4 h)
              clear hS
              have hS : (fun W => Below v4.heap.size v4 W) v4 := Below.refl _ _
              refine take_at 26 169 (v := ?vu26) (by simp only [List.getElem?_toArray, List.getElem?_cons_succ, List.getElem?_cons_zero]; rfl) rfl (by kernel_rfl) (by kernel_rfl) (by kernel_rfl) (fun _ _ _ h => h) (Or.inl ⟨by rfl, ?yu26⟩) hS ?_
              case yu26 =>
                intro W hSW
                (try dsimp only at hSW)
                go_simp
                first | done | with_reducible rfl
              simp only [Act.put, List.setIfInBounds_toArray, List.set_cons_zero, List.set_cons_succ]
              refine take_at 27 170 (v := ?vu27) (by simp only [List.getElem?_toArray, List.getElem?_cons_succ, List.getElem?_cons_zero]; rfl) rfl (by kernel_rfl) (by kernel_rfl) (by kernel_rfl) (fun _ _ _ h => h) (Or.inl ⟨by rfl, ?yu27⟩) hS ?_
              case yu27 =>
                intro W hSW
                (try dsimp only at hSW)
                go_simp
                first | done | with_reducible rfl
              simp only [Act.put, List.setIfInBounds_toArray, List.set_cons_zero, List.set_cons_succ]
              refine take_at 28 171 (v := ?vu28) (by simp only [List.getElem?_toArray, List.getElem?_cons_succ, List.getElem?_cons_zero]; rfl) rfl (by kernel_rfl) (by kernel_rfl) (by kernel_rfl) (fun _ _ _ h => h) (Or.inl ⟨by rfl, ?yu28⟩) hS ?_
              case yu28 =>
                intro W hSW
                (try dsimp only at hSW)
                go_simp
                first | done | with_reducible rfl
              simp only [Act.put, List.setIfInBounds_toArray, List.set_cons_zero, List.set_cons_succ]
              refine take_at 29 172 (v := ?vu29) (by simp only [List.getElem?_toArray, List.getElem?_cons_succ, List.getElem?_cons_zero]; rfl) rfl (by kernel_rfl) (by kernel_rfl) (by kernel_rfl) (fun _ _ _ h => h) (Or.inl ⟨by rfl, ?yu29⟩) hS ?_
              case yu29 =>
                intro W hSW
                (try dsimp only at hSW)
                go_simp
                first | done | with_reducible rfl
              simp only [Act.put, List.setIfInBounds_toArray, List.set_cons_zero, List.set_cons_succ]
              refine take_at 30 173 (v := ?vu30) (by simp only [List.getElem?_toArray, List.getElem?_cons_succ, List.getElem?_cons_zero]; rfl) rfl (by kernel_rfl) (by kernel_rfl) (by kernel_rfl) (fun _ _ _ h => h) (Or.inl ⟨by rfl, ?yu30⟩) hS ?_
              case yu30 =>
                intro W hSW
                (try dsimp only at hSW)
                go_simp
                first | done | with_reducible rfl
              simp only [Act.put, List.setIfInBounds_toArray, List.set_cons_zero, List.set_cons_succ]
              refine take_at 31 174 (v := ?vu31) (by simp only [List.getElem?_toArray, List.getElem?_cons_succ, List.getElem?_cons_zero]; rfl) rfl (by kernel_rfl) (by kernel_rfl) (by kernel_rfl) (fun _ _ _ h => h) (Or.inl ⟨by rfl, ?yu31⟩) hS ?_
              case yu31 =>
                intro W hSW
                (try dsimp only at hSW)
                go_simp
                first | done | with_reducible rfl
              simp only [Act.put, List.setIfInBounds_toArray, List.set_cons_zero, List.set_cons_succ]
              refine take_at 32 175 (v := undef) (by simp only [List.getElem?_toArray, List.getElem?_cons_succ, List.getElem?_cons_zero]; rfl) rfl (by kernel_rfl) (by kernel_rfl) (by kernel_rfl) (fun _ _ _ h => h) (Or.inr ⟨by rfl, rfl⟩) hS ?_
              simp only [Act.put, List.setIfInBounds_toArray, List.set_cons_zero, List.set_cons_succ]
              refine take_at 33 176 (v := undef) (by simp only [List.getElem?_toArray, List.getElem?_cons_succ, List.getElem?_cons_zero]; rfl) rfl (by kernel_rfl) (by kernel_rfl) (by kernel_rfl) (fun _ _ _ h => h) (Or.inr ⟨by rfl, rfl⟩) hS ?_
              simp only [Act.put, List.setIfInBounds_toArray, List.set_cons_zero, List.set_cons_succ]
              refine take_at 34 177 (v := undef) (by simp only [List.getElem?_toArray, List.getElem?_cons_succ, List.getElem?_cons_zero]; rfl) rfl (by kernel_rfl) (by kernel_rfl) (by kernel_rfl) (fun _ _ _ h => h) (Or.inr ⟨by rfl, rfl⟩) hS ?_
              simp only [Act.put, List.setIfInBounds_toArray, List.set_cons_zero, List.set_cons_succ]
              refine take_at 35 178 (v := undef) (by simp only [List.getElem?_toArray, List.getElem?_cons_succ, List.getElem?_cons_zero]; rfl) rfl (by kernel_rfl) (by kernel_rfl) (by kernel_rfl) (fun _ _ _ h => h) (Or.inr ⟨by rfl, rfl⟩) hS ?_
              simp only [Act.put, List.setIfInBounds_toArray, List.set_cons_zero, List.set_cons_succ]
              refine take_at 36 179 (v := undef) (by simp only [List.getElem?_toArray, List.getElem?_cons_succ, List.getElem?_cons_zero]; rfl) rfl (by kernel_rfl) (by kernel_rfl) (by kernel_rfl) (fun _ _ _ h => h) (Or.inr ⟨by rfl, rfl⟩) hS ?_
              simp only [Act.put, List.setIfInBounds_toArray, List.set_cons_zero, List.set_cons_succ]
              refine take_at 37 180 (v := undef) (by simp only [List.getElem?_toArray, List.getElem?_cons_succ, List.getElem?_cons_zero]; rfl) rfl (by kernel_rfl) (by kernel_rfl) (by kernel_rfl) (fun _ _ _ h => h) (Or.inr ⟨by rfl, rfl⟩) hS ?_
              simp only [Act.put, List.setIfInBounds_toArray, List.set_cons_zero, List.set_cons_succ]
              refine take_at 38 181 (v := undef) (by simp only [List.getElem?_toArray, List.getElem?_cons_succ, List.getElem?_cons_zero]; rfl) rfl (by kernel_rfl) (by kernel_rfl) (by kernel_rfl) (fun _ _ _ h => h) (Or.inr ⟨by rfl, rfl⟩) hS ?_
              simp only [Act.put, List.setIfInBounds_toArray, List.set_cons_zero, List.set_cons_succ]
              refine take_at 39 182 (v := undef) (by simp only [List.getElem?_toArray, List.getElem?_cons_succ, List.getElem?_cons_zero]; rfl) rfl (by kernel_rfl) (by kernel_rfl) (by kernel_rfl) (fun _ _ _ h => h) (Or.inr ⟨by rfl, rfl⟩) hS ?_
              simp only [Act.put, List.setIfInBounds_toArray, List.set_cons_zero, List.set_cons_succ]
              refine take_at 40 183 (v := undef) (by simp only [List.getElem?_toArray, List.getElem?_cons_succ, List.getElem?_cons_zero]; rfl) rfl (by kernel_rfl) (by kernel_rfl) (by kernel_rfl) (fun _ _ _ h => h) (Or.inr ⟨by rfl, rfl⟩) hS ?_
              simp only [Act.put, List.setIfInBounds_toArray, List.set_cons_zero, List.set_cons_succ]
              refine take_at 41 184 (v := undef) (by simp only [List.getElem?_toArray, List.getElem?_cons_succ, List.getElem?_cons_zero]; rfl) rfl (by kernel_rfl) (by kernel_rfl) (by kernel_rfl) (fun _ _ _ h => h) (Or.inr ⟨by rfl, rfl⟩) hS ?_
              simp only [Act.put, List.setIfInBounds_toArray, List.set_cons_zero, List.set_cons_succ]
              refine take_at 42 185 (v := undef) (by simp only [List.getElem?_toArray, List.getElem?_cons_succ, List.getElem?_cons_zero]; rfl) rfl (by kernel_rfl) (by kernel_rfl) (by kernel_rfl) (fun _ _ _ h => h) (Or.inr ⟨by rfl, rfl⟩) hS ?_
              simp only [Act.put, List.setIfInBounds_toArray, List.set_cons_zero, List.set_cons_succ]
              refine take_at 43 186 (v := undef) (by simp only [List.getElem?_toArray, List.getElem?_cons_succ, List.getElem?_cons_zero]; rfl) rfl (by kernel_rfl) (by kernel_rfl) (by kernel_rfl) (fun _ _ _ h => h) (Or.inr ⟨by rfl, rfl⟩) hS ?_
              simp only [Act.put, List.setIfInBounds_toArray, List.set_cons_zero, List.set_cons_succ]
              refine take_at 44 187 (v := undef) (by simp only [List.getElem?_toArray, List.getElem?_cons_succ, List.getElem?_cons_zero]; rfl) rfl (by kernel_rfl) (by kernel_rfl) (by kernel_rfl) (fun _ _ _ h => h) (Or.inr ⟨by rfl, rfl⟩) hS ?_
              simp only [Act.put, List.setIfInBounds_toArray, List.set_cons_zero, List.set_cons_succ]
              refine take_at 45 188 (v := undef) (by simp only [List.getElem?_toArray, List.getElem?_cons_succ, List.getElem?_cons_zero]; rfl) rfl (by kernel_rfl) (by kernel_rfl) (by kernel_rfl) (fun _ _ _ h => h) (Or.inr ⟨by rfl, rfl⟩) hS ?_
              simp only [Act.put, List.setIfInBounds_toArray, List.set_cons_zero, List.set_cons_succ]
              refine take_at 46 189 (v := ?vu46) (by simp only [List.getElem?_toArray, List.getElem?_cons_succ, List.getElem?_cons_zero]; rfl) rfl (by kernel_rfl) (by kernel_rfl) (by kernel_rfl) (fun _ _ _ h => h) (Or.inl ⟨by rfl, ?yu46⟩) hS ?_
              case yu46 =>
                intro W hSW
                (try dsimp only at hSW)
                go_simp
                first | done | with_reducible rfl
              simp only [Act.put, List.setIfInBounds_toArray, List.set_cons_zero, List.set_cons_succ]
              refine take_at 47 190 (v := ?vu47) (by simp only [List.getElem?_toArray, List.getElem?_cons_succ, List.getElem?_cons_zero]; rfl) rfl (by kernel_rfl) (by kernel_rfl) (by kernel_rfl) (fun _ _ _ h => h) (Or.inl ⟨by rfl, ?yu47⟩) hS ?_
              case yu47 =>
                intro W hSW
                (try dsimp only at hSW)
                go_simp
                first | done | with_reducible rfl
              simp only [Act.put, List.setIfInBounds_toArray, List.set_cons_zero, List.set_cons_succ]
              refine wpAnyH_done (by kernel_rfl) ?_ _
              refine NoPanic.normal ?_
              have HBe := Lib.hid (bl_step (bl_step (bl_step hBv1 hBv2) hBv3) hBv4)
              clear hBv1 hBv2 hBv3 hBv4
              go_wp2
              go_roundw
              case rel => exact ⟨1, by have := HKL.out; omega, by go_num, Lib.hid (bl_step HBx.out HBe.out)⟩
              case measure => simp [intOf]; omega
            · obtain ⟨k, rfl⟩ : ∃ k2, k = k2 + 1 := ⟨k - 1, by omega⟩
              obtain ⟨vp, hvp⟩ : ∃ vp, M[k]? = some vp := ⟨_, List.getElem?_eq_getElem (by omega)⟩
              obtain ⟨j1, j2, hj12, hj2, hv1, hv2⟩ := HMR.out k vp vk hvp hvk
              have HFP := Lib.hid (fun v (hb : Below wr.heap.size wr v) => HVF.out j1 (by omega) vp hv1 v (bl_step HBzx.out hb))
              have HFV := Lib.hid (fun v (hb : Below wr.heap.size wr v) => HVF.out j2 hj2 vk hv2 v (bl_step HBzx.out hb))
              have hjj : ¬ ((j2 : Int) ≤ (j1 : Int)) := by omega
              have hjc : ¬ ((c' : Int) ≤ (j2 : Int)) := by omega
              obtain ⟨g5, hg5, hc5⟩ := (HA5.out.later HBx.out).cell (i := k + 1) (u := .int .i64 vk) (by unfold ints; rw [List.getElem?_map, hvk]; rfl)
              obtain ⟨g6, rfl, hc6⟩ := (HA5.out.later HBx.out).cell (i := k) (u := .int .i64 vp) (by unfold ints; rw [List.getElem?_map, hvp]; rfl)
              obtain rfl : g6 = g5 := by injection hg5 with e; injection e
              have hkp : (0 : Int) < (k : Int) + 1 := by omega
              have hkz : (0 : Int) ≤ (k : Int) + 1 := by omega
              have hkk : (k : Int) < ml := by omega
              have hkn : (0 : Int) ≤ k := by omega
              have hkb : (k : Int) ≤ 40000 := by have := HML.out; have := HCB.out; omega
              have hkw : IntKind.i64.wrap (k : Int) = (k : Int) := IntWalk.i64_in _ (by omega)
              clear hvk hjv hjk hj hlt hk hff hMM hvp hj12 hj2 hv1 hv2 hz hg5
              go_upto_region 29 with fail
              refine wp_region_noPanic ?_
              refine wp_region_held_drew (S := fun W => Below wr.heap.size wr W) (by kernel_rfl) (bl_drew (Below.refl _ _)) (fun hS => ?_)
              refine take_at 0 143 (v := ?vx0) (by simp only [List.getElem?_toArray, List.getElem?_cons_zero]; rfl) rfl (by kernel_rfl) (by kernel_rfl) (by kernel_rfl) (fun _ _ _ h => h) (Or.inl ⟨by rfl, ?yx0⟩) hS ?_
              case yx0 =>
                intro W hSW
                (try dsimp only at hSW)
                go_simp
                first | done | with_reducible rfl
              simp only [Act.put, List.setIfInBounds_toArray, List.set_cons_zero, List.set_cons_succ]
              refine take_at 1 144 (v := ?vx1) (by simp only [List.getElem?_toArray, List.getElem?_cons_succ, List.getElem?_cons_zero]; rfl) rfl (by kernel_rfl) (by kernel_rfl) (by kernel_rfl) (fun _ _ _ h => h) (Or.inl ⟨by rfl, ?yx1⟩) hS ?_
              case yx1 =>
                intro W hSW
                (try dsimp only at hSW)
                go_simp
                first | done | with_reducible rfl
              simp only [Act.put, List.setIfInBounds_toArray, List.set_cons_zero, List.set_cons_succ]
              refine take_at 2 145 (v := ?vx2) (by simp only [List.getElem?_toArray, List.getElem?_cons_succ, List.getElem?_cons_zero]; rfl) rfl (by kernel_rfl) (by kernel_rfl) (by kernel_rfl) (fun _ _ _ h => h) (Or.inl ⟨by rfl, ?yx2⟩) hS ?_
              case yx2 =>
                intro W hSW
                (try dsimp only at hSW)
                go_simp
                first | done | with_reducible rfl
              simp only [Act.put, List.setIfInBounds_toArray, List.set_cons_zero, List.set_cons_succ]
              refine take_at 3 146 (v := ?vx3) (by simp only [List.getElem?_toArray, List.getElem?_cons_succ, List.getElem?_cons_zero]; rfl) rfl (by kernel_rfl) (by kernel_rfl) (by kernel_rfl) (fun _ _ _ h => h) (Or.inl ⟨by rfl, ?yx3⟩) hS ?_
              case yx3 =>
                intro W hSW
                (try dsimp only at hSW)
                go_simp
                first | done | with_reducible rfl
              simp only [Act.put, List.setIfInBounds_toArray, List.set_cons_zero, List.set_cons_succ]
              refine take_at 4 147 (v := ?vx4) (by simp only [List.getElem?_toArray, List.getElem?_cons_succ, List.getElem?_cons_zero]; rfl) rfl (by kernel_rfl) (by kernel_rfl) (by kernel_rfl) (fun _ _ _ h => h) (Or.inl ⟨by rfl, ?yx4⟩) hS ?_
              case yx4 =>
                intro W hSW
                (try dsimp only at hSW)
                first | have q3 := kept_box hSW hc5 | have q3 := kept_box hSW (kept_box hBv1 hc5) | have q3 := kept_box hSW (kept_box (bl_step hBv1 hBv2) hc5) | have q3 := kept_box hSW (kept_box (bl_step (bl_step hBv1 hBv2) hBv3) hc5) | have q3 := kept_box hSW (kept_box (bl_step (bl_step (bl_step hBv1 hBv2) hBv3) hBv4) hc5) | have q3 := kept_box hSW (kept_box (bl_step (bl_step (bl_step (bl_step hBv1 hBv2) hBv3) hBv4) hBv5) hc5)
                go_simp
                first | done | with_reducible rfl
              simp only [Act.put, List.setIfInBounds_toArray, List.set_cons_zero, List.set_cons_succ]
              refine wpAnyH_ready (rs := [5]) (by kernel_rfl) (by simp) ?_
              refine AllReadyH.cons rfl (fun K hK => ?_) AllReadyH.nil
              go_simp
              refine (HIV.out _ hS).mono ?_
              rintro e v1 ⟨rfl, hb1⟩
              try go_simp
              refine hK.out _ _ (bl_step hS hb1) (fun hS => ?_)
              clear hK K
              try simp only [Act.put, List.setIfInBounds_toArray, List.set_cons_zero, List.set_cons_succ]
              have hBv1 : Below wr.heap.size wr v1 := hS
              refine wpAnyH_more (S' := fun W => Below v1.heap.size v1 W) ?_ (fun _ h => bl_step hBv1 h)
              clear hS
              have hS : (fun W => Below v1.heap.size v1 W) v1 := Below.refl _ _
              refine take_at 6 149 (v := ?vx6) (by simp only [List.getElem?_toArray, List.getElem?_cons_succ, List.getElem?_cons_zero]; rfl) rfl (by kernel_rfl) (by kernel_rfl) (by kernel_rfl) (fun _ _ _ h => h) (Or.inl ⟨by rfl, ?yx6⟩) hS ?_
              case yx6 =>
                intro W hSW
                (try dsimp only at hSW)
                go_simp
                first | done | with_reducible rfl
              simp only [Act.put, List.setIfInBounds_toArray, List.set_cons_zero, List.set_cons_succ]
              refine take_at 7 150 (v := ?vx7) (by simp only [List.getElem?_toArray, List.getElem?_cons_succ, List.getElem?_cons_zero]; rfl) rfl (by kernel_rfl) (by kernel_rfl) (by kernel_rfl) (fun _ _ _ h => h) (Or.inl ⟨by rfl, ?yx7⟩) hS ?_
              case yx7 =>
                intro W hSW
                (try dsimp only at hSW)
                go_simp
                first | done | with_reducible rfl
              simp only [Act.put, List.setIfInBounds_toArray, List.set_cons_zero, List.set_cons_succ]
              refine take_at 8 151 (v := ?vx8) (by simp only [List.getElem?_toArray, List.getElem?_cons_succ, List.getElem?_cons_zero]; rfl) rfl (by kernel_rfl) (by kernel_rfl) (by kernel_rfl) (fun _ _ _ h => h) (Or.inl ⟨by rfl, ?yx8⟩) hS ?_
              case yx8 =>
                intro W hSW
                (try dsimp only at hSW)
                go_simp
                first | done | with_reducible rfl
              simp only [Act.put, List.setIfInBounds_toArray, List.set_cons_zero, List.set_cons_succ]
              refine take_at 9 152 (v := ?vx9) (by simp only [List.getElem?_toArray, List.getElem?_cons_succ, List.getElem?_cons_zero]; rfl) rfl (by kernel_rfl) (by kernel_rfl) (by kernel_rfl) (fun _ _ _ h => h) (Or.inl ⟨by rfl, ?yx9⟩) hS ?_
              case yx9 =>
                intro W hSW
                (try dsimp only at hSW)
                go_simp
                first | done | with_reducible rfl
              simp only [Act.put, List.setIfInBounds_toArray, List.set_cons_zero, List.set_cons_succ]
              refine take_at 10 153 (v := ?vx10) (by simp only [List.getElem?_toArray, List.getElem?_cons_succ, List.getElem?_cons_zero]; rfl) rfl (by kernel_rfl) (by kernel_rfl) (by kernel_rfl) (fun _ _ _ h => h) (Or.inl ⟨by rfl, ?yx10⟩) hS ?_
              case yx10 =>
                intro W hSW
                (try dsimp only at hSW)
                go_simp
                first | done | with_reducible rfl
              simp only [Act.put, List.setIfInBounds_toArray, List.set_cons_zero, List.set_cons_succ]
              refine take_at 11 154 (v := ?vx11) (by simp only [List.getElem?_toArray, List.getElem?_cons_succ, List.getElem?_cons_zero]; rfl) rfl (by kernel_rfl) (by kernel_rfl) (by kernel_rfl) (fun _ _ _ h => h) (Or.inl ⟨by rfl, ?yx11⟩) hS ?_
              case yx11 =>
                intro W hSW
                (try dsimp only at hSW)
                first | have q3 := kept_box hSW hc5 | have q3 := kept_box hSW (kept_box hBv1 hc5) | have q3 := kept_box hSW (kept_box (bl_step hBv1 hBv2) hc5) | have q3 := kept_box hSW (kept_box (bl_step (bl_step hBv1 hBv2) hBv3) hc5) | have q3 := kept_box hSW (kept_box (bl_step (bl_step (bl_step hBv1 hBv2) hBv3) hBv4) hc5) | have q3 := kept_box hSW (kept_box (bl_step (bl_step (bl_step (bl_step hBv1 hBv2) hBv3) hBv4) hBv5) hc5)
                go_simp
                first | done | with_reducible rfl
              simp only [Act.put, List.setIfInBounds_toArray, List.set_cons_zero, List.set_cons_succ]
              refine wpAnyH_ready (rs := [12]) (by kernel_rfl) (by simp) ?_
              refine AllReadyH.cons rfl (fun K hK => ?_) AllReadyH.nil
              go_simp
              refine (HNV.out _ (bl_step hBv1 hS)).mono ?_
              rintro e v2 ⟨rfl, hb2⟩
              try go_simp
              refine hK.out _ _ (bl_step hS hb2) (fun hS => ?_)
              clear hK K
              try simp only [Act.put, List.setIfInBounds_toArray, List.set_cons_zero, List.set_cons_succ]
              have hBv2 : Below v1.heap.size v1 v2 := hS
              refine wpAnyH_more (S' := fun W => Below v2.heap.size v2 W) ?_ (fun _ h => bl_step hBv2 h)
              clear hS
              have hS : (fun W => Below v2.heap.size v2 W) v2 := Below.refl _ _
              refine take_at 13 156 (v := ?vx13) (by simp only [List.getElem?_toArray, List.getElem?_cons_succ, List.getElem?_cons_zero]; rfl) rfl (by kernel_rfl) (by kernel_rfl) (by kernel_rfl) (fun _ _ _ h => h) (Or.inl ⟨by rfl, ?yx13⟩) hS ?_
              case yx13 =>
                intro W hSW
                (try dsimp only at hSW)
                go_simp
                first | done | with_reducible rfl
              simp only [Act.put, List.setIfInBounds_toArray, List.set_cons_zero, List.set_cons_succ]
              refine take_at 14 157 (v := ?vx14) (by simp only [List.getElem?_toArray, List.getElem?_cons_succ, List.getElem?_cons_zero]; rfl) rfl (by kernel_rfl) (by kernel_rfl) (by kernel_rfl) (fun _ _ _ h => h) (Or.inl ⟨by rfl, ?yx14⟩) hS ?_
              case yx14 =>
                intro W hSW
                (try dsimp only at hSW)
                go_simp
                first | done | with_reducible rfl
              simp only [Act.put, List.setIfInBounds_toArray, List.set_cons_zero, List.set_cons_succ]
              refine take_at 15 158 (v := ?vx15) (by simp only [List.getElem?_toArray, List.getElem?_cons_succ, List.getElem?_cons_zero]; rfl) rfl (by kernel_rfl) (by kernel_rfl) (by kernel_rfl) (fun _ _ _ h => h) (Or.inl ⟨by rfl, ?yx15⟩) hS ?_
              case yx15 =>
                intro W hSW
                (try dsimp only at hSW)
                go_simp
                first | done | with_reducible rfl
              simp only [Act.put, List.setIfInBounds_toArray, List.set_cons_zero, List.set_cons_succ]
              refine take_at 16 159 (v := ?vx16) (by simp only [List.getElem?_toArray, List.getElem?_cons_succ, List.getElem?_cons_zero]; rfl) rfl (by kernel_rfl) (by kernel_rfl) (by kernel_rfl) (fun _ _ _ h => h) (Or.inl ⟨by rfl, ?yx16⟩) hS ?_
              case yx16 =>
                intro W hSW
                (try dsimp only at hSW)
                go_simp
                first | done | with_reducible rfl
              simp only [Act.put, List.setIfInBounds_toArray, List.set_cons_zero, List.set_cons_succ]
              refine take_at 17 160 (v := ?vx17) (by simp only [List.getElem?_toArray, List.getElem?_cons_succ, List.getElem?_cons_zero]; rfl) rfl (by kernel_rfl) (by kernel_rfl) (by kernel_rfl) (fun _ _ _ h => h) (Or.inl ⟨by rfl, ?yx17⟩) hS ?_
              case yx17 =>
                intro W hSW
                (try dsimp only at hSW)
                go_simp
                first | done | with_reducible rfl
              simp only [Act.put, List.setIfInBounds_toArray, List.set_cons_zero, List.set_cons_succ]
              refine take_at 18 161 (v := ?vx18) (by simp only [List.getElem?_toArray, List.getElem?_cons_succ, List.getElem?_cons_zero]; rfl) rfl (by kernel_rfl) (by kernel_rfl) (by kernel_rfl) (fun _ _ _ h => h) (Or.inl ⟨by rfl, ?yx18⟩) hS ?_
              case yx18 =>
                intro W hSW
                (try dsimp only at hSW)
                go_simp
                first | done | with_reducible rfl
              simp only [Act.put, List.setIfInBounds_toArray, List.set_cons_zero, List.set_cons_succ]
              refine take_at 19 162 (v := ?vx19) (by simp only [List.getElem?_toArray, List.getElem?_cons_succ, List.getElem?_cons_zero]; rfl) rfl (by kernel_rfl) (by kernel_rfl) (by kernel_rfl) (fun _ _ _ h => h) (Or.inl ⟨by rfl, ?yx19⟩) hS ?_
              case yx19 =>
                intro W hSW
                (try dsimp only at hSW)
                go_simp
                first | done | with_reducible rfl
              simp only [Act.put, List.setIfInBounds_toArray, List.set_cons_zero, List.set_cons_succ]
              refine take_at 20 163 (v := ?vx20) (by simp only [List.getElem?_toArray, List.getElem?_cons_succ, List.getElem?_cons_zero]; rfl) rfl (by kernel_rfl) (by kernel_rfl) (by kernel_rfl) (fun _ _ _ h => h) (Or.inl ⟨by rfl, ?yx20⟩) hS ?_
              case yx20 =>
                intro W hSW
                (try dsimp only at hSW)
                first | have q3 := kept_box hSW hc5 | have q3 := kept_box hSW (kept_box hBv1 hc5) | have q3 := kept_box hSW (kept_box (bl_step hBv1 hBv2) hc5) | have q3 := kept_box hSW (kept_box (bl_step (bl_step hBv1 hBv2) hBv3) hc5) | have q3 := kept_box hSW (kept_box (bl_step (bl_step (bl_step hBv1 hBv2) hBv3) hBv4) hc5) | have q3 := kept_box hSW (kept_box (bl_step (bl_step (bl_step (bl_step hBv1 hBv2) hBv3) hBv4) hBv5) hc5)
                go_simp
                first | done | with_reducible rfl
              simp only [Act.put, List.setIfInBounds_toArray, List.set_cons_zero, List.set_cons_succ]
              refine take_at 22 165 (v := ?vx22) (by simp only [List.getElem?_toArray, List.getElem?_cons_succ, List.getElem?_cons_zero]; rfl) rfl (by kernel_rfl) (by kernel_rfl) (by kernel_rfl) (fun _ _ _ h => h) (Or.inl ⟨by rfl, ?yx22⟩) hS ?_
              case yx22 =>
                intro W hSW
                (try dsimp only at hSW)
                go_simp
                first | done | with_reducible rfl
              simp only [Act.put, List.setIfInBounds_toArray, List.set_cons_zero, List.set_cons_succ]
              refine take_at 23 166 (v := ?vx23) (by simp only [List.getElem?_toArray, List.getElem?_cons_succ, List.getElem?_cons_zero]; rfl) rfl (by kernel_rfl) (by kernel_rfl) (by kernel_rfl) (fun _ _ _ h => h) (Or.inl ⟨by rfl, ?yx23⟩) hS ?_
              case yx23 =>
                intro W hSW
                (try dsimp only at hSW)
                go_simp
                first | done | with_reducible rfl
              simp only [Act.put, List.setIfInBounds_toArray, List.set_cons_zero, List.set_cons_succ]
              refine take_at 24 167 (v := ?vx24) (by simp only [List.getElem?_toArray, List.getElem?_cons_succ, List.getElem?_cons_zero]; rfl) rfl (by kernel_rfl) (by kernel_rfl) (by kernel_rfl) (fun _ _ _ h => h) (Or.inl ⟨by rfl, ?yx24⟩) hS ?_
              case yx24 =>
                intro W hSW
                (try dsimp only at hSW)
                first | have qq := arr_cells (HRV.out.later hSW) | have qq := arr_cells ((HRV.out.later hBv1).later hSW) | have qq := arr_cells ((HRV.out.later (bl_step hBv1 hBv2)).later hSW) | have qq := arr_cells ((HRV.out.later (bl_step (bl_step hBv1 hBv2) hBv3)).later hSW) | have qq := arr_cells ((HRV.out.later (bl_step (bl_step (bl_step hBv1 hBv2) hBv3) hBv4)).later hSW)
                obtain ⟨q0, q1, q2⟩ := qq
                go_simp
                first | done | with_reducible rfl
              simp only [Act.put, List.setIfInBounds_toArray, List.set_cons_zero, List.set_cons_succ]
              refine wpAnyH_ready (rs := [21]) (by kernel_rfl) (by simp) ?_
              refine AllReadyH.cons rfl (fun K hK => ?_) AllReadyH.nil
              go_simp
              refine (HFV.out _ (bl_step (bl_step hBv1 hBv2) hS)).mono ?_
              rintro e v3 ⟨rfl, hb3⟩
              try go_simp
              refine hK.out _ _ (bl_step hS hb3) (fun hS => ?_)
              clear hK K
              try simp only [Act.put, List.setIfInBounds_toArray, List.set_cons_zero, List.set_cons_succ]
              have hBv3 : Below v2.heap.size v2 v3 := hS
              refine wpAnyH_more (S' := fun W => Below v3.heap.size v3 W) ?_ (fun _ h => bl_step hBv3 h)
              clear hS
              have hS : (fun W => Below v3.heap.size v3 W) v3 := Below.refl _ _
              refine wpAnyH_ready (rs := [25]) (by kernel_rfl) (by simp) ?_
              refine AllReadyH.cons rfl (fun K hK => ?_) AllReadyH.nil
              go_simp
              refine (HFC2.out _ (bl_step (bl_step (bl_step hBv1 hBv2) hBv3) hS)).mono ?_
              rintro e v4 ⟨rfl, hb4⟩
              try go_simp
              refine hK.out _ _ (bl_step hS hb4) (fun hS => ?_)
              clear hK K
              try simp only [Act.put, List.setIfInBounds_toArray, List.set_cons_zero, List.set_cons_succ]
              have hBv4 : Below v3.heap.size v3 v4 := hS
              refine wpAnyH_more (S' := fun W => Below v4.heap.size v4 W) ?_ (fun _ h => bl_step hBv4 h)
              clear hS
              have hS : (fun W => Below v4.heap.size v4 W) v4 := Below.refl _ _
              refine take_at 26 169 (v := ?vx26) (by simp only [List.getElem?_toArray, List.getElem?_cons_succ, List.getElem?_cons_zero]; rfl) rfl (by kernel_rfl) (by kernel_rfl) (by kernel_rfl) (fun _ _ _ h => h) (Or.inl ⟨by rfl, ?yx26⟩) hS ?_
              case yx26 =>
                intro W hSW
                (try dsimp only at hSW)
                go_simp
                first | done | with_reducible rfl
              simp only [Act.put, List.setIfInBounds_toArray, List.set_cons_zero, List.set_cons_succ]
              refine take_at 27 170 (v := ?vx27) (by simp only [List.getElem?_toArray, List.getElem?_cons_succ, List.getElem?_cons_zero]; rfl) rfl (by kernel_rfl) (by kernel_rfl) (by kernel_rfl) (fun _ _ _ h => h) (Or.inl ⟨by rfl, ?yx27⟩) hS ?_
              case yx27 =>
                intro W hSW
                (try dsimp only at hSW)
                go_simp
                first | done | with_reducible rfl
              simp only [Act.put, List.setIfInBounds_toArray, List.set_cons_zero, List.set_cons_succ]
              refine take_at 28 171 (v := ?vx28) (by simp only [List.getElem?_toArray, List.getElem?_cons_succ, List.getElem?_cons_zero]; rfl) rfl (by kernel_rfl) (by kernel_rfl) (by kernel_rfl) (fun _ _ _ h => h) (Or.inl ⟨by rfl, ?yx28⟩) hS ?_
              case yx28 =>
                intro W hSW
                (try dsimp only at hSW)
                go_simp
                first | done | with_reducible rfl
              simp only [Act.put, List.setIfInBounds_toArray, List.set_cons_zero, List.set_cons_succ]
              refine take_at 29 172 (v := ?vx29) (by simp only [List.getElem?_toArray, List.getElem?_cons_succ, List.getElem?_cons_zero]; rfl) rfl (by kernel_rfl) (by kernel_rfl) (by kernel_rfl) (fun _ _ _ h => h) (Or.inl ⟨by rfl, ?yx29⟩) hS ?_
              case yx29 =>
                intro W hSW
                (try dsimp only at hSW)
                go_simp
                first | done | with_reducible rfl
              simp only [Act.put, List.setIfInBounds_toArray, List.set_cons_zero, List.set_cons_succ]
              refine take_at 30 173 (v := ?vx30) (by simp only [List.getElem?_toArray, List.getElem?_cons_succ, List.getElem?_cons_zero]; rfl) rfl (by kernel_rfl) (by kernel_rfl) (by kernel_rfl) (fun _ _ _ h => h) (Or.inl ⟨by rfl, ?yx30⟩) hS ?_
              case yx30 =>
                intro W hSW
                (try dsimp only at hSW)
                go_simp
                first | done | with_reducible rfl
              simp only [Act.put, List.setIfInBounds_toArray, List.set_cons_zero, List.set_cons_succ]
              refine take_at 31 174 (v := ?vx31) (by simp only [List.getElem?_toArray, List.getElem?_cons_succ, List.getElem?_cons_zero]; rfl) rfl (by kernel_rfl) (by kernel_rfl) (by kernel_rfl) (fun _ _ _ h => h) (Or.inl ⟨by rfl, ?yx31⟩) hS ?_
              case yx31 =>
                intro W hSW
                (try dsimp only at hSW)
                go_simp
                first | done | with_reducible rfl
              simp only [Act.put, List.setIfInBounds_toArray, List.set_cons_zero, List.set_cons_succ]
              refine take_at 32 175 (v := ?vx32) (by simp only [List.getElem?_toArray, List.getElem?_cons_succ, List.getElem?_cons_zero]; rfl) rfl (by kernel_rfl) (by kernel_rfl) (by kernel_rfl) (fun _ _ _ h => h) (Or.inl ⟨by rfl, ?yx32⟩) hS ?_
              case yx32 =>
                intro W hSW
                (try dsimp only at hSW)
                go_simp
                first | done | with_reducible rfl
              simp only [Act.put, List.setIfInBounds_toArray, List.set_cons_zero, List.set_cons_succ]
              refine take_at 33 176 (v := ?vx33) (by simp only [List.getElem?_toArray, List.getElem?_cons_succ, List.getElem?_cons_zero]; rfl) rfl (by kernel_rfl) (by kernel_rfl) (by kernel_rfl) (fun _ _ _ h => h) (Or.inl ⟨by rfl, ?yx33⟩) hS ?_
              case yx33 =>
                intro W hSW
                (try dsimp only at hSW)
                go_simp
                first | done | with_reducible rfl
              simp only [Act.put, List.setIfInBounds_toArray, List.set_cons_zero, List.set_cons_succ]
              refine take_at 34 177 (v := ?vx34) (by simp only [List.getElem?_toArray, List.getElem?_cons_succ, List.getElem?_cons_zero]; rfl) rfl (by kernel_rfl) (by kernel_rfl) (by kernel_rfl) (fun _ _ _ h => h) (Or.inl ⟨by rfl, ?yx34⟩) hS ?_
              case yx34 =>
                intro W hSW
                (try dsimp only at hSW)
                go_simp
                first | done | with_reducible rfl
              simp only [Act.put, List.setIfInBounds_toArray, List.set_cons_zero, List.set_cons_succ]
              refine take_at 35 178 (v := ?vx35) (by simp only [List.getElem?_toArray, List.getElem?_cons_succ, List.getElem?_cons_zero]; rfl) rfl (by kernel_rfl) (by kernel_rfl) (by kernel_rfl) (fun _ _ _ h => h) (Or.inl ⟨by rfl, ?yx35⟩) hS ?_
              case yx35 =>
                intro W hSW
                (try dsimp only at hSW)
                go_simp
                first | done | with_reducible rfl
              simp only [Act.put, List.setIfInBounds_toArray, List.set_cons_zero, List.set_cons_succ]
              refine take_at 36 179 (v := ?vx36) (by simp only [List.getElem?_toArray, List.getElem?_cons_succ, List.getElem?_cons_zero]; rfl) rfl (by kernel_rfl) (by kernel_rfl) (by kernel_rfl) (fun _ _ _ h => h) (Or.inl ⟨by rfl, ?yx36⟩) hS ?_
              case yx36 =>
                intro W hSW
                (try dsimp only at hSW)
                go_simp
                first | done | with_reducible rfl
              simp only [Act.put, List.setIfInBounds_toArray, List.set_cons_zero, List.set_cons_succ]
              refine take_at 37 180 (v := ?vx37) (by simp only [List.getElem?_toArray, List.getElem?_cons_succ, List.getElem?_cons_zero]; rfl) rfl (by kernel_rfl) (by kernel_rfl) (by kernel_rfl) (fun _ _ _ h => h) (Or.inl ⟨by rfl, ?yx37⟩) hS ?_
              case yx37 =>
                intro W hSW
                (try dsimp only at hSW)
                first | have q4 := kept_box hSW hc6 | have q4 := kept_box hSW (kept_box hBv1 hc6) | have q4 := kept_box hSW (kept_box (bl_step hBv1 hBv2) hc6) | have q4 := kept_box hSW (kept_box (bl_step (bl_step hBv1 hBv2) hBv3) hc6) | have q4 := kept_box hSW (kept_box (bl_step (bl_step (bl_step hBv1 hBv2) hBv3) hBv4) hc6) | have q4 := kept_box hSW (kept_box (bl_step (bl_step (bl_step (bl_step hBv1 hBv2) hBv3) hBv4) hBv5) hc6)
                go_simp
                first | done | with_reducible rfl
              simp only [Act.put, List.setIfInBounds_toArray, List.set_cons_zero, List.set_cons_succ]
              refine take_at 39 182 (v := ?vx39) (by simp only [List.getElem?_toArray, List.getElem?_cons_succ, List.getElem?_cons_zero]; rfl) rfl (by kernel_rfl) (by kernel_rfl) (by kernel_rfl) (fun _ _ _ h => h) (Or.inl ⟨by rfl, ?yx39⟩) hS ?_
              case yx39 =>
                intro W hSW
                (try dsimp only at hSW)
                go_simp
                first | done | with_reducible rfl
              simp only [Act.put, List.setIfInBounds_toArray, List.set_cons_zero, List.set_cons_succ]
              refine take_at 40 183 (v := ?vx40) (by simp only [List.getElem?_toArray, List.getElem?_cons_succ, List.getElem?_cons_zero]; rfl) rfl (by kernel_rfl) (by kernel_rfl) (by kernel_rfl) (fun _ _ _ h => h) (Or.inl ⟨by rfl, ?yx40⟩) hS ?_
              case yx40 =>
                intro W hSW
                (try dsimp only at hSW)
                go_simp
                first | done | with_reducible rfl
              simp only [Act.put, List.setIfInBounds_toArray, List.set_cons_zero, List.set_cons_succ]
              refine take_at 41 184 (v := ?vx41) (by simp only [List.getElem?_toArray, List.getElem?_cons_succ, List.getElem?_cons_zero]; rfl) rfl (by kernel_rfl) (by kernel_rfl) (by kernel_rfl) (fun _ _ _ h => h) (Or.inl ⟨by rfl, ?yx41⟩) hS ?_
              case yx41 =>
                intro W hSW
                (try dsimp only at hSW)
                go_simp
                first | done | with_reducible rfl
              simp only [Act.put, List.setIfInBounds_toArray, List.set_cons_zero, List.set_cons_succ]
              refine take_at 42 185 (v := ?vx42) (by simp only [List.getElem?_toArray, List.getElem?_cons_succ, List.getElem?_cons_zero]; rfl) rfl (by kernel_rfl) (by kernel_rfl) (by kernel_rfl) (fun _ _ _ h => h) (Or.inl ⟨by rfl, ?yx42⟩) hS ?_
              case yx42 =>
                intro W hSW
                (try dsimp only at hSW)
                go_simp
                first | done | with_reducible rfl
              simp only [Act.put, List.setIfInBounds_toArray, List.set_cons_zero, List.set_cons_succ]
              refine take_at 43 186 (v := ?vx43) (by simp only [List.getElem?_toArray, List.getElem?_cons_succ, List.getElem?_cons_zero]; rfl) rfl (by kernel_rfl) (by kernel_rfl) (by kernel_rfl) (fun _ _ _ h => h) (Or.inl ⟨by rfl, ?yx43⟩) hS ?_
              case yx43 =>
                intro W hSW
                (try dsimp only at hSW)
                first | have q3 := kept_box hSW hc5 | have q3 := kept_box hSW (kept_box hBv1 hc5) | have q3 := kept_box hSW (kept_box (bl_step hBv1 hBv2) hc5) | have q3 := kept_box hSW (kept_box (bl_step (bl_step hBv1 hBv2) hBv3) hc5) | have q3 := kept_box hSW (kept_box (bl_step (bl_step (bl_step hBv1 hBv2) hBv3) hBv4) hc5) | have q3 := kept_box hSW (kept_box (bl_step (bl_step (bl_step (bl_step hBv1 hBv2) hBv3) hBv4) hBv5) hc5)
                go_simp
                first | done | with_reducible rfl
              simp only [Act.put, List.setIfInBounds_toArray, List.set_cons_zero, List.set_cons_succ]
              refine wpAnyH_ready (rs := [38]) (by kernel_rfl) (by simp) ?_
              refine AllReadyH.cons rfl (fun K hK => ?_) AllReadyH.nil
              go_simp
              refine (HFP.out _ (bl_step (bl_step (bl_step (bl_step hBv1 hBv2) hBv3) hBv4) hS)).mono ?_
              rintro e v5 ⟨rfl, hb5⟩
              try go_simp
              refine hK.out _ _ (bl_step hS hb5) (fun hS => ?_)
              clear hK K
              try simp only [Act.put, List.setIfInBounds_toArray, List.set_cons_zero, List.set_cons_succ]
              have hBv5 : Below v4.heap.size v4 v5 := hS
              refine wpAnyH_more (S' := fun W => Below v5.heap.size v5 W) ?_ (fun _ h => bl_step hBv5 h)
              clear hS
              have hS : (fun W => Below v5.heap.size v5 W) v5 := Below.refl _ _
              refine wpAnyH_ready (rs := [44]) (by kernel_rfl) (by simp) ?_
              refine AllReadyH.cons rfl (fun K hK => ?_) AllReadyH.nil
              go_simp
              refine (HFV.out _ (bl_step (bl_step (bl_step (bl_step (bl_step hBv1 hBv2) hBv3) hBv4) hBv5) hS)).mono ?_
              rintro e v6 ⟨rfl, hb6⟩
              try go_simp
              refine hK.out _ _ (bl_step hS hb6) (fun hS => ?_)
              clear hK K
              try simp only [Act.put, List.setIfInBounds_toArray, List.set_cons_zero, List.set_cons_succ]
              have hBv6 : Below v5.heap.size v5 v6 := hS
              refine wpAnyH_more (S' := fun W => Below v6.heap.size v6 W) ?_ (fun _ h => bl_step hBv6 h)
              clear hS
              have hS : (fun W => Below v6.heap.size v6 W) v6 := Below.refl _ _
              refine take_at 45 188 (v := ?vx45) (by simp only [List.getElem?_toArray, List.getElem?_cons_succ, List.getElem?_cons_zero]; rfl) rfl (by kernel_rfl) (by kernel_rfl) (by kernel_rfl) (fun _ _ _ h => h) (Or.inl ⟨by rfl, ?yx45⟩) hS ?_
              case yx45 =>
                intro W hSW
                (try dsimp only at hSW)
                go_simp
                first | done | with_reducible rfl
              simp only [Act.put, List.setIfInBounds_toArray, List.set_cons_zero, List.set_cons_succ]
              refine take_at 46 189 (v := ?vx46) (by simp only [List.getElem?_toArray, List.getElem?_cons_succ, List.getElem?_cons_zero]; rfl) rfl (by kernel_rfl) (by kernel_rfl) (by kernel_rfl) (fun _ _ _ h => h) (Or.inl ⟨by rfl, ?yx46⟩) hS ?_
              case yx46 =>
                intro W hSW
                (try dsimp only at hSW)
                go_simp
                first | done | with_reducible rfl
              simp only [Act.put, List.setIfInBounds_toArray, List.set_cons_zero, List.set_cons_succ]
              refine take_at 47 190 (v := ?vx47) (by simp only [List.getElem?_toArray, List.getElem?_cons_succ, List.getElem?_cons_zero]; rfl) rfl (by kernel_rfl) (by kernel_rfl) (by kernel_rfl) (fun _ _ _ h => h) (Or.inl ⟨by rfl, ?yx47⟩) hS ?_
              case yx47 =>
                intro W hSW
                (try dsimp only at hSW)
                go_simp
                first | done | with_reducible rfl
              simp only [Act.put, List.setIfInBounds_toArray, List.set_cons_zero, List.set_cons_succ]
              refine wpAnyH_done (by kernel_rfl) ?_ _
              refine NoPanic.normal ?_
              have HBe := Lib.hid (bl_step (bl_step (bl_step (bl_step (bl_step hBv1 hBv2) hBv3) hBv4) hBv5) hBv6)
              clear hBv1 hBv2 hBv3 hBv4 hBv5 hBv6
              go_wp2
              go_roundw
              case rel => exact ⟨k + 2, by have := HKL.out; omega, by go_num, Lib.hid (bl_step HBx.out HBe.out)⟩
              case measure => simp [intOf]; omega
          · have hlti : ¬ (k : Int) < ml := by omega
            go_wp2
            go_roundw
            case rel => exact ⟨i + 1, f', c', l', by have := HI.out.2; omega, by have := HI.out.1; omega, rfl, by go_num, Lib.hid (HXz.out.later (bl_step HBm.out HBx.out)), Lib.hid (bl_step (bl_step HWy.out HBz.out) (bl_step HBm.out HBx.out))⟩
            case measure => have := HI.out.2; simp [intOf]; omega
    · rcases Nat.lt_or_ge i n0 with hc | hc
      all_goals
        first
          | (have hi1 : (i : Int) < n0 := (by omega); have hi2 : ¬ (i : Int) < 150 := (by omega))
          | (have hi1 : ¬ (i : Int) < n0 := (by omega))
        clear hlt hc hi hin
        go_wp2_with (go_at_call 50; (with_reducible refine (HA.out _).mono ?_); rintro e w2 ⟨rfl, hb⟩; (have HB2 := Lib.hid (bl_step HWr.out hb); clear hb))
        go_ret
        exact ⟨rfl, HB2.out⟩
theorem xonce_every (A0 : Option Addr) (n0 c0 : Nat) (bits size : Int) (l0 : List (Int × Int)) (W : World) (hl0 : l0.length = n0) (hm0 : n0 ≤ 9223372036854775807) (hs0 : OpSrc W A0 l0) (hw : (Lit.int .i64 bits).wf = true) :
    Calls Try.prog 7 #[.int .i64 bits, .int .i64 size, .slice A0 n0 c0] W fun e w' => e = .returned (.bool true) ∧ Below W.heap.size W w' := by
  rcases sz_lt (b := bits) (size := size) with h | h | ⟨ht, h1, h2⟩
  · exact xonce_no A0 n0 c0 bits size W hw (.inl h)
  · exact xonce_no A0 n0 c0 bits size W hw (.inr h)
  · exact xonce_ok A0 n0 c0 bits size l0 W hl0 hm0 hs0 ht h1 h2
end
end Go.Proofs.Ytgdpjaojlhdhdaa
