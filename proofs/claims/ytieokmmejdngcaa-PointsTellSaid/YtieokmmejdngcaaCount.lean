/-
  PointsCount: at how many places points have another nearest one, how long points of whole parts are, and what comes of both together, is told.
-/
import Derived.Test.YtieokmmejdngcaaMade
import Derived.Deep.RegionHeld3
namespace Go.Proofs.Ytieokmmejdngcaa
open Go.RowKit

theorem eq_flt (d : Nat) (a b : Nat) (W : World) : (Op.equalIn (d + 1) 51 (.float .f64 a) (.float .f64 b)).run Try.prog W = .ok (FloatKind.f64.format.order a b == some .eq) W := by
  simp [Op.equalIn, run_underlying (show Try.prog.underlying 51 = some (.float .f64) by kernel_rfl), Op.floatEq]
theorem eq_flt9 (a b : Nat) (W : World) : (Op.equalIn 9999 51 (.float .f64 a) (.float .f64 b)).run Try.prog W = .ok (FloatKind.f64.format.order a b == some .eq) W := eq_flt 9998 a b W
theorem as_p (a b : Int) (w : World) : Calls Try.prog 27 #[.complex .f64 (fl a) (fl b)] w fun e w' => e = .returned (.agg #[.float .f64 (fl a), .float .f64 (fl b)]) ∧ Below w.heap.size w w' := as_t (a, b) w
theorem rnear_p (a b : Int) (h0 : sml a) (h1 : sml b) (w : World) : Calls Try.prog 31 #[.agg #[.float .f64 (fl a), .float .f64 (fl b)]] w fun e w' => e = .returned (.agg #[.float .f64 (fl (sg a)), .float .f64 (fl (sg b))]) ∧ Below w.heap.size w w' := rnear_t (a, b) h0 h1 w
theorem i8_sml {l : List Int} (h : ∀ b ∈ l, -128 ≤ b ∧ b ≤ 127) : ∀ p ∈ madeP l, sml p.1 ∧ sml p.2 := fun p hp => by
  have := madeP_bd h p hp
  unfold sml
  omega
theorem len_m (A : Option Addr) (l : List Int) (n c : Nat) (w : World) (hl : l.length / 2 = n) (hn : n ≤ 100000) (hb : ∀ b ∈ l, -128 ≤ b ∧ b ≤ 127) (hs : PSrc w A (madeP l)) :
    Calls Try.prog 36 #[.slice A n c] w fun e w' => e = .returned (.tuple #[.int .i64 (lenF (madeP l)), .int .i64 0]) ∧ w = w' := by
  subst hl
  have := length_t A (madeP l) c w (by rw [length_madeP]; exact hn) (fun p hp => by have := madeP_bd hb p hp; omega) hs
  rw [length_madeP] at this
  exact this
theorem err_m (A A' : Option Addr) (l k : List Int) (n c c' : Nat) (w : World) (hl : l.length / 2 = n) (hk : k.length / 2 = n) (hn : n ≤ 100000) (hb : ∀ b ∈ l, -128 ≤ b ∧ b ≤ 127) (hb' : ∀ b ∈ k, -128 ≤ b ∧ b ≤ 127) (hs : PSrc w A (madeP l)) (hs' : PSrc w A' (madeP k)) :
    Calls Try.prog 34 #[.slice A n c, .slice A' n c'] w fun e w' => e = .returned (.tuple #[.int .i64 (errF (madeP l) (madeP k) n), .int .i64 0]) ∧ Below w.heap.size w w' := by
  have := errors_t A A' (madeP l) (madeP k) c c' w (by rw [length_madeP]; omega) (by rw [length_madeP, length_madeP]; omega) (i8_sml hb) (i8_sml hb') hs hs'
  unfold ErrAns at this
  rw [length_madeP, length_madeP, hl, hk] at this
  exact this
theorem mix_m (A A' : Option Addr) (l k : List Int) (n c c' : Nat) (w : World) (hl : l.length / 2 = n) (hk : k.length / 2 = n) (hn : n ≤ 100000) (hb : ∀ b ∈ l, -128 ≤ b ∧ b ≤ 127) (hb' : ∀ b ∈ k, -128 ≤ b ∧ b ≤ 127) (hs : PSrc w A (madeP l)) (hs' : PSrc w A' (madeP k)) :
    Calls Try.prog 35 #[.slice A n c, .slice A' n c'] w fun e w' => (∃ A2, e = .returned (.tuple #[.slice A2 n n, .int .i64 0]) ∧ PSrc w' A2 (mixF (madeP l) (madeP k))) ∧ Below w.heap.size w w' := by
  have := mix_t A A' (madeP l) (madeP k) c c' w (by rw [length_madeP]; omega) (by rw [length_madeP, length_madeP]; omega) (i8_sml hb) (i8_sml hb') hs hs'
  rw [length_madeP, length_madeP, hl, hk] at this
  refine this.mono ?_
  rintro e w' ⟨⟨v, h1, A2, h2, h3⟩, h4⟩
  rw [length_mixF, length_madeP, hl] at h2
  exact ⟨⟨A2, by rw [h1, h2], h3⟩, h4⟩

set_option maxRecDepth 100000 in
theorem count_guard (A A' : Option Addr) (n m c c' : Nat) (w : World) (h : 1000 < n ∨ 1000 < m) :
    Calls Try.prog 7 #[.slice A n c, .slice A' m c'] w fun e w' => e = .returned (.bool true) ∧ Below w.heap.size w w' := by
  rcases Nat.lt_or_ge 1000 n with h1 | h1
  · have h2 : (1000 : Int) < (n : Int) := by omega
    clear h h1
    go_enter Try.func7, Try.ntmps7
    go_wp2_with (go_at_call 23; refine (alive6_any _).mono ?_; rintro e w1 ⟨rfl, hb⟩)
    go_ret
    exact ⟨rfl, hb⟩
  · have h2 : ¬ (1000 : Int) < (n : Int) := by omega
    have h3 : (1000 : Int) < (m : Int) := by omega
    clear h h1
    go_enter Try.func7, Try.ntmps7
    go_wp2_with (go_at_call 23; refine (alive6_any _).mono ?_; rintro e w1 ⟨rfl, hb⟩)
    go_ret
    exact ⟨rfl, hb⟩

set_option maxRecDepth 100000 in
set_option maxHeartbeats 12800000 in
theorem count_walk (A A' : Option Addr) (l k : List Int) (c c' : Nat) (w : World) (hn : l.length ≤ 1000) (hm : k.length ≤ 1000) (hb : ∀ b ∈ l, -128 ≤ b ∧ b ≤ 127) (hb' : ∀ b ∈ k, -128 ≤ b ∧ b ≤ 127) (hs : KSrc .i8 w A l) (hs' : KSrc .i8 w A' k) :
    Calls Try.prog 7 #[.slice A l.length c, .slice A' k.length c'] w fun e w' => e = .returned (.bool true) ∧ Below w.heap.size w w' := by
  have HS := Lib.hid hs
  have HS' := Lib.hid hs'
  have HB := Lib.hid hb
  have HB' := Lib.hid hb'
  have hn2 : ¬ (1000 : Int) < (l.length : Int) := by omega
  have hm2 : ¬ (1000 : Int) < (k.length : Int) := by omega
  clear hs hs' hb hb'
  go_enter Try.func7, Try.ntmps7
  go_wp2_with fail
  refine (made_t A l c w hn HS.out).mono ?_
  rintro e w1 ⟨⟨A1, c1, rfl, hp⟩, hb1⟩
  have HP1 := Lib.hid hp
  have HB1 := Lib.hid hb1
  clear hp hb1
  go_wp2_with fail
  refine (made_t A' k c' w1 hm (HS'.out.later HB1.out)).mono ?_
  rintro e w2 ⟨⟨A2, c2, rfl, hp⟩, hb2⟩
  have HP2 := Lib.hid (And.intro (HP1.out.later hb2) hp)
  have HB2 := Lib.hid (bl_step HB1.out hb2)
  clear hp hb2 HP1 HB1
  have hcase : l.length / 2 = k.length / 2 ∨ l.length / 2 ≠ k.length / 2 := Classical.em _
  have hna : l.length / 2 ≤ 500 := by omega
  have hnb : k.length / 2 ≤ 500 := by omega
  have HN := Lib.hid (show 2 * (l.length / 2) ≤ l.length by omega)
  have HM := Lib.hid (show 2 * (k.length / 2) ≤ k.length by omega)
  generalize hn3 : l.length / 2 = n at *
  generalize hm3 : k.length / 2 = m at *
  have HLn := Lib.hid hn3
  have HLm := Lib.hid hm3
  clear hn3 hm3
  rcases hcase with hcase | hcase
  · subst hcase
    have hq : ((n : Int) != (n : Int)) = false := by simp
    go_wp2_with fail
    refine (err_m A1 A2 l k n _ _ _ HLn.out HLm.out (by omega) HB.out HB'.out HP2.out.1 HP2.out.2).mono ?_
    rintro e w3 ⟨rfl, hb3⟩
    have HP3 := Lib.hid (And.intro (HP2.out.1.later hb3) (HP2.out.2.later hb3))
    have HB3 := Lib.hid (bl_step HB2.out hb3)
    clear hb3 HP2 HB2
    go_wp2_with fail
    refine (mix_m A1 A2 l k n _ _ _ HLn.out HLm.out (by omega) HB.out HB'.out HP3.out.1 HP3.out.2).mono ?_
    rintro e w4 ⟨⟨A3, rfl, hp⟩, hb4⟩
    have HD := Lib.hid (And.intro (HP3.out.1.later hb4) (And.intro (HP3.out.2.later hb4) hp))
    have HBD := Lib.hid (bl_step HB3.out hb4)
    clear hp hb4 HP3 HB3
    go_wp2_with fail
    refine (len_m A1 l n _ _ HLn.out (by omega) HB.out HD.out.1).mono ?_
    rintro e w5 ⟨rfl, rfl⟩
    go_wp2_with fail
    go_loopw [13, 14] (fun s i wr => ∃ j : Nat, j ≤ n ∧ s = .int .i64 (lenF ((madeP l).take j)) ∧ i = .int .i64 j ∧ Hid (PSrc wr A1 (madeP l) ∧ PSrc wr A2 (madeP k) ∧ PSrc wr A3 (mixF (madeP l) (madeP k))) ∧ Hid (Below w.heap.size w wr)) (fun _ i _ => n - (intOf i).toNat)
    case atStart => exact ⟨0, by omega, by rw [List.take_zero]; rfl, rfl, HD, HBD⟩
    case round =>
      obtain ⟨j, hj, rfl, rfl, HE, HBE⟩ := hrel
      clear HD HBD
      by_cases hlt : j < n
      · obtain ⟨x, y, hx, hy, hxy⟩ := madeP_parts (l := l) (k := j) (by rw [HLn.out]; exact hlt)
        obtain ⟨g, off, rfl, c0⟩ := HS.out _ x hx
        obtain ⟨g', off', he, c1⟩ := HS.out _ y hy
        obtain ⟨rfl, rfl⟩ : g = g' ∧ off = off' := by simpa using he
        have d0 : wr.drew.cell? ⟨g, off + 2 * j, none⟩ = some (.int .i8 x) := kept_box HBE.out.drew c0
        have d1 : wr.drew.cell? ⟨g, off + (2 * j + 1), none⟩ = some (.int .i8 y) := kept_box HBE.out.drew c1
        have hbx := HB.out x (List.mem_of_getElem? hx)
        have hby := HB.out y (List.mem_of_getElem? hy)
        have HZ := Lib.hid (lenF_snoc ((madeP l).take j) (x, y))
        rw [← take_snocP hxy] at HZ
        have hbd := lenF_bd (L := (madeP l).take j) fun q hq => by have := madeP_bd HB.out q (List.mem_of_mem_take hq); omega
        have hle : (((madeP l).take j).length : Int) ≤ 500 := by have := List.length_take_le j (madeP l); omega
        have hlo : 0 ≤ lenF ((madeP l).take j) := hbd.1
        have hhi : lenF ((madeP l).take j) ≤ 1000000000 := by have := hbd.2; omega
        have qa := sq_bd (a := x) (by omega)
        have qb := sq_bd (a := y) (by omega)
        obtain ⟨qa0, qa1⟩ := qa
        obtain ⟨qb0, qb1⟩ := qb
        have v1 : IntKind.i64.wrap (x * x) = x * x := IntWalk.i64_in _ (by omega)
        have v2 : IntKind.i64.wrap (y * y) = y * y := IntWalk.i64_in _ (by omega)
        have hj1 : (j : Int) < (n : Int) := by omega
        have hk0 : (0 : Int) ≤ 2 * (j : Int) := by omega
        have hnn := HN.out
        have hk1 : 2 * (j : Int) + 1 < (l.length : Int) := by omega
        have hk2 : 2 * (j : Int) < (l.length : Int) := by omega
        have v3 : IntKind.i64.wrap (2 * (j : Int)) = 2 * (j : Int) := IntWalk.i64_in _ (by omega)
        have v4 : IntKind.i64.wrap (2 * (j : Int) + 1) = 2 * (j : Int) + 1 := IntWalk.i64_in _ (by omega)
        have v5 : (0 : Int) ≤ 2 * (j : Int) + 1 := by omega
        have v6 : (2 * (j : Int) + 1).toNat = 2 * j + 1 := by omega
        have v7 : (2 * (j : Int)).toNat = 2 * j := by omega
        have HE2 := Lib.hid (show PSrc wr.drew A1 (madeP l) ∧ PSrc wr.drew A2 (madeP k) ∧ PSrc wr.drew A3 (mixF (madeP l) (madeP k)) from HE.out)
        have HB2 := Lib.hid HBE.out.drew
        obtain ⟨hbx0, hbx1⟩ := hbx
        obtain ⟨hby0, hby1⟩ := hby
        generalize hSS : lenF ((madeP l).take j) = S at *
        clear hx hy hxy c0 c1 he hbd hle hSS hnn
        go_wp2_with fail
        refine wp_region_still_lit (by kernel_rfl) (by kernel_rfl) ?_
        change wpStill _ _ wr.drew (fun b => _) _ _
        generalize wr.drew = w9 at d0 d1 ⊢
        repeat still_step
        refine wpStill_nil ?_
        go_wp2
        go_roundw
        case rel => exact ⟨j + 1, by omega, congrArg (Value.int .i64) (by have := HZ.out; omega), by go_num, HE2, HB2⟩
        case measure => simp [intOf]; omega
      · obtain rfl : j = n := by omega
        have HT := Lib.hid (show lenF ((madeP l).take j) = lenF (madeP l) by rw [List.take_of_length_le (by rw [length_madeP, HLn.out]; exact Nat.le_refl _)])
        rw [HT.out]
        have hj1 : ¬ (j : Int) < (j : Int) := by omega
        go_wp2_with fail
        go_loopw [17, 18] (fun s i wr => ∃ i2 : Nat, i2 ≤ j ∧ s = .int .i64 (errF (madeP l) (madeP k) i2) ∧ i = .int .i64 i2 ∧ Hid (PSrc wr A1 (madeP l) ∧ PSrc wr A2 (madeP k) ∧ PSrc wr A3 (mixF (madeP l) (madeP k))) ∧ Hid (Below w.heap.size w wr)) (fun _ i _ => j - (intOf i).toNat)
        case atStart => exact ⟨0, by omega, rfl, rfl, HE, HBE⟩
        case round =>
          obtain ⟨i, hi, rfl, rfl, HF, HBF⟩ := hrel
          clear HE HBE
          by_cases hlt : i < j
          · obtain ⟨x, y, hx, hy, hxy⟩ := madeP_parts (l := l) (k := i) (by rw [HLn.out]; exact hlt)
            obtain ⟨x', y', hx', hy', hxy'⟩ := madeP_parts (l := k) (k := i) (by rw [HLm.out]; exact hlt)
            have hmx := mixF_at hxy hxy'
            obtain ⟨g, off, rfl, c0⟩ := HS.out _ x hx
            obtain ⟨g', off', he, c1⟩ := HS.out _ y hy
            obtain ⟨rfl, rfl⟩ : g = g' ∧ off = off' := by simpa using he
            obtain ⟨h, off2, rfl, c2⟩ := HS'.out _ x' hx'
            obtain ⟨h', off2', he', c3⟩ := HS'.out _ y' hy'
            obtain ⟨rfl, rfl⟩ : h = h' ∧ off2 = off2' := by simpa using he'
            obtain ⟨g1, rfl, d1⟩ := HF.out.1 i _ hxy
            obtain ⟨g2, rfl, d2⟩ := HF.out.2.1 i _ hxy'
            obtain ⟨g3, rfl, d3⟩ := HF.out.2.2 i _ hmx
            have b0 : wr.cell? ⟨g, off + 2 * i, none⟩ = some (.int .i8 x) := kept_box HBF.out c0
            have b1 : wr.cell? ⟨g, off + (2 * i + 1), none⟩ = some (.int .i8 y) := kept_box HBF.out c1
            have b2 : wr.cell? ⟨h, off2 + 2 * i, none⟩ = some (.int .i8 x') := kept_box HBF.out c2
            have b3 : wr.cell? ⟨h, off2 + (2 * i + 1), none⟩ = some (.int .i8 y') := kept_box HBF.out c3
            simp only [cpx] at d1 d2 d3
            have hbx := HB.out x (List.mem_of_getElem? hx)
            have hby := HB.out y (List.mem_of_getElem? hy)
            have hbx' := HB'.out x' (List.mem_of_getElem? hx')
            have hby' := HB'.out y' (List.mem_of_getElem? hy')
            have HZ := Lib.hid (errF_succ hxy hxy')
            have hle := errF_le (madeP l) (madeP k) i
            have hd : difB (x, y) (x', y') = !(decide (sg x = sg x') && decide (sg y = sg y')) := rfl
            have e1 := fl_eq (sml_sg x) (sml_sg x')
            have e2 := fl_eq (sml_sg y) (sml_sg y')
            rw [← e1, ← e2] at hd
            have HD := Lib.hid hd
            have o1 := fl_eq (a := x + x') (b := x + x') (by unfold sml; omega) (by unfold sml; omega)
            have o2 := fl_eq (a := y + y') (b := y + y') (by unfold sml; omega) (by unfold sml; omega)
            rw [decide_eq_true rfl] at o1 o2
            have s1 : sml x := by unfold sml; omega
            have s2 : sml y := by unfold sml; omega
            have s3 : sml x' := by unfold sml; omega
            have s4 : sml y' := by unfold sml; omega
            have hi1 : (i : Int) < (j : Int) := by omega
            have hi0 : (0 : Int) ≤ (i : Int) := by omega
            generalize errF (madeP l) (madeP k) i = S at *
            clear hx hy hxy hx' hy' hxy' hmx c0 c1 c2 c3 he he' hd e1 e2
            have heq := eq_flt9
            cases f1 : (FloatKind.f64.format.order (fl (sg x)) (fl (sg x')) == some .eq) <;> cases f2 : (FloatKind.f64.format.order (fl (sg y)) (fl (sg y')) == some .eq)
            all_goals
              go_wp2_with fail
              go_region_held3 (fun w' => w'.cell? ⟨g1, i, none⟩ = some (.complex .f64 (fl x) (fl y)) ∧ w'.cell? ⟨g2, i, none⟩ = some (.complex .f64 (fl x') (fl y'))) (go_keep) (first
                | (go_at_call 27; (with_reducible refine (as_p x y _).mono ?_); rintro e v1 ⟨rfl, hv1⟩; have q1 := kept_box hv1 (show wr.drew.cell? _ = _ from d1); have q2 := kept_box hv1 (show wr.drew.cell? _ = _ from d2); have HV1 := Lib.hid (bl_step (bl_drew (Below.refl _ _)) hv1); clear hv1)
                | (go_at_call 31; (with_reducible refine (rnear_p x y s1 s2 _).mono ?_); rintro e v2 ⟨rfl, hv2⟩; have q3 := kept_box hv2 q1; have q4 := kept_box hv2 q2; have HV2 := Lib.hid (bl_step HV1.out hv2); clear hv2)
                | (go_at_call 27; (with_reducible refine (as_p x' y' _).mono ?_); rintro e v3 ⟨rfl, hv3⟩; have q5 := kept_box hv3 q3; have q6 := kept_box hv3 q4; have HV3 := Lib.hid (bl_step HV2.out hv3); clear hv3)
                | (go_at_call 31; (with_reducible refine (rnear_p x' y' s3 s4 _).mono ?_); rintro e v4 ⟨rfl, hv4⟩; have q7 := kept_box hv4 q5; have q8 := kept_box hv4 q6; have HV4 := Lib.hid (bl_step HV3.out hv4); clear hv4))
              have HF4 := Lib.hid (And.intro (HF.out.1.later HV4.out) (And.intro (HF.out.2.1.later HV4.out) (HF.out.2.2.later HV4.out)))
              have HB4 := Lib.hid (bl_step HBF.out HV4.out)
              have d3' := kept_box HV4.out d3
              have b0' := kept_box HV4.out b0
              have b1' := kept_box HV4.out b1
              have b2' := kept_box HV4.out b2
              have b3' := kept_box HV4.out b3
              have wx : IntKind.i64.wrap x = x := IntWalk.i64_in _ (by omega)
              have wy : IntKind.i64.wrap y = y := IntWalk.i64_in _ (by omega)
              have wx' : IntKind.i64.wrap x' = x' := IntWalk.i64_in _ (by omega)
              have wy' : IntKind.i64.wrap y' = y' := IntWalk.i64_in _ (by omega)
              have v1 : IntKind.i64.wrap (x + x') = x + x' := IntWalk.i64_in _ (by omega)
              have v2 : IntKind.i64.wrap (y + y') = y + y' := IntWalk.i64_in _ (by omega)
              have v3 : IntKind.i64.wrap (2 * (i : Int)) = 2 * (i : Int) := IntWalk.i64_in _ (by omega)
              have v4 : IntKind.i64.wrap (2 * (i : Int) + 1) = 2 * (i : Int) + 1 := IntWalk.i64_in _ (by omega)
              have v5 : (0 : Int) ≤ 2 * (i : Int) + 1 := by omega
              have v6 : (2 * (i : Int) + 1).toNat = 2 * i + 1 := by omega
              have v7 : (2 * (i : Int)).toNat = 2 * i := by omega
              have hnn := HN.out
              have hmm := HM.out
              have v8 : (0 : Int) ≤ 2 * (i : Int) := by omega
              have v9 : 2 * (i : Int) < (l.length : Int) := by omega
              have v10 : 2 * (i : Int) + 1 < (l.length : Int) := by omega
              have v11 : 2 * (i : Int) < (k.length : Int) := by omega
              have v12 : 2 * (i : Int) + 1 < (k.length : Int) := by omega
              have p1 : (FloatKind.f64.format.order (fl (x + x')) (floatOfInt .f64 (x + x')) == some .eq) = true := o1
              have p2 : (FloatKind.f64.format.order (fl (y + y')) (floatOfInt .f64 (y + y')) == some .eq) = true := o2
              rw [f1, f2] at HD
              clear q1 q2 q3 q4 q5 q6 q7 q8 d1 d2 d3 b0 b1 b2 b3 HV1 HV2 HV3 HV4 o1 o2 hnn hmm s1 s2 s3 s4 f1 f2
              go_wp2_with fail
              go_region_held3 (fun w' => w'.cell? ⟨g3, i, none⟩ = some (.complex .f64 (fl (x + x')) (fl (y + y'))) ∧ w'.cell? ⟨g, off + 2 * i, none⟩ = some (.int .i8 x) ∧ w'.cell? ⟨g, off + (2 * i + 1), none⟩ = some (.int .i8 y) ∧ w'.cell? ⟨h, off2 + 2 * i, none⟩ = some (.int .i8 x') ∧ w'.cell? ⟨h, off2 + (2 * i + 1), none⟩ = some (.int .i8 y')) (go_keep) (first
                | (go_at_call 27; (with_reducible refine (as_p (x + x') (y + y') _).mono ?_); rintro e z5 ⟨rfl, hz5⟩; have r1 := kept_box hz5 d3'; have r2 := kept_box hz5 b0'; have r3 := kept_box hz5 b1'; have r4 := kept_box hz5 b2'; have r5 := kept_box hz5 b3'; have HF5 := Lib.hid (And.intro (HF4.out.1.later (bl_step (bl_drew (Below.refl _ _)) hz5)) (And.intro (HF4.out.2.1.later (bl_step (bl_drew (Below.refl _ _)) hz5)) (HF4.out.2.2.later (bl_step (bl_drew (Below.refl _ _)) hz5)))); have HB5 := Lib.hid (bl_step (bl_drew HB4.out) hz5); clear hz5))
              go_wp2
              go_roundw
              case rel => exact ⟨i + 1, by omega, by rw [HZ.out, HD.out]; first | go_num | rfl, by go_num, HF5, HB5⟩
              case measure => simp [intOf]; omega
          · obtain rfl : i = j := by omega
            have hi1 : ¬ (i : Int) < (i : Int) := by omega
            go_wp2_with (go_at_call 23; refine (alive6_any _).mono ?_; rintro e w9 ⟨rfl, hb9⟩)
            go_ret
            exact ⟨rfl, bl_step HBF.out hb9⟩
  · have hq : ((n : Int) != (m : Int)) = true := by simp; omega
    go_wp2_with fail
    refine (errors_ne A1 A2 n m _ _ hcase _).mono ?_
    rintro e w3 ⟨rfl, rfl⟩
    go_wp2_with fail
    refine (mix_ne A1 A2 n m _ _ hcase _).mono ?_
    rintro e w4 ⟨rfl, rfl⟩
    go_wp2_with fail
    refine (len_m A1 l n _ _ HLn.out (by omega) HB.out HP2.out.1).mono ?_
    rintro e w5 ⟨rfl, rfl⟩
    go_wp2_with fail
    have HD := HP2
    have HBD := HB2
    clear HP2 HB2
    go_loopw [13, 14] (fun s i wr => ∃ j : Nat, j ≤ n ∧ s = .int .i64 (lenF ((madeP l).take j)) ∧ i = .int .i64 j ∧ Hid (PSrc wr A1 (madeP l) ∧ PSrc wr A2 (madeP k)) ∧ Hid (Below w.heap.size w wr)) (fun _ i _ => n - (intOf i).toNat)
    case atStart => exact ⟨0, by omega, by rw [List.take_zero]; rfl, rfl, HD, HBD⟩
    case round =>
      obtain ⟨j, hj, rfl, rfl, HE, HBE⟩ := hrel
      clear HD HBD
      by_cases hlt : j < n
      · obtain ⟨x, y, hx, hy, hxy⟩ := madeP_parts (l := l) (k := j) (by rw [HLn.out]; exact hlt)
        obtain ⟨g, off, rfl, c0⟩ := HS.out _ x hx
        obtain ⟨g', off', he, c1⟩ := HS.out _ y hy
        obtain ⟨rfl, rfl⟩ : g = g' ∧ off = off' := by simpa using he
        have d0 : wr.drew.cell? ⟨g, off + 2 * j, none⟩ = some (.int .i8 x) := kept_box HBE.out.drew c0
        have d1 : wr.drew.cell? ⟨g, off + (2 * j + 1), none⟩ = some (.int .i8 y) := kept_box HBE.out.drew c1
        have hbx := HB.out x (List.mem_of_getElem? hx)
        have hby := HB.out y (List.mem_of_getElem? hy)
        have HZ := Lib.hid (lenF_snoc ((madeP l).take j) (x, y))
        rw [← take_snocP hxy] at HZ
        have hbd := lenF_bd (L := (madeP l).take j) fun q hq => by have := madeP_bd HB.out q (List.mem_of_mem_take hq); omega
        have hle : (((madeP l).take j).length : Int) ≤ 500 := by have := List.length_take_le j (madeP l); omega
        have hlo : 0 ≤ lenF ((madeP l).take j) := hbd.1
        have hhi : lenF ((madeP l).take j) ≤ 1000000000 := by have := hbd.2; omega
        have qa := sq_bd (a := x) (by omega)
        have qb := sq_bd (a := y) (by omega)
        obtain ⟨qa0, qa1⟩ := qa
        obtain ⟨qb0, qb1⟩ := qb
        have v1 : IntKind.i64.wrap (x * x) = x * x := IntWalk.i64_in _ (by omega)
        have v2 : IntKind.i64.wrap (y * y) = y * y := IntWalk.i64_in _ (by omega)
        have hj1 : (j : Int) < (n : Int) := by omega
        have hk0 : (0 : Int) ≤ 2 * (j : Int) := by omega
        have hnn := HN.out
        have hk1 : 2 * (j : Int) + 1 < (l.length : Int) := by omega
        have hk2 : 2 * (j : Int) < (l.length : Int) := by omega
        have v3 : IntKind.i64.wrap (2 * (j : Int)) = 2 * (j : Int) := IntWalk.i64_in _ (by omega)
        have v4 : IntKind.i64.wrap (2 * (j : Int) + 1) = 2 * (j : Int) + 1 := IntWalk.i64_in _ (by omega)
        have v5 : (0 : Int) ≤ 2 * (j : Int) + 1 := by omega
        have v6 : (2 * (j : Int) + 1).toNat = 2 * j + 1 := by omega
        have v7 : (2 * (j : Int)).toNat = 2 * j := by omega
        have HE2 := Lib.hid (show PSrc wr.drew A1 (madeP l) ∧ PSrc wr.drew A2 (madeP k) from HE.out)
        have HB2 := Lib.hid HBE.out.drew
        obtain ⟨hbx0, hbx1⟩ := hbx
        obtain ⟨hby0, hby1⟩ := hby
        generalize hSS : lenF ((madeP l).take j) = S at *
        clear hx hy hxy c0 c1 he hbd hle hSS hnn
        go_wp2_with fail
        refine wp_region_still_lit (by kernel_rfl) (by kernel_rfl) ?_
        change wpStill _ _ wr.drew (fun b => _) _ _
        generalize wr.drew = w9 at d0 d1 ⊢
        repeat still_step
        refine wpStill_nil ?_
        go_wp2
        go_roundw
        case rel => exact ⟨j + 1, by omega, congrArg (Value.int .i64) (by have := HZ.out; omega), by go_num, HE2, HB2⟩
        case measure => simp [intOf]; omega
      · obtain rfl : j = n := by omega
        have HT := Lib.hid (show lenF ((madeP l).take j) = lenF (madeP l) by rw [List.take_of_length_le (by rw [length_madeP, HLn.out]; exact Nat.le_refl _)])
        rw [HT.out]
        have hj1 : ¬ (j : Int) < (j : Int) := by omega
        go_wp2_with (go_at_call 23; refine (alive6_any _).mono ?_; rintro e w9 ⟨rfl, hb9⟩)
        go_ret
        exact ⟨rfl, bl_step HBE.out hb9⟩
end Go.Proofs.Ytieokmmejdngcaa
