/-
  PointsBack: bytes go there and back; by k quarters and then by m points come where both together lead, by four to where they were.
-/
import Derived.Test.YtieokmmejdngcaaPArgs
namespace Go.Proofs.Ytieokmmejdngcaa
open Go.RowKit

theorem turn_turn (a b : Nat) (p : Int × Int) : turnN a (turnN b p) = turnN (b + a) p := by
  induction b generalizing p with
  | zero => rw [Nat.zero_add]; rfl
  | succ b ih =>
    rw [show b + 1 + a = (b + a) + 1 by omega]
    exact ih (turn1 p)
theorem turn_four (p : Int × Int) : turnN 4 p = p := by
  obtain ⟨a, b⟩ := p
  simp [turnN, turn1]
theorem turn_add4 (q : Nat) (p : Int × Int) : turnN (q + 4) p = turnN q p := by
  rw [← turn_turn 4 q, turn_four]
theorem turn_mod (q : Nat) (p : Int × Int) : turnN (q % 4) p = turnN q p := by
  have h : ∀ n, turnN (q % 4 + 4 * n) p = turnN (q % 4) p := by
    intro n
    induction n with
    | zero => rfl
    | succ n ih => rw [show q % 4 + 4 * (n + 1) = (q % 4 + 4 * n) + 4 by omega, turn_add4, ih]
  have := h (q / 4)
  rw [show q % 4 + 4 * (q / 4) = q by omega] at this
  exact this.symm
theorem turn_congr {a b : Nat} (h : a % 4 = b % 4) (p : Int × Int) : turnN a p = turnN b p := by
  rw [← turn_mod a, ← turn_mod b, h]
theorem turns_map (L : List (Int × Int)) (a b : Nat) : (L.map (turnN a)).map (turnN b) = L.map (turnN (a + b)) := by
  rw [List.map_map]
  refine List.map_congr_left fun p _ => ?_
  exact turn_turn b a p
theorem turns_congr {L : List (Int × Int)} {a b : Nat} (h : a % 4 = b % 4) : L.map (turnN a) = L.map (turnN b) := List.map_congr_left fun p _ => turn_congr h p
theorem turns_four {L : List (Int × Int)} (h : ∀ p ∈ L, four p) (q : Nat) : ∀ p ∈ L.map (turnN q), four p := by
  intro p hp
  obtain ⟨r, hr, rfl⟩ := List.mem_map.1 hp
  exact four_turnN q (h r hr)
theorem four_sml {p : Int × Int} (h : four p) : sml p.1 ∧ sml p.2 := ⟨pm_sml h.1, pm_sml h.2⟩

theorem nb_bit (x : Nat) (hx : x < 2) : nb (1 - 2 * (x : Int)) = x := by unfold nb; split <;> omega
theorem dig_ptOf (b r : Nat) : dig (ptOf b r) = 2 * (b / 2 ^ (7 - 2 * r) % 2) + b / 2 ^ (6 - 2 * r) % 2 := by
  unfold dig ptOf
  simp only
  rw [nb_bit _ (Nat.mod_lt _ (by omega)), nb_bit _ (Nat.mod_lt _ (by omega))]
theorem bits_make : ((List.range 256).all fun b => 4 * (4 * (4 * (4 * 0 + (2 * (b / 2 ^ (7 - 2 * 0) % 2) + b / 2 ^ (6 - 2 * 0) % 2)) + (2 * (b / 2 ^ (7 - 2 * 1) % 2) + b / 2 ^ (6 - 2 * 1) % 2)) + (2 * (b / 2 ^ (7 - 2 * 2) % 2) + b / 2 ^ (6 - 2 * 2) % 2)) + (2 * (b / 2 ^ (7 - 2 * 3) % 2) + b / 2 ^ (6 - 2 * 3) % 2) == b) = true := by decide +kernel
theorem back_of {l : List Nat} (h : ∀ b ∈ l, b < 256) : backB (ptsL l) = l := by
  have hl : (ptsL l).length / 4 = l.length := by rw [length_ptsL]; omega
  refine List.ext_getElem? fun q => ?_
  unfold backB
  rw [hl, List.getElem?_map]
  rcases Nat.lt_or_ge q l.length with hq | hq
  · rw [List.getElem?_range hq]
    obtain ⟨b, hb⟩ : ∃ b, l[q]? = some b := ⟨_, List.getElem?_eq_getElem hq⟩
    have hb8 := h b (List.mem_of_getElem? hb)
    have hd : ∀ r, r < 4 → dig ((ptsL l).getD (4 * q + r) (0, 0)) = 2 * (b / 2 ^ (7 - 2 * r) % 2) + b / 2 ^ (6 - 2 * r) % 2 := by
      intro r hr
      have e1 : (4 * q + r) / 4 = q := by omega
      have e2 : (4 * q + r) % 4 = r := by omega
      have := ptsL_at (l := l) (i := 4 * q + r) (b := b) (by rw [e1]; exact hb)
      rw [e2] at this
      rw [List.getD_eq_getElem?_getD, this, Option.getD_some, dig_ptOf]
    rw [hb]
    simp only [Option.map_some]
    congr 1
    show 4 * (4 * (4 * (4 * 0 + dig ((ptsL l).getD (4 * q + 0) (0, 0))) + dig ((ptsL l).getD (4 * q + 1) (0, 0))) + dig ((ptsL l).getD (4 * q + 2) (0, 0))) + dig ((ptsL l).getD (4 * q + 3) (0, 0)) = b
    rw [hd 0 (by omega), hd 1 (by omega), hd 2 (by omega), hd 3 (by omega)]
    have := List.all_eq_true.1 bits_make b (List.mem_range.2 hb8)
    simpa using this
  · rw [List.getElem?_eq_none (by simpa using hq), List.getElem?_eq_none hq]
    rfl
theorem ok_of (l : List Nat) : okB (ptsL l) = true := by
  unfold okB
  rw [length_ptsL, Bool.and_eq_true]
  refine ⟨by simp, List.all_eq_true.2 fun p hp => (fourB_iff p).2 (ptsL_four l p hp)⟩
theorem BSrc.later {w v : World} {A : Option Addr} {l : List Nat} (h : BSrc w A l) (hb : Below w.heap.size w v) : BSrc v A l := fun i b hi => by
  obtain ⟨g, off, h1, h2⟩ := h i b hi
  exact ⟨g, off, h1, kept_box hb h2⟩
/-- of points that bytes are: just these bytes -/
theorem back_pts (A : Option Addr) (l : List Nat) (c : Nat) (w : World) (hn : l.length ≤ 10000) (hb : ∀ b ∈ l, b < 256) (hs : PSrc w A (ptsL l)) :
    Calls Try.prog 32 #[.slice A (ptsL l).length c] w fun e w' => (∃ v, e = .returned (.tuple #[v, .int .i64 0]) ∧ BRow w' v l) ∧ Below w.heap.size w w' := by
  refine (back_t A (ptsL l) c w (by rw [length_ptsL]; omega) (fun p hp => four_sml (ptsL_four l p hp)) hs).mono ?_
  rintro e w' ⟨h | h, hb'⟩
  · obtain ⟨_, v, h1, h2⟩ := h
    rw [back_of hb] at h2
    exact ⟨⟨v, h1, h2⟩, hb'⟩
  · have := h.1
    rw [ok_of] at this
    cases this

/-- the same, the length a number of its own -/
theorem turn_n (A : Option Addr) (M : List (Int × Int)) (n c : Nat) (k : Int) (w : World) (hl : M.length = n) (hn : n ≤ 100000) (h4 : ∀ p ∈ M, four p) (hs : PSrc w A M) :
    Calls Try.prog 26 #[.slice A n c, .int .i64 k] w fun e w' => (∃ A', e = .returned (.slice A' n n) ∧ PSrc w' A' (M.map (turnN (k % 4).toNat))) ∧ Below w.heap.size w w' := by
  subst hl
  refine (turn_t A M c k w hn h4 hs).mono ?_
  rintro e w' ⟨⟨v, h1, A', h2, h3⟩, hb⟩
  refine ⟨⟨A', ?_, h3⟩, hb⟩
  rw [h1, h2, List.length_map]
theorem back_n (A : Option Addr) (l : List Nat) (n c : Nat) (w : World) (hl : (ptsL l).length = n) (hn : l.length ≤ 10000) (hb : ∀ b ∈ l, b < 256) (hs : PSrc w A (ptsL l)) :
    Calls Try.prog 32 #[.slice A n c] w fun e w' => (∃ A', e = .returned (.tuple #[.slice A' l.length l.length, .int .i64 0]) ∧ BSrc w' A' l) ∧ Below w.heap.size w w' := by
  subst hl
  refine (back_pts A l c w hn hb hs).mono ?_
  rintro e w' ⟨⟨v, h1, A', h2, h3⟩, hb⟩
  exact ⟨⟨A', by rw [h1, h2], h3⟩, hb⟩
theorem of_n (A : Option Addr) (l : List Nat) (n c : Nat) (w : World) (hl : (ptsL l).length = n) (hn : l.length ≤ 10000) (hb : ∀ b ∈ l, b < 256) (hs : BSrc w A l) :
    Calls Try.prog 24 #[.slice A l.length c] w fun e w' => (∃ A', e = .returned (.slice A' n n) ∧ PSrc w' A' (ptsL l)) ∧ Below w.heap.size w w' := by
  subst hl
  refine (of_t A l c w hn hb hs).mono ?_
  rintro e w' ⟨⟨v, h1, A', h2, h3⟩, hb⟩
  exact ⟨⟨A', by rw [h1, h2], h3⟩, hb⟩

set_option maxHeartbeats 400000 in
theorem back_guard (A : Option Addr) (n c : Nat) (k m : Int) (w : World) (hn : 1000 < n) :
    Calls Try.prog 8 #[.slice A n c, .int .i8 k, .int .i8 m] w fun e w' => e = .returned (.bool true) ∧ Below w.heap.size w w' := by
  have h : (1000 : Int) < (n : Int) := by omega
  clear hn
  go_enter Try.func8, Try.ntmps8
  go_wp2_with (go_at_call 23; refine (alive6_any _).mono ?_; rintro e w1 ⟨rfl, hb⟩)
  go_ret
  exact ⟨rfl, hb⟩

/-- the four lists of points that PointsBack has -/
def FourRows (w : World) (A1 A3 A4 A6 : Option Addr) (L : List (Int × Int)) (q : Nat) : Prop :=
  PSrc w A1 L ∧ PSrc w A3 (L.map (turnN q)) ∧ PSrc w A4 (L.map (turnN q)) ∧ PSrc w A6 L
theorem FourRows.later {w v : World} {A1 A3 A4 A6 : Option Addr} {L : List (Int × Int)} {q : Nat} (h : FourRows w A1 A3 A4 A6 L q) (hb : Below w.heap.size w v) : FourRows v A1 A3 A4 A6 L q :=
  ⟨h.1.later hb, h.2.1.later hb, h.2.2.1.later hb, h.2.2.2.later hb⟩

set_option maxRecDepth 100000 in
set_option maxHeartbeats 1600000 in
theorem back_walk (A : Option Addr) (l : List Nat) (c : Nat) (k m : Int) (w : World) (hn : l.length ≤ 1000) (hk : -128 ≤ k ∧ k ≤ 127) (hm : -128 ≤ m ∧ m ≤ 127) (hb : ∀ b ∈ l, b < 256) (hs : BSrc w A l) :
    Calls Try.prog 8 #[.slice A l.length c, .int .i8 k, .int .i8 m] w fun e w' => e = .returned (.bool true) ∧ Below w.heap.size w w' := by
  have HS := Lib.hid hs
  have HB := Lib.hid hb
  obtain ⟨hk0, hk1⟩ := hk
  obtain ⟨hm0, hm1⟩ := hm
  have hn2 : ¬ (1000 : Int) < (l.length : Int) := by omega
  obtain ⟨n, hL⟩ : ∃ n, (ptsL l).length = n := ⟨_, rfl⟩
  have hn4 : n ≤ 4000 := by rw [← hL, length_ptsL]; omega
  have HL := Lib.hid hL
  have H4 := Lib.hid (ptsL_four l)
  clear hs hb hL
  go_enter Try.func8, Try.ntmps8
  go_wp2_with fail
  refine (of_n A l n c w HL.out (by omega) HB.out HS.out).mono ?_
  rintro e w1 ⟨⟨A1, rfl, hp⟩, hb1⟩
  have HP1 := Lib.hid hp
  have HB1 := Lib.hid hb1
  clear hp hb1
  go_wp2_with fail
  refine (turn_n A1 (ptsL l) n _ k _ HL.out (by omega) H4.out HP1.out).mono ?_
  rintro e w2 ⟨⟨A2, rfl, hp⟩, hb2⟩
  have HP2 := Lib.hid hp
  have HP1b := Lib.hid (HP1.out.later hb2)
  have HB2 := Lib.hid (bl_step HB1.out hb2)
  clear hp hb2 HP1 HB1
  go_wp2_with fail
  refine (turn_n A2 ((ptsL l).map (turnN (k % 4).toNat)) n _ m _ (by rw [List.length_map]; exact HL.out) (by omega) (turns_four H4.out _) HP2.out).mono ?_
  rintro e w3 ⟨⟨A3, rfl, hp⟩, hb3⟩
  rw [turns_map] at hp
  have HP3 := Lib.hid hp
  have HP1c := Lib.hid (HP1b.out.later hb3)
  have HB3 := Lib.hid (bl_step HB2.out hb3)
  clear hp hb3 HP1b HB2 HP2
  go_wp2_with fail
  refine (turn_n A1 (ptsL l) n _ (k + m) _ HL.out (by omega) H4.out HP1c.out).mono ?_
  rintro e w4 ⟨⟨A4, rfl, hp⟩, hb4⟩
  rw [turns_congr (b := (k % 4).toNat + (m % 4).toNat) (by omega)] at hp
  have HP4 := Lib.hid (And.intro (HP1c.out.later hb4) (And.intro (HP3.out.later hb4) hp))
  have HB4 := Lib.hid (bl_step HB3.out hb4)
  clear hp hb4 HP1c HB3 HP3
  generalize hq : (k % 4).toNat + (m % 4).toNat = q at *
  have HQ := Lib.hid hq
  clear hq
  go_wp2_with fail
  refine (turn_n A3 ((ptsL l).map (turnN q)) n _ (-k - m) _ (by rw [List.length_map]; exact HL.out) (by omega) (turns_four H4.out _) HP4.out.2.1).mono ?_
  rintro e w5 ⟨⟨A5, rfl, hp⟩, hb5⟩
  rw [turns_map, turns_congr (b := 0) (by have := HQ.out; omega), show (ptsL l).map (turnN 0) = ptsL l from List.map_id' _] at hp
  have HP5 := Lib.hid (And.intro (HP4.out.1.later hb5) (And.intro (HP4.out.2.1.later hb5) (And.intro (HP4.out.2.2.later hb5) hp)))
  have HB5 := Lib.hid (bl_step HB4.out hb5)
  clear hp hb5 HP4 HB4
  go_wp2_with fail
  refine (turn_n A1 (ptsL l) n _ 4 _ HL.out (by omega) H4.out HP5.out.1).mono ?_
  rintro e w6 ⟨⟨A6, rfl, hp⟩, hb6⟩
  rw [turns_congr (b := 0) (by decide), show (ptsL l).map (turnN 0) = ptsL l from List.map_id' _] at hp
  have HF6 := Lib.hid (show FourRows w6 A1 A3 A4 A6 (ptsL l) q from ⟨HP5.out.1.later hb6, HP5.out.2.1.later hb6, HP5.out.2.2.1.later hb6, hp⟩)
  have HP6 := Lib.hid (HP5.out.2.2.2.later hb6)
  have HB6 := Lib.hid (bl_step HB5.out hb6)
  clear hp hb6 HP5 HB5
  go_wp2_with fail
  refine (back_n A5 l n _ _ HL.out (by omega) HB.out HP6.out).mono ?_
  rintro e w7 ⟨⟨A7, rfl, hr⟩, hb7⟩
  have HF7 := Lib.hid (HF6.out.later hb7)
  have HB7 := Lib.hid (bl_step HB6.out hb7)
  have hv1 := conv_b (c := l.length) hr HB.out
  have hv2 := conv_b (c := c) (HS.out.later HB7.out) HB.out
  clear hr hb7 HF6 HB6 HP6
  go_wp2_with fail
  clear hv1 hv2
  go_loopw [14] (fun i wr => ∃ j : Nat, j ≤ n ∧ i = .int .i64 j ∧ Hid (FourRows wr A1 A3 A4 A6 (ptsL l) q) ∧ Hid (Below w.heap.size w wr)) (fun i _ => n - (intOf i).toNat)
  case atStart => exact ⟨0, by omega, rfl, HF7, HB7⟩
  case round =>
    obtain ⟨j, hj, rfl, HF, HBW⟩ := hrel
    clear HF7 HB7
    by_cases hlt : j < n
    · obtain ⟨p, hp⟩ : ∃ p, (ptsL l)[j]? = some p := ⟨_, List.getElem?_eq_getElem (by rw [HL.out]; exact hlt)⟩
      have hp' : ((ptsL l).map (turnN q))[j]? = some (turnN q p) := by rw [List.getElem?_map, hp]; rfl
      have h4 := H4.out p (List.mem_of_getElem? hp)
      have h4' := four_turnN q h4
      obtain ⟨g1, rfl, c1⟩ := HF.out.1 j p hp
      obtain ⟨g3, rfl, c3⟩ := HF.out.2.1 j _ hp'
      obtain ⟨g4, rfl, c4⟩ := HF.out.2.2.1 j _ hp'
      obtain ⟨g6, rfl, c6⟩ := HF.out.2.2.2 j p hp
      have o1 := fl_eq (four_sml h4).1 (four_sml h4).1
      have o2 := fl_eq (four_sml h4).2 (four_sml h4).2
      have o3 := fl_eq (four_sml h4').1 (four_sml h4').1
      have o4 := fl_eq (four_sml h4').2 (four_sml h4').2
      rw [decide_eq_true rfl] at o1 o2 o3 o4
      have d1 : wr.drew.cell? ⟨g1, j, none⟩ = some (cpx p) := c1
      have d3 : wr.drew.cell? ⟨g3, j, none⟩ = some (cpx (turnN q p)) := c3
      have d4 : wr.drew.cell? ⟨g4, j, none⟩ = some (cpx (turnN q p)) := c4
      have d6 : wr.drew.cell? ⟨g6, j, none⟩ = some (cpx p) := c6
      have hj0 : (0 : Int) ≤ (j : Int) := by omega
      have hj1 : (j : Int) < (n : Int) := by omega
      have HF2 := Lib.hid (show FourRows wr.drew (some ⟨g1, 0, none⟩) (some ⟨g3, 0, none⟩) (some ⟨g4, 0, none⟩) (some ⟨g6, 0, none⟩) (ptsL l) q from HF.out)
      have HB2 := Lib.hid HBW.out.drew
      clear c1 c3 c4 c6 hp hp' h4 h4'
      generalize turnN q p = r at *
      obtain ⟨a, b⟩ := p
      obtain ⟨a', b'⟩ := r
      simp only [cpx] at d1 d3 d4 d6
      simp only at o1 o2 o3 o4
      go_wp2_with fail
      refine wp_region_still_lit (by kernel_rfl) (by kernel_rfl) ?_
      change wpStill _ _ wr.drew (fun b => _) _ _
      generalize wr.drew = w2 at d1 d3 d4 d6 ⊢
      repeat still_step
      refine wpStill_nil ?_
      go_wp2
      go_roundw
      case rel => exact ⟨j + 1, by omega, by go_num, HF2, HB2⟩
      case measure => simp [intOf]; omega
    · have hj1 : ¬ (j : Int) < (n : Int) := by omega
      go_wp2_with (go_at_call 23; refine (alive6_any _).mono ?_; rintro e w9 ⟨rfl, hb9⟩)
      go_ret
      exact ⟨rfl, bl_step HBW.out hb9⟩
end Go.Proofs.Ytieokmmejdngcaa
