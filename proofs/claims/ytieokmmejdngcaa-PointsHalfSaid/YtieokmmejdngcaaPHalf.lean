/-
  PointsHalf: the four points have the length 2, turned or not; turned by a half the bytes are those with all bits turned, and each point is another one.
-/
import Derived.Test.YtieokmmejdngcaaPBack
namespace Go.Proofs.Ytieokmmejdngcaa
open Go.RowKit

theorem half_all : ((List.range 256).all fun b => (List.range 4).all fun r => turnN 2 (ptOf b r) == ptOf (255 - b) r) = true := by decide +kernel
theorem xor_all : ((List.range 256).all fun b => bits .xor .u8 ((255 - b : Nat) : Int) (b : Int) == 255) = true := by decide +kernel
theorem half_pt {b r : Nat} (hb : b < 256) (hr : r < 4) : turnN 2 (ptOf b r) = ptOf (255 - b) r := by
  have := List.all_eq_true.1 (List.all_eq_true.1 half_all b (List.mem_range.2 hb)) r (List.mem_range.2 hr)
  simpa using this
theorem half_xor {b : Nat} (hb : b < 256) : bits .xor .u8 ((255 - b : Nat) : Int) (b : Int) = 255 := by
  have := List.all_eq_true.1 xor_all b (List.mem_range.2 hb)
  simpa using this
def inv (l : List Nat) : List Nat := l.map fun b => 255 - b
theorem inv_lt (l : List Nat) : ∀ b ∈ inv l, b < 256 := by
  intro b hb
  obtain ⟨x, _, rfl⟩ := List.mem_map.1 hb
  omega
theorem half_pts {l : List Nat} (h : ∀ b ∈ l, b < 256) : (ptsL l).map (turnN 2) = ptsL (inv l) := by
  refine List.ext_getElem? fun i => ?_
  rw [List.getElem?_map]
  rcases Nat.lt_or_ge i (4 * l.length) with hi | hi
  · obtain ⟨b, hb⟩ : ∃ b, l[i / 4]? = some b := ⟨_, List.getElem?_eq_getElem (by omega)⟩
    rw [ptsL_at hb, ptsL_at (l := inv l) (b := 255 - b) (by unfold inv; rw [List.getElem?_map, hb]; rfl)]
    simp only [Option.map_some]
    rw [half_pt (h b (List.mem_of_getElem? hb)) (Nat.mod_lt _ (by omega))]
  · rw [List.getElem?_eq_none (by rw [length_ptsL]; exact hi), List.getElem?_eq_none (by rw [length_ptsL]; unfold inv; rw [List.length_map]; exact hi)]
    rfl
theorem sq_pm {n : Int} (h : pm n) : n * n = 1 := by rcases h with rfl | rfl <;> decide
theorem len_four {L : List (Int × Int)} (h : ∀ p ∈ L, four p) : lenF L = 2 * (L.length : Int) := by
  induction L with
  | nil => rfl
  | cons p r ih =>
    have h1 := h p (List.mem_cons_self ..)
    have e : lenF (p :: r) = (p.1 * p.1 + p.2 * p.2) + lenF r := by simp [lenF]
    rw [e, ih fun q hq => h q (List.mem_cons_of_mem _ hq), sq_pm h1.1, sq_pm h1.2, List.length_cons]
    push_cast
    omega
theorem dif_half {p : Int × Int} (h : four p) : difB p (turnN 2 p) = true := by
  obtain ⟨a, b⟩ := p
  have e : turnN 2 (a, b) = (-a, -b) := rfl
  rw [e]
  rcases h.1 with h1 | h1 <;> rcases h.2 with h2 | h2 <;> (simp only at h1 h2; subst h1; subst h2; decide)
theorem err_half {L : List (Int × Int)} (h : ∀ p ∈ L, four p) : ∀ k, k ≤ L.length → errF L (L.map (turnN 2)) k = k := by
  intro k
  induction k with
  | zero => intro _; rfl
  | succ k ih =>
    intro hk
    obtain ⟨p, hp⟩ : ∃ p, L[k]? = some p := ⟨_, List.getElem?_eq_getElem (by omega)⟩
    rw [errF_succ hp (by rw [List.getElem?_map, hp]; rfl), ih (by omega), dif_half (h p (List.mem_of_getElem? hp))]
    rfl

theorem length_n (A : Option Addr) (M : List (Int × Int)) (n c : Nat) (w : World) (hl : M.length = n) (hn : n ≤ 100000) (h4 : ∀ p ∈ M, four p) (hs : PSrc w A M) :
    Calls Try.prog 36 #[.slice A n c] w fun e w' => e = .returned (.tuple #[.int .i64 (2 * (n : Int)), .int .i64 0]) ∧ w = w' := by
  subst hl
  have := length_t A M c w hn (fun p hp => by
    have h := h4 p hp
    obtain ⟨h1, h2⟩ := h
    unfold pm at h1 h2
    omega) hs
  rw [len_four h4] at this
  exact this
theorem errors_n (A A' : Option Addr) (L : List (Int × Int)) (n c c' : Nat) (w : World) (hl : L.length = n) (hn : n ≤ 100000) (h4 : ∀ p ∈ L, four p) (hs : PSrc w A L) (hs' : PSrc w A' (L.map (turnN 2))) :
    Calls Try.prog 34 #[.slice A n c, .slice A' n c'] w fun e w' => e = .returned (.tuple #[.int .i64 n, .int .i64 0]) ∧ Below w.heap.size w w' := by
  subst hl
  have := errors_t A A' L (L.map (turnN 2)) c c' w hn (List.length_map _) (fun p hp => four_sml (h4 p hp)) (fun p hp => four_sml (turns_four h4 2 p hp)) hs hs'
  rw [List.length_map] at this
  refine this.mono ?_
  rintro e w' ⟨h1, h2⟩
  rw [err_half h4 _ (Nat.le_refl _)] at h1
  exact ⟨h1, h2⟩

set_option maxHeartbeats 400000 in
theorem half_guard (A : Option Addr) (n c : Nat) (k : Int) (w : World) (hn : 1000 < n) :
    Calls Try.prog 9 #[.slice A n c, .int .i8 k] w fun e w' => e = .returned (.bool true) ∧ Below w.heap.size w w' := by
  have h : (1000 : Int) < (n : Int) := by omega
  clear hn
  go_enter Try.func9, Try.ntmps9
  go_wp2_with (go_at_call 23; refine (alive6_any _).mono ?_; rintro e w1 ⟨rfl, hb⟩)
  go_ret
  exact ⟨rfl, hb⟩

set_option maxRecDepth 100000 in
set_option maxHeartbeats 1600000 in
theorem half_walk (A : Option Addr) (l : List Nat) (c : Nat) (k : Int) (w : World) (hn : l.length ≤ 1000) (hk : -128 ≤ k ∧ k ≤ 127) (hb : ∀ b ∈ l, b < 256) (hs : BSrc w A l) :
    Calls Try.prog 9 #[.slice A l.length c, .int .i8 k] w fun e w' => e = .returned (.bool true) ∧ Below w.heap.size w w' := by
  have HS := Lib.hid hs
  have HB := Lib.hid hb
  obtain ⟨hk0, hk1⟩ := hk
  have hn2 : ¬ (1000 : Int) < (l.length : Int) := by omega
  obtain ⟨n, hL⟩ : ∃ n, (ptsL l).length = n := ⟨_, rfl⟩
  have hn4 : n ≤ 4000 := by rw [← hL, length_ptsL]; omega
  have hnl : n = 4 * l.length := by rw [← hL, length_ptsL]
  have HL := Lib.hid hL
  have HNL := Lib.hid hnl
  have H4 := Lib.hid (ptsL_four l)
  clear hs hb hL hnl
  go_enter Try.func9, Try.ntmps9
  go_wp2_with fail
  refine (of_n A l n c w HL.out (by omega) HB.out HS.out).mono ?_
  rintro e w1 ⟨⟨A1, rfl, hp⟩, hb1⟩
  have HP1 := Lib.hid hp
  have HB1 := Lib.hid hb1
  clear hp hb1
  go_wp2_with fail
  refine (turn_n A1 (ptsL l) n _ k _ HL.out (by omega) H4.out HP1.out).mono ?_
  rintro e w2 ⟨⟨A2, rfl, hp⟩, hb2⟩
  have HP2 := Lib.hid hp
  have HP1b := Lib.hid (HP1.out.later hb2)
  have HB2 := Lib.hid (bl_step HB1.out hb2)
  clear hp hb2 HP1 HB1
  go_wp2_with fail
  refine (length_n A2 ((ptsL l).map (turnN (k % 4).toNat)) n _ _ (by rw [List.length_map]; exact HL.out) (by omega) (turns_four H4.out _) HP2.out).mono ?_
  rintro e w3 ⟨rfl, rfl⟩
  go_wp2_with fail
  refine (turn_n A1 (ptsL l) n _ 2 _ HL.out (by omega) H4.out HP1b.out).mono ?_
  rintro e w4 ⟨⟨A4, rfl, hp⟩, hb4⟩
  have hp : PSrc w4 A4 ((ptsL l).map (turnN 2)) := hp
  have HP4 := Lib.hid (And.intro (HP1b.out.later hb4) hp)
  have HB4 := Lib.hid (bl_step HB2.out hb4)
  clear hp hb4 HP1b HB2 HP2
  have HLI := Lib.hid (show (ptsL (inv l)).length = n by rw [← half_pts HB.out, List.length_map]; exact HL.out)
  have hil : (inv l).length = l.length := by unfold inv; rw [List.length_map]
  have HB5 := back_n A4 (inv l) n n w4 HLI.out (by rw [hil]; omega) (inv_lt l) (by rw [← half_pts HB.out]; exact HP4.out.2)
  rw [hil] at HB5
  have HB5 := Lib.hid HB5
  clear hil
  go_wp2_with fail
  refine HB5.out.mono ?_
  rintro e w5 ⟨⟨A5, rfl, hr⟩, hb5⟩
  have HP5 := Lib.hid (And.intro (HP4.out.1.later hb5) (HP4.out.2.later hb5))
  have HR5 := Lib.hid hr
  have HBB5 := Lib.hid (bl_step HB4.out hb5)
  clear hr hb5 HP4 HB4 HB5
  go_wp2_with fail
  refine (errors_n A1 A4 (ptsL l) n _ _ _ HL.out (by omega) H4.out HP5.out.1 HP5.out.2).mono ?_
  rintro e w6 ⟨rfl, hb6⟩
  have HR6 := Lib.hid (And.intro (HR5.out.later hb6) (HS.out.later (bl_step HBB5.out hb6)))
  have HB6 := Lib.hid (bl_step HBB5.out hb6)
  have g1 : (2 * (n : Int) != 8 * (l.length : Int)) = false := by have := HNL.out; simp; omega
  have g2 : ((n : Int) != 4 * (l.length : Int)) = false := by have := HNL.out; simp; omega
  clear hb6 HR5 HBB5 HP5
  go_wp2_with fail
  clear g1 g2
  go_loopw [13] (fun i wr => ∃ j : Nat, j ≤ l.length ∧ i = .int .i64 j ∧ Hid (BSrc wr A5 (inv l) ∧ BSrc wr A l) ∧ Hid (Below w.heap.size w wr)) (fun i _ => l.length - (intOf i).toNat)
  case atStart => exact ⟨0, by omega, rfl, HR6, HB6⟩
  case round =>
    obtain ⟨j, hj, rfl, HR, HBW⟩ := hrel
    clear HR6 HB6
    by_cases hlt : j < l.length
    · obtain ⟨b, hbl⟩ : ∃ b, l[j]? = some b := ⟨_, List.getElem?_eq_getElem hlt⟩
      have hb8 := HB.out b (List.mem_of_getElem? hbl)
      obtain ⟨g, off, rfl, c1⟩ := HR.out.2 j b hbl
      obtain ⟨g', off', rfl, c2⟩ := HR.out.1 j (255 - b) (by unfold inv; rw [List.getElem?_map, hbl]; rfl)
      have d1 : wr.drew.cell? ⟨g, off + j, none⟩ = some (.int .u8 b) := c1
      have d2 : wr.drew.cell? ⟨g', off' + j, none⟩ = some (.int .u8 ((255 - b : Nat) : Int)) := c2
      have hx := half_xor hb8
      generalize 255 - b = ib at *
      have hj0 : (0 : Int) ≤ (j : Int) := by omega
      have hj1 : (j : Int) < (l.length : Int) := by omega
      have HR2 := Lib.hid (show BSrc wr.drew (some ⟨g', off', none⟩) (inv l) ∧ BSrc wr.drew (some ⟨g, off, none⟩) l from HR.out)
      have HB2 := Lib.hid HBW.out.drew
      clear c1 c2 hbl hb8
      go_wp2_with fail
      refine wp_region_still_lit (by kernel_rfl) (by kernel_rfl) ?_
      change wpStill _ _ wr.drew (fun b => _) _ _
      generalize wr.drew = w2 at d1 d2 ⊢
      repeat still_step
      refine wpStill_nil ?_
      go_wp2
      go_roundw
      case rel => exact ⟨j + 1, by omega, by go_num, HR2, HB2⟩
      case measure => simp [intOf]; omega
    · have hj1 : ¬ (j : Int) < (l.length : Int) := by omega
      go_wp2_with (go_at_call 23; refine (alive6_any _).mono ?_; rintro e w9 ⟨rfl, hb9⟩)
      go_ret
      exact ⟨rfl, bl_step HBW.out hb9⟩
end Go.Proofs.Ytieokmmejdngcaa
