/-
  A point turned by quarters; the points of bytes; points turned.
-/
import Derived.Test.YtieokmmejdngcaaPoints
namespace Go.Proofs.Ytieokmmejdngcaa
open Go.RowKit

/-- one of the four -/
def pm (n : Int) : Prop := n = 1 ∨ n = -1
def four (p : Int × Int) : Prop := pm p.1 ∧ pm p.2
theorem pm_sml {n : Int} (h : pm n) : sml n := by unfold pm at h; unfold sml; omega
theorem fl_neg {n : Int} (h : pm n) : Op.negFloat .f64 (fl n) = fl (-n) := by
  rcases h with rfl | rfl <;> decide +kernel
theorem un_neg {n : Int} (h : pm n) : Op.unary .neg (.float .f64 (fl n)) = pure (.float .f64 (fl (-n))) := by
  show pure (Value.float .f64 (Op.negFloat .f64 (fl n))) = _
  rw [fl_neg h]
def turn1 (p : Int × Int) : Int × Int := (-p.2, p.1)
def turnN : Nat → Int × Int → Int × Int
  | 0, p => p
  | n + 1, p => turnN n (turn1 p)
theorem pm_neg {n : Int} (h : pm n) : pm (-n) := by unfold pm at *; omega
theorem four_turn1 {p : Int × Int} (h : four p) : four (turn1 p) := ⟨pm_neg h.2, h.1⟩
theorem four_turnN (n : Nat) {p : Int × Int} (h : four p) : four (turnN n p) := by
  induction n generalizing p with
  | zero => exact h
  | succ n ih => exact ih (four_turn1 h)

set_option maxHeartbeats 400000 in
theorem turned_t (p : Int × Int) (hp : four p) (q : Nat) (hq : q ≤ 3) (w : World) : Calls Try.prog 40 #[cpx p, .int .i64 q] w fun e w' => e = .returned (cpx (turnN q p)) ∧ w = w' := by
  obtain ⟨a, b⟩ := p
  show Calls Try.prog 40 #[.complex .f64 (fl a) (fl b), .int .i64 q] w _
  have hn := un_neg hp.2
  simp only at hn
  have HP := Lib.hid hp
  clear hp
  go_enter Try.func40, Try.ntmps40
  go_wp2_with fail
  refine wp_scope_jumps 0 (fun a' w' => ∃ (j : Nat) (c d : Int), j ≤ 2 ∧ four (c, d) ∧ Hid (turnN j (c, d) = turnN q (a, b)) ∧ Fr [some (.complex .f64 (fl c) (fl d)), some (.int .i64 j), none, none, none, none, none, none, none, none, none, none, none, none, none, none] a' ∧ w = w') (fun a' _ => (intOf (a'.tmps.getD 1 undef)).toNat) rfl ?_ ?_
  · rcases Nat.eq_zero_or_pos q with hk0 | hk0
    · subst hk0
      go_wp2
      go_step3
      go_wp2
      simp only [Exit.jump]
      go_ret
      exact ⟨rfl, rfl⟩
    · obtain ⟨j, rfl⟩ : ∃ j, q = j + 1 := ⟨q - 1, by omega⟩
      go_wp2
      go_step3
      go_wp2_with fail
      go_step3
      refine ⟨rfl, j, -b, a, by omega, four_turn1 HP.out, Lib.hid rfl, ?_, rfl⟩
      simp only [Fr, Holes]
      repeat apply Exists.intro
      rfl
  · rintro a' w' ⟨j, c, d, hj, h4, HT, hfr, rfl⟩
    simp only [Fr, Holes] at hfr
    repeat (obtain ⟨_, hfr⟩ := hfr)
    clear hn hq
    have hn := un_neg h4.2
    simp only at hn
    have H4 := Lib.hid h4
    clear h4
    rcases Nat.eq_zero_or_pos j with hk0 | hk0
    · subst hk0
      have ht : (c, d) = turnN q (a, b) := HT.out
      have HE := Lib.hid (show cpx (c, d) = cpx (turnN q (a, b)) by rw [ht])
      clear ht HT hn
      go_wp2
      simp only [Exit.jump]
      go_ret
      exact ⟨congrArg Ending.returned HE.out, rfl⟩
    · obtain ⟨i, rfl⟩ : ∃ i, j = i + 1 := ⟨j - 1, by omega⟩
      go_wp2_with fail
      go_step3
      refine ⟨rfl, ⟨i, -d, c, by omega, four_turn1 H4.out, Lib.hid HT.out, ?_, rfl⟩, ?_⟩
      · simp only [Fr, Holes]
        repeat apply Exists.intro
        rfl
      · simp [intOf]
end Go.Proofs.Ytieokmmejdngcaa
