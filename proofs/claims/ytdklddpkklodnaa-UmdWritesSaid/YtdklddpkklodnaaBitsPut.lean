/-
  Numbers put into a writer.
-/
import Derived.Test.YtdklddpkklodnaaBitsAdd
namespace Go.Proofs.Ytdklddpkklodnaa
open Go.RowKit

set_option maxHeartbeats 400000 in
theorem put_nil (v n : Int) (w : World) : Calls Try.prog 42 #[.pointer none, .int .u64 v, .int .i64 n] w fun e w' => e = .returned (.int .i64 6) ∧ w = w' := by
  go_enter Try.func42, Try.ntmps42
  go_wp2
  go_step3
  go_wp2
  rw [Exit.noGoto_ret]
  go_ret
  exact ⟨rfl, rfl⟩

set_option maxHeartbeats 400000 in
theorem put_arg1 (p : Nat) (v n : Int) (w : World) (h : mayB n = false) : Calls Try.prog 42 #[.pointer (some ⟨p, 0, none⟩), .int .u64 v, .int .i64 n] w fun e w' => e = .returned (.int .i64 1) ∧ w = w' := by
  have H := Lib.hid h
  clear h
  go_enter Try.func42, Try.ntmps42
  go_wp2
  go_step3
  go_wp2_with (go_at_call 71; refine (mayBe_any _ _).mono ?_; rintro e w1 ⟨rfl, rfl⟩; rw [H.out])
  rw [Exit.noGoto_ret]
  go_ret
  exact ⟨rfl, rfl⟩

theorem cast_div_pow (v n : Nat) : (v : Int) / 2 ^ n = ((v / 2 ^ n : Nat) : Int) := by
  rw [Int.natCast_ediv, Int.natCast_pow]
  rfl
theorem div_ne {v n : Nat} (h : 2 ^ n ≤ v) : ((v : Int) / 2 ^ n != 0) = true := by
  rw [cast_div_pow]
  have h1 : 1 ≤ v / 2 ^ n := (Nat.one_le_div_iff (Nat.two_pow_pos n)).2 h
  generalize v / 2 ^ n = q at *
  simp
  omega
theorem div_eq {v n : Nat} (h : v < 2 ^ n) : ((v : Int) / 2 ^ n != 0) = false := by
  rw [cast_div_pow, Nat.div_eq_of_lt h]
  rfl

set_option maxHeartbeats 400000 in
theorem put_arg2 (p v n : Nat) (w : World) (hn : n ≤ 64) (h : 2 ^ n ≤ v) : Calls Try.prog 42 #[.pointer (some ⟨p, 0, none⟩), .int .u64 v, .int .i64 n] w fun e w' => e = .returned (.int .i64 1) ∧ w = w' := by
  have H := Lib.hid (mayB_of (n := n) (by omega) (by omega))
  have HH := div_ne h
  clear h
  go_enter Try.func42, Try.ntmps42
  go_wp2
  go_step3
  go_wp2_with (go_at_call 71; refine (mayBe_any _ _).mono ?_; rintro e w1 ⟨rfl, rfl⟩; rw [H.out])
  rw [Exit.noGoto_ret]
  go_ret
  exact ⟨rfl, rfl⟩

set_option maxHeartbeats 400000 in
theorem put_full {B : Nat} {p : Nat} {sv : Value} {bl : List Bool} (v n : Nat) (w : World) (hr : WRep B w p sv bl) (hn : n ≤ 64) (h : v < 2 ^ n) (hl : 65536 < bl.length + n) (hb : bl.length ≤ 65536) :
    Calls Try.prog 42 #[.pointer (some ⟨p, 0, none⟩), .int .u64 v, .int .i64 n] w fun e w' => e = .returned (.int .i64 5) ∧ w = w' := by
  have H := Lib.hid (mayB_of (n := n) (by omega) (by omega))
  have HH := div_eq h
  have hc : w.cell? ⟨p, 1, none⟩ = some (.int .i64 bl.length) := hr.2.1.read rfl
  clear h
  generalize bl.length = m at *
  go_enter Try.func42, Try.ntmps42
  go_wp2
  go_step3
  go_wp2_with (go_at_call 71; refine (mayBe_any _ _).mono ?_; rintro e w1 ⟨rfl, rfl⟩; rw [H.out])
  rw [Exit.noGoto_ret]
  go_ret
  exact ⟨rfl, rfl⟩

/-- what a writer has when all but k of a number's n bits are put -/
def Putting (B : Nat) (w : World) (p : Nat) (sv : Value) (bl : List Bool) (v n k : Nat) (w' : World) : Prop :=
  ∃ sv', WRep B w' p sv' (bl ++ unval (v / 2 ^ k) (n - k)) ∧ (sv'.ownBlock = sv.ownBlock ∨ ∃ g, sv'.ownBlock = some g ∧ w.heap.size ≤ g) ∧ Only (fun g => g = p ∨ sv.ownBlock = some g) w w'

theorem Putting.start {B : Nat} {w : World} {p : Nat} {sv : Value} {bl : List Bool} {v n : Nat} (h : WRep B w p sv bl) : Putting B w p sv bl v n n w :=
  ⟨sv, by rw [Nat.sub_self]; simpa [unval] using h, .inl rfl, Only.refl _ _⟩

theorem Putting.step {B : Nat} {w w1 w2 : World} {p : Nat} {sv sv1 : Value} {bl : List Bool} {v n k : Nat} {e e0 : Ending} (hk : k < n)
    (ho : sv1.ownBlock = sv.ownBlock ∨ ∃ g, sv1.ownBlock = some g ∧ w.heap.size ≤ g) (hy : Only (fun g => g = p ∨ sv.ownBlock = some g) w w1)
    (h2 : Wrote B w1 p sv1 ((bl ++ unval (v / 2 ^ (k + 1)) (n - (k + 1))) ++ [v / 2 ^ k % 2 == 1]) e0 e w2) : Putting B w p sv bl v n k w2 := by
  obtain ⟨_, sv2, hr2, ho2, hy2⟩ := h2
  refine ⟨sv2, ?_, ?_, ?_⟩
  · have e1 : n - k = n - (k + 1) + 1 := by omega
    rw [e1, unval, Nat.div_div_eq_div_mul, ← Nat.pow_succ, ← List.append_assoc]
    exact hr2
  · rcases ho2 with h3 | ⟨g, h3, h4⟩
    · rw [h3]; exact ho
    · exact .inr ⟨g, h3, by have := hy.size; omega⟩
  · refine hy.andThen hy2 fun g hg hS => ?_
    rcases hS with h3 | h3
    · exact .inl h3
    · rcases ho with h4 | ⟨g', h4, h5⟩
      · exact .inr (by rw [← h4]; exact h3)
      · rw [h4] at h3
        injection h3 with h3
        omega

theorem bit_arg (v j : Nat) (hv : v < 18446744073709551616) : bits .and .u64 ((v : Int) / 2 ^ j) 1 % 256 = ((v / 2 ^ j % 2 == 1).toNat : Int) := by
  rw [cast_div_pow]
  have h1 : v / 2 ^ j ≤ v := Nat.div_le_self _ _
  generalize v / 2 ^ j = q at *
  have h2 := u64_and_nat q 1 (by omega) (by omega)
  rw [Nat.and_one_is_mod] at h2
  rw [show (1 : Int) = ((1 : Nat) : Int) from rfl, h2]
  rcases Nat.mod_two_eq_zero_or_one q with h | h <;> rw [h] <;> rfl

theorem mayBe_yes (n : Int) (w : World) (h1 : 0 ≤ n) (h2 : n ≤ 64) : Calls Try.prog 71 #[.int .i64 n] w fun e w' => e = .returned (.bool true) ∧ w = w' := by
  have h := mayBe_any n w
  rw [mayB_of h1 h2] at h
  exact h

set_option maxRecDepth 100000 in
set_option maxHeartbeats 1600000 in
theorem put_any {B : Nat} {p : Nat} {sv : Value} {bl : List Bool} (v n : Nat) (w : World) (hr : WRep B w p sv bl) (hn : n ≤ 64) (h : v < 2 ^ n) (hl : bl.length + n ≤ 65536) (hv : v < 18446744073709551616) :
    Calls Try.prog 42 #[.pointer (some ⟨p, 0, none⟩), .int .u64 v, .int .i64 n] w (Wrote B w p sv (bl ++ unval v n) (.returned (.int .i64 0))) := by
  have HH := div_eq h
  have hc : w.cell? ⟨p, 1, none⟩ = some (.int .i64 bl.length) := hr.2.1.read rfl
  have HS := Lib.hid (Putting.start (v := v) (n := n) hr)
  have HV := Lib.hid hv
  clear h hr hv
  have hlen : bl.length ≤ 65536 := by omega
  go_enter Try.func42, Try.ntmps42
  go_wp2
  refine wp_scope_jumps 0 (fun a' w' => ∃ k : Nat, k ≤ n ∧ Fr [some (.pointer (some ⟨p, 0, none⟩)), some (.int .u64 v), some (.int .i64 k), none, none, none, none, none, none, none, none, none, none, none, none, none, none, none, none, none, none, none, none, none, none, none, none, none, none, none, none, none, none, none, none, none, none, none, none] a' ∧ Putting B w p sv bl v n k w') (fun a' _ => (intOf (a'.tmps.getD 2 undef)).toNat) rfl ?_ ?_
  · rcases Nat.eq_zero_or_pos n with hk0 | hk0
    · subst hk0
      go_wp2_with (go_at_call 71; refine (mayBe_yes _ _ (by omega) (by omega)).mono ?_; rintro e w1 ⟨rfl, rfl⟩)
      go_step3
      go_wp2
      simp only [Exit.jump]
      go_ret
      obtain ⟨sv1, hr1, ho1, hy1⟩ := HS.out
      exact ⟨rfl, sv1, by simpa using hr1, ho1, hy1⟩
    · go_wp2_with (go_at_call 71; refine (mayBe_yes _ _ (by omega) (by omega)).mono ?_; rintro e w1 ⟨rfl, rfl⟩)
      go_step3
      clear HH hc
      obtain ⟨j, rfl⟩ : ∃ j, n = j + 1 := ⟨n - 1, by omega⟩
      have hE := Lib.hid (bit_arg v j HV.out)
      obtain ⟨sv1, hr1, ho1, hy1⟩ := HS.out
      go_wp2_with (go_at_call 72; rw [hE.out]; refine (add_any _ hr1 ?_).mono ?_; simp [length_unval]; omega; rintro e w2 hw; have HW := Lib.hid hw; obtain ⟨rfl, _⟩ := hw)
      go_step3
      refine ⟨rfl, j, by omega, ?_, Putting.step (by omega) ho1 hy1 HW.out⟩
      simp only [Fr, Holes]
      repeat apply Exists.intro
      rfl
  · rintro a' w' ⟨k, hk, hfr, hput⟩
    simp only [Fr, Holes] at hfr
    repeat (obtain ⟨_, hfr⟩ := hfr)
    clear HS hc HH
    rcases Nat.eq_zero_or_pos k with hk0 | hk0
    · subst hk0
      go_wp2
      simp only [Exit.jump]
      go_ret
      obtain ⟨sv1, hr1, ho1, hy1⟩ := hput
      exact ⟨rfl, sv1, by simpa using hr1, ho1, hy1⟩
    · obtain ⟨j, rfl⟩ : ∃ j, k = j + 1 := ⟨k - 1, by omega⟩
      have hE := Lib.hid (bit_arg v j HV.out)
      obtain ⟨sv1, hr1, ho1, hy1⟩ := hput
      go_wp2_with (go_at_call 72; rw [hE.out]; refine (add_any _ hr1 ?_).mono ?_; simp [length_unval]; omega; rintro e w2 hw; have HW := Lib.hid hw; obtain ⟨rfl, _⟩ := hw)
      go_step3
      refine ⟨rfl, ⟨j, by omega, ?_, Putting.step (by omega) ho1 hy1 HW.out⟩, ?_⟩
      · simp only [Fr, Holes]
        repeat apply Exists.intro
        rfl
      · simp [intOf]
end Go.Proofs.Ytdklddpkklodnaa
