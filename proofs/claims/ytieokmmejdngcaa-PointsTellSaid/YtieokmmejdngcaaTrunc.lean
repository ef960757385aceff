/-
  Which parts may be reckoned with; how long points are; at how many places points have another nearest one; points added.
-/
import Derived.Test.YtieokmmejdngcaaPList
import Derived.Laws.Externs
namespace Go.Proofs.Ytieokmmejdngcaa
open Go.RowKit

theorem integral_fl {n : Int} : (Ieee.Datum.number (n < 0) (n.natAbs * 2 ^ shf n.natAbs) (-((shf n.natAbs : Nat) : Int))).integral .zero = .number (n < 0) n.natAbs 0 := by
  unfold Ieee.Datum.integral
  have e1 : (-((shf n.natAbs : Nat) : Int)).toNat = 0 := by omega
  have e2 : (- -((shf n.natAbs : Nat) : Int)).toNat = shf n.natAbs := by omega
  simp only [e1, e2, Nat.shiftLeft_zero]
  have hc : Ieee.Toward.zero.cut (decide (n < 0)) (n.natAbs * 2 ^ shf n.natAbs) (shf n.natAbs) = n.natAbs := by
    by_cases h0 : n.natAbs = 0
    · rw [h0, Nat.zero_mul]
      unfold Ieee.Toward.cut
      simp
    · have hs : shf n.natAbs = 52 - n.natAbs.log2 := by unfold shf; rw [if_neg h0]
      have hd : shf n.natAbs ≤ (n.natAbs * 2 ^ shf n.natAbs).log2 + 2 := by rw [log2_mul_pow h0]; omega
      unfold Ieee.Toward.cut
      simp only [Nat.min_eq_left hd, Nat.one_shiftLeft]
      rw [Nat.mul_div_cancel _ (Nat.two_pow_pos _)]
      rfl
  rw [hc]

theorem trunc_run {n : Int} (h : sml n) (w : World) : (callFunc 44 #[.float .f64 (fl n)]).run Try.prog w = .ok (.value (.float .f64 (fl n))) w := by
  have he := run_callFunc_extern (P := Try.prog) (f := 44) (fn := Try.f44) (e := Extern.MathFloor.toIntegral "math.archTrunc" .zero) Try.func44 (by kernel_rfl) (by kernel_rfl) (by kernel_rfl) (by rfl) #[.float .f64 (fl n)] w
  rw [he]
  have hd : FloatKind.f64.decode (fl n) = .number (n < 0) (n.natAbs * 2 ^ shf n.natAbs) (-((shf n.natAbs : Nat) : Int)) := read_F (sml_abs h)
  have e : Extern.MathFloor.toIntegral "math.archTrunc" .zero #[.float .f64 (fl n)] = pure (.float .f64 (fl n)) := by
    change (match FloatKind.f64.decode (fl n) with
      | .nan s t => _
      | d => pure (Value.float .f64 (FloatKind.f64.encode (d.integral .zero)))) = _
    rw [hd]
    show pure (Value.float .f64 (FloatKind.f64.encode ((Ieee.Datum.number (n < 0) (n.natAbs * 2 ^ shf n.natAbs) (-((shf n.natAbs : Nat) : Int))).integral .zero))) = _
    rw [integral_fl]
    rfl
  rw [e]
  rfl
theorem trunc_t (n : Int) (h : sml n) (w : World) : Calls Try.prog 43 #[.float .f64 (fl n)] w fun e w' => e = .returned (.float .f64 (fl n)) ∧ w = w' := by
  have hr := fun W => trunc_run h W
  clear h
  go_enter Try.func43, Try.ntmps43
  go_wp2
  go_ret
  exact ⟨rfl, rfl⟩
theorem whole_t (n : Int) (h : -1000 ≤ n ∧ n ≤ 1000) (w : World) : Calls Try.prog 42 #[.float .f64 (fl n)] w fun e w' => e = .returned (.bool true) ∧ w = w' := by
  have hs : sml n := by unfold sml; omega
  have m1 : fl (-1000) = 13875379345695965184 := by decide +kernel
  have m2 : fl 1000 = 4652007308841189376 := by decide +kernel
  have g1 := fl_gt hs (show sml (-1000) by unfold sml; omega)
  have g2 := fl_eq hs (show sml (-1000) by unfold sml; omega)
  have g3 := fl_lt hs (show sml 1000 by unfold sml; omega)
  have g4 := fl_eq hs (show sml 1000 by unfold sml; omega)
  have g5 := fl_eq hs hs
  rw [m1] at g1 g2
  rw [m2] at g3 g4
  have h1 : (FloatKind.f64.format.order (fl n) 13875379345695965184 == some .gt || FloatKind.f64.format.order (fl n) 13875379345695965184 == some .eq) = true := by
    rw [g1, g2, Bool.or_eq_true, decide_eq_true_iff, decide_eq_true_iff]; omega
  have h2 : (FloatKind.f64.format.order (fl n) 4652007308841189376 == some .lt || FloatKind.f64.format.order (fl n) 4652007308841189376 == some .eq) = true := by
    rw [g3, g4, Bool.or_eq_true, decide_eq_true_iff, decide_eq_true_iff]; omega
  have h3 : (FloatKind.f64.format.order (fl n) (fl n) == some .eq) = true := by rw [g5, decide_eq_true_iff]
  clear g1 g2 g3 g4 g5 m1 m2
  go_enter Try.func42, Try.ntmps42
  go_wp2_with (go_at_call 43; refine (trunc_t n hs _).mono ?_; rintro e w1 ⟨rfl, rfl⟩)
  go_ret
  exact ⟨rfl, rfl⟩

/-- all lengths together -/
def lenF (L : List (Int × Int)) : Int := (L.map fun p => p.1 * p.1 + p.2 * p.2).sum
theorem lenF_snoc (L : List (Int × Int)) (p : Int × Int) : lenF (L ++ [p]) = lenF L + (p.1 * p.1 + p.2 * p.2) := by
  unfold lenF
  rw [List.map_append, List.sum_append]
  simp
theorem sq_bd {a : Int} (h : -1000 ≤ a ∧ a ≤ 1000) : 0 ≤ a * a ∧ a * a ≤ 1000000 := by
  constructor
  · rcases Int.le_total 0 a with h1 | h1
    · exact Int.mul_nonneg h1 h1
    · exact Int.mul_nonneg_of_nonpos_of_nonpos h1 h1
  · have h1 : (1000 - a) * (1000 + a) ≥ 0 := Int.mul_nonneg (by omega) (by omega)
    have h2 : (1000 - a) * (1000 + a) = 1000000 - a * a := by
      rw [Int.sub_mul, Int.mul_add, Int.mul_add, Int.mul_comm a 1000]
      omega
    omega
theorem lenF_bd {L : List (Int × Int)} (h : ∀ p ∈ L, (-1000 ≤ p.1 ∧ p.1 ≤ 1000) ∧ (-1000 ≤ p.2 ∧ p.2 ≤ 1000)) : 0 ≤ lenF L ∧ lenF L ≤ 2000000 * (L.length : Int) := by
  induction L with
  | nil => simp [lenF]
  | cons p r ih =>
    have h1 := ih fun q hq => h q (List.mem_cons_of_mem _ hq)
    have h2 := h p (List.mem_cons_self ..)
    have a := sq_bd h2.1
    have b := sq_bd h2.2
    have e : lenF (p :: r) = (p.1 * p.1 + p.2 * p.2) + lenF r := by simp [lenF]
    rw [e, List.length_cons]
    push_cast
    omega
theorem take_snocP {α : Type} {l : List α} {k : Nat} {x : α} (h : l[k]? = some x) : l.take (k + 1) = l.take k ++ [x] := by
  obtain ⟨hl, rfl⟩ := List.getElem?_eq_some_iff.1 h
  exact List.take_succ_eq_append_getElem hl

set_option maxHeartbeats 1600000 in
theorem length_t (A : Option Addr) (L : List (Int × Int)) (c : Nat) (w : World) (hn : L.length ≤ 100000) (hsm : ∀ p ∈ L, (-1000 ≤ p.1 ∧ p.1 ≤ 1000) ∧ (-1000 ≤ p.2 ∧ p.2 ≤ 1000)) (hs : PSrc w A L) :
    Calls Try.prog 36 #[.slice A L.length c] w fun e w' => e = .returned (.tuple #[.int .i64 (lenF L), .int .i64 0]) ∧ w = w' := by
  have HS := Lib.hid hs
  have HM := Lib.hid hsm
  clear hs hsm
  have hn2 : ¬ 100000 < (L.length : Int) := by omega
  go_enter Try.func36, Try.ntmps36
  go_wp2_with fail
  clear hn2
  go_loop [4, 14] (fun s i => ∃ j : Nat, j ≤ L.length ∧ s = .int .i64 (lenF (L.take j)) ∧ i = .int .i64 j) (fun _ i => L.length - (intOf i).toNat)
  case atStart => exact ⟨0, by omega, by rw [List.take_zero]; rfl, rfl⟩
  case round =>
    obtain ⟨j, hj, rfl, rfl⟩ := hrel
    by_cases hlt : j < L.length
    · obtain ⟨p, hp⟩ : ∃ p, L[j]? = some p := ⟨_, List.getElem?_eq_getElem hlt⟩
      obtain ⟨g, rfl, hc⟩ := HS.out j p hp
      obtain ⟨h1, h2⟩ := HM.out p (List.mem_of_getElem? hp)
      have hbd := lenF_bd (L := L.take j) fun q hq => HM.out q (List.mem_of_mem_take hq)
      have hle : ((L.take j).length : Int) ≤ 100000 := by have := List.length_take_le j L; omega
      have hlo : 0 ≤ lenF (L.take j) := hbd.1
      have hhi : lenF (L.take j) ≤ 200000000000 := by have := hbd.2; omega
      have hs2 := lenF_snoc (L.take j) p
      rw [← take_snocP hp] at hs2
      have HZ := Lib.hid hs2
      have hj0 : (0 : Int) ≤ (j : Int) := by omega
      have hj1 : (j : Int) < (L.length : Int) := by omega
      clear hp hs2 hbd hle
      obtain ⟨a, b⟩ := p
      simp only at h1 h2 HZ
      have qa := sq_bd h1
      have qb := sq_bd h2
      have w1 : IntKind.i64.wrap (a * a) = a * a := IntWalk.i64_in _ (by omega)
      have w2 : IntKind.i64.wrap (b * b) = b * b := IntWalk.i64_in _ (by omega)
      obtain ⟨qa0, qa1⟩ := qa
      obtain ⟨qb0, qb1⟩ := qb
      have i1 : ∀ W, (convert 51 3 (.float .f64 (fl a))).run Try.prog W = .ok (.int .i64 a) W := fun W => run_convert_float_int W 51 3 .f64 .i64 (fl a) a (by kernel_rfl) (by kernel_rfl) (F_toInt (sml_abs (by unfold sml; omega)))
      have i2 : ∀ W, (convert 51 3 (.float .f64 (fl b))).run Try.prog W = .ok (.int .i64 b) W := fun W => run_convert_float_int W 51 3 .f64 .i64 (fl b) b (by kernel_rfl) (by kernel_rfl) (F_toInt (sml_abs (by unfold sml; omega)))
      simp only [cpx] at hc
      generalize hLL : lenF (L.take j) = S at *
      have HLL := Lib.hid hLL
      clear hLL
      go_wp2_with fail
      refine (whole_t a h1 _).mono ?_
      rintro e w1 ⟨rfl, rfl⟩
      go_wp2_with fail
      refine (whole_t b h2 _).mono ?_
      rintro e w1 ⟨rfl, rfl⟩
      go_wp2
      go_round
      case rel => exact ⟨j + 1, by omega, by rw [HZ.out], by go_num⟩
      case measure => simp [intOf]; omega
    · obtain rfl : j = L.length := by omega
      have hj1 : ¬ (L.length : Int) < (L.length : Int) := by omega
      have HL := Lib.hid (show lenF (L.take L.length) = lenF L by rw [List.take_length])
      rw [HL.out]
      go_wp2
      go_ret2
      exact ⟨rfl, rfl⟩
end Go.Proofs.Ytieokmmejdngcaa
