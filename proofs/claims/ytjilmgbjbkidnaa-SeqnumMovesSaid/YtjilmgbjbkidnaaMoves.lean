/-
  SeqnumMoves: what is in a window is so whichever number all are moved on by; the window's numbers are just those between its ends.
-/
import Derived.Test.YtjilmgbjbkidnaaSeqAlive
import Derived.Test.YtjilmgbjbkidnaaSeqRefB
namespace Go.Proofs.Ytjilmgbjbkidnaa
open Go.RowKit

theorem in_ok {b base size n : Int} (h : InE b base size n = 0) : rt b = true ∧ okn b base = true ∧ okn b n = true ∧ 1 ≤ size ∧ size ≤ sz b / 2 := by
  unfold InE at h
  cases hq : rt b && [base, n].all (okn b)
  · rw [hq] at h
    have := flt_ne hq
    simp at h
    omega
  · rw [hq] at h
    rw [all2, Bool.and_eq_true, Bool.and_eq_true] at hq
    refine ⟨hq.1, hq.2.1, hq.2.2, ?_⟩
    by_cases hc : size < 1 ∨ sz b / 2 < size
    · simp [hc] at h
    · omega
theorem in_val {b base size n : Int} (hr : rt b = true) (h1 : okn b base = true) (h2 : okn b n = true) (h3 : 1 ≤ size) (h4 : size ≤ sz b / 2) : InE b base size n = 0 ∧ InV b base size n = decide (farV b base n < size) := by
  have hq : (rt b && [base, n].all (okn b)) = true := by rw [all2, hr, h1, h2]; rfl
  unfold InE InV
  rw [if_pos hq, if_pos hq, if_neg (by omega)]
  refine ⟨rfl, ?_⟩
  rw [decide_eq_decide]
  omega
theorem in_zero {b base size n : Int} (h : InE b base size n ≠ 0) : InV b base size n = false := by
  unfold InE at h
  unfold InV
  by_cases hq : (rt b && [base, n].all (okn b)) = true
  · rw [if_pos hq] at h ⊢
    by_cases hc : size < 1 ∨ sz b / 2 < size
    · exact decide_eq_false (by omega)
    · rw [if_neg hc] at h; exact absurd rfl h
  · rw [if_neg hq]

/-- SeqnumMoves' arithmetic -/
theorem moves_math {b base size n d : Int} (hi : InE b base size n = 0) (hg : GoE b base d = 0) :
    ∃ (x y z : Int) (is : Bool), GoV b base d = x ∧ GoV b n d = y ∧ InV b base size n = is ∧ InE b x size y = 0 ∧ InV b x size y = is ∧ GoE b base size = 0 ∧ GoV b base size = z ∧
      1 ≤ size ∧ size ≤ 32768 ∧ is = decide (farV b base n < size) ∧ (size ≤ 1024 → BetE b base z = 0) ∧ farV b base z = size ∧ (∀ j : Nat, (j : Int) < size → ((base + j) % sz b == n) = decide (farV b base n = j)) ∧ 0 ≤ farV b base n := by
  obtain ⟨hr, h1, h2, h3, h4⟩ := in_ok hi
  obtain ⟨_, _, c1, c2⟩ := go_ok hg
  obtain ⟨hz1, hz2⟩ := rt_pos hr
  obtain ⟨p1, p2⟩ := okn_true h1
  obtain ⟨n1, n2⟩ := okn_true h2
  obtain ⟨_, gv⟩ := go_val hr h1 c1 c2
  obtain ⟨_, gw⟩ := go_val hr h2 c1 c2
  have k1 := okn_mod hr (base + d)
  have k2 := okn_mod hr (n + d)
  obtain ⟨i1, i2⟩ := in_val hr h1 h2 h3 h4
  obtain ⟨j1, j2⟩ := in_val hr k1 k2 h3 h4
  obtain ⟨z1, z2⟩ := go_val hr h1 (c := size) (by omega) (by omega)
  have hfar : farV b ((base + d) % sz b) ((n + d) % sz b) = farV b base n := by
    unfold farV
    rw [← Int.sub_emod, show n + d - (base + d) = n - base by omega]
  have hfz : farV b base ((base + size) % sz b) = size := by
    unfold farV
    rw [Int.emod_sub_emod, show base + size - base = size by omega]
    exact Int.emod_eq_of_lt (by omega) (by omega)
  have hn0 := (farV_bd base n hr).1
  refine ⟨_, _, _, _, gv, gw, rfl, j1, by rw [j2, i2, hfar], z1, z2, h3, by omega, i2, fun hs => ?_, hfz, fun j hj => ?_, hn0⟩
  · exact BetE_zero.2 ⟨by rw [all2, hr, h1, okn_mod hr]; rfl, by omega⟩
  · rw [Bool.eq_iff_iff, beq_iff_eq, decide_eq_true_iff]
    unfold farV
    constructor
    · intro h
      rw [← h, Int.emod_sub_emod, show base + (j : Int) - base = j by omega]
      exact Int.emod_eq_of_lt (by omega) (by omega)
    · intro h
      rw [← h, Int.add_emod_emod, show base + (n - base) = n by omega]
      exact Int.emod_eq_of_lt n1 n2

theorem bet_reads {b a c : Int} {v : Value} {w : World} {m : Nat} (hv : BetL b a c v w) (h0 : BetE b a c = 0) (hf : farV b a c = m) (hm : 0 < m) :
    ∃ g cap, v = .slice (some ⟨g, 0, none⟩) m cap ∧ ∀ j, j < m → w.cell? ⟨g, j, none⟩ = some (.int .i64 ((a + j) % sz b)) := by
  have h := betR_of hv
  unfold BetR at h
  rw [if_pos h0, hf, Int.toNat_natCast] at h
  obtain ⟨A, cap, rfl, hr⟩ := h
  obtain ⟨g, rfl, _, hc⟩ := hr hm
  exact ⟨g, cap, rfl, hc⟩

set_option maxRecDepth 100000 in
set_option maxHeartbeats 3200000 in
theorem moves_walk (b base size n d : Int) (w : World) :
    Calls Try.prog 11 #[.int .i64 b, .int .i64 base, .int .i64 size, .int .i64 n, .int .i64 d] w fun e w' => e = .returned (.bool true) ∧ Below w.heap.size w w' := by
  by_cases e1 : InE b base size n = 0
  · by_cases e2 : GoE b base d = 0
    · by_cases e3 : GoE b n d = 0
      · obtain ⟨x, y, z, is, f1, f2, f3, f4, f5, f6, f7, s1, s2, his, hbe, hfz, hcell, hn0⟩ := moves_math e1 e2
        by_cases hs : 1024 < size
        · clear his hbe hfz hcell hn0
          go_enter Try.func11, Try.ntmps11
          go_wp2_with (first
            | (go_at_call 33; refine (alive2_any _).mono ?_; rintro e wa ⟨rfl, hba⟩)
            | (go_at_call 31; refine (In_any _ _ _ _ _).mono ?_; rintro e w1 ⟨rfl, hb1⟩; have hx1 : w1.cell? ⟨w.heap.size, 0, none⟩ = some (.int .i64 b) := kept_box hb1 (by first | assumption | simp))
            | (go_at_call 27; refine (Go_any _ _ _ _).mono ?_; rintro e w1 ⟨rfl, hb1⟩; have hx1 : w1.cell? ⟨w.heap.size, 0, none⟩ = some (.int .i64 b) := kept_box hb1 (by first | assumption | simp))
            | (go_at_call 39; refine (Between_any _ _ _ _).mono ?_; rintro e w5 ⟨v, rfl, hv, hb5⟩))
          go_ret
          exact ⟨by first | rfl | exact ret_bool (by simp; omega), by repeat (first | exact Below.refl _ _ | refine bl_alloc ?_ _ | refine bl_drew ?_ | refine bl_step ?_ (by assumption))⟩
        · obtain ⟨m, rfl⟩ : ∃ m : Nat, size = m := ⟨size.toNat, by omega⟩
          have hbe' := hbe (by omega)
          generalize farV b base n = F at *
          have HF := Lib.hid hfz
          have HC := Lib.hid hcell
          have HI := Lib.hid his
          clear his hbe hfz hcell
          go_enter Try.func11, Try.ntmps11
          go_wp2_with (first
            | (go_at_call 33; refine (alive2_any _).mono ?_; rintro e wa ⟨rfl, hba⟩)
            | (go_at_call 31; refine (In_any _ _ _ _ _).mono ?_; rintro e w1 ⟨rfl, hb1⟩; have hx1 : w1.cell? ⟨w.heap.size, 0, none⟩ = some (.int .i64 b) := kept_box hb1 (by first | assumption | simp))
            | (go_at_call 27; refine (Go_any _ _ _ _).mono ?_; rintro e w1 ⟨rfl, hb1⟩; have hx1 : w1.cell? ⟨w.heap.size, 0, none⟩ = some (.int .i64 b) := kept_box hb1 (by first | assumption | simp))
            | (go_at_call 39; refine (Between_any _ _ _ _).mono ?_; rintro e w5 ⟨v, rfl, hv, hb5⟩; obtain ⟨g, cap, rfl, hcl⟩ := bet_reads hv hbe' HF.out (by omega); have HL := Lib.hid hcl; clear hv hcl))
          go_loop [24, 25] (fun f i => ∃ k : Nat, k ≤ m ∧ i = .int .i64 k ∧ f = .bool (decide (F < (k : Int)))) (fun _ i => m - (intOf i).toNat)
          case atStart => exact ⟨0, by omega, rfl, by rw [decide_eq_false (by omega)]⟩
          case round =>
            obtain ⟨k, hk, rfl, rfl⟩ := hrel
            by_cases hlt : k < m
            · have hc := HL.out k hlt
              have hq := HC.out k (by omega)
              generalize (base + (k : Int)) % sz b = q at *
              rcases Int.lt_trichotomy F k with hF | hF | hF
              · clear hq
                go_wp2
                go_round
                case rel => exact ⟨k + 1, by omega, by go_num, by rw [decide_eq_true (by omega)]⟩
                case measure => simp [intOf]; omega
              · rw [decide_eq_true hF] at hq
                have hF' : ¬ F < k := by omega
                have HFk := Lib.hid hF
                clear hF
                go_wp2
                go_round
                case rel => exact ⟨k + 1, by omega, by go_num, by rw [decide_eq_true (by have := HFk.out; omega)]⟩
                case measure => simp [intOf]; omega
              · rw [decide_eq_false (by omega)] at hq
                go_wp2
                go_round
                case rel => exact ⟨k + 1, by omega, by go_num, congrArg Value.bool ((decide_eq_false (by omega : ¬ F < (k : Int))).trans (decide_eq_false (by omega : ¬ F < ((k + 1 : Nat) : Int))).symm)⟩
                case measure => simp [intOf]; omega
            · obtain rfl : k = m := by omega
              have hi := HI.out
              cases is
              · have hF := of_decide_eq_false hi.symm
                clear hi
                go_wp2_with (go_at_call 33; refine (alive2_any _).mono ?_; rintro e wa ⟨rfl, hba⟩)
                go_ret
                exact ⟨by first | rfl | exact ret_bool (by simp; omega), by repeat (first | exact Below.refl _ _ | refine bl_alloc ?_ _ | refine bl_drew ?_ | refine bl_step ?_ (by assumption))⟩
              · have hF := of_decide_eq_true hi.symm
                clear hi
                go_wp2_with (go_at_call 33; refine (alive2_any _).mono ?_; rintro e wa ⟨rfl, hba⟩)
                go_ret
                exact ⟨by first | rfl | exact ret_bool (by simp; omega), by repeat (first | exact Below.refl _ _ | refine bl_alloc ?_ _ | refine bl_drew ?_ | refine bl_step ?_ (by assumption))⟩
      · have e3' : (GoE b n d != 0) = true := by simpa using e3
        clear e3
        go_enter Try.func11, Try.ntmps11
        go_wp2_with (first
          | (go_at_call 33; refine (alive2_any _).mono ?_; rintro e wa ⟨rfl, hba⟩)
          | (go_at_call 31; refine (In_any _ _ _ _ _).mono ?_; rintro e w1 ⟨rfl, hb1⟩; have hx1 : w1.cell? ⟨w.heap.size, 0, none⟩ = some (.int .i64 b) := kept_box hb1 (by first | assumption | simp))
          | (go_at_call 27; refine (Go_any _ _ _ _).mono ?_; rintro e w1 ⟨rfl, hb1⟩; have hx1 : w1.cell? ⟨w.heap.size, 0, none⟩ = some (.int .i64 b) := kept_box hb1 (by first | assumption | simp))
          | (go_at_call 39; refine (Between_any _ _ _ _).mono ?_; rintro e w5 ⟨v, rfl, hv, hb5⟩))
        go_ret
        exact ⟨by first | rfl | exact ret_bool (by simp; omega), by repeat (first | exact Below.refl _ _ | refine bl_alloc ?_ _ | refine bl_drew ?_ | refine bl_step ?_ (by assumption))⟩
    · have e2' : (GoE b base d != 0) = true := by simpa using e2
      clear e2
      go_enter Try.func11, Try.ntmps11
      go_wp2_with (first
        | (go_at_call 33; refine (alive2_any _).mono ?_; rintro e wa ⟨rfl, hba⟩)
        | (go_at_call 31; refine (In_any _ _ _ _ _).mono ?_; rintro e w1 ⟨rfl, hb1⟩; have hx1 : w1.cell? ⟨w.heap.size, 0, none⟩ = some (.int .i64 b) := kept_box hb1 (by first | assumption | simp))
        | (go_at_call 27; refine (Go_any _ _ _ _).mono ?_; rintro e w1 ⟨rfl, hb1⟩; have hx1 : w1.cell? ⟨w.heap.size, 0, none⟩ = some (.int .i64 b) := kept_box hb1 (by first | assumption | simp))
        | (go_at_call 39; refine (Between_any _ _ _ _).mono ?_; rintro e w5 ⟨v, rfl, hv, hb5⟩))
      go_ret
      exact ⟨by first | rfl | exact ret_bool (by simp; omega), by repeat (first | exact Below.refl _ _ | refine bl_alloc ?_ _ | refine bl_drew ?_ | refine bl_step ?_ (by assumption))⟩
  · have hl := in_zero e1
    have e1' : (InE b base size n != 0) = true := by simpa using e1
    have e1'' : (InE b base size n == 0) = false := by simpa using e1
    clear e1
    go_enter Try.func11, Try.ntmps11
    go_wp2_with (first
      | (go_at_call 33; refine (alive2_any _).mono ?_; rintro e wa ⟨rfl, hba⟩)
      | (go_at_call 31; refine (In_any _ _ _ _ _).mono ?_; rintro e w1 ⟨rfl, hb1⟩; have hx1 : w1.cell? ⟨w.heap.size, 0, none⟩ = some (.int .i64 b) := kept_box hb1 (by first | assumption | simp))
      | (go_at_call 27; refine (Go_any _ _ _ _).mono ?_; rintro e w1 ⟨rfl, hb1⟩; have hx1 : w1.cell? ⟨w.heap.size, 0, none⟩ = some (.int .i64 b) := kept_box hb1 (by first | assumption | simp))
      | (go_at_call 39; refine (Between_any _ _ _ _).mono ?_; rintro e w5 ⟨v, rfl, hv, hb5⟩))
    go_ret
    exact ⟨by first | rfl | exact ret_bool (by simp; omega), by repeat (first | exact Below.refl _ _ | refine bl_alloc ?_ _ | refine bl_drew ?_ | refine bl_step ?_ (by assumption))⟩
end Go.Proofs.Ytjilmgbjbkidnaa
