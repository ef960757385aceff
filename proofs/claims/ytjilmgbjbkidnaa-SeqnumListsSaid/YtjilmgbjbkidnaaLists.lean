/-
  SeqnumLists: which of two numbers is less far from a third one, and which stand between two, is as the document has it.
-/
import Derived.Test.YtjilmgbjbkidnaaSeqAlive
import Derived.Test.YtjilmgbjbkidnaaSeqRefB
import Derived.Test.YtjilmgbjbkidnaaOrder
namespace Go.Proofs.Ytjilmgbjbkidnaa
open Go.RowKit

/-- how many numbers Between tells -/
def BetN (b a c : Int) : Nat := if BetE b a c = 0 then (farV b a c).toNat else 0
theorem betN_le (b a c : Int) : BetN b a c ≤ 1024 := by
  unfold BetN
  split
  · rename_i h
    have := (BetE_zero.1 h).2
    omega
  · omega
theorem reads_bet {b a c : Int} {v : Value} {w : World} (h : BetR b a c v w) : Reads w v (BetN b a c) fun j => (a + j) % sz b := by
  unfold BetR at h
  unfold BetN
  split at h
  · rename_i h0
    rw [if_pos h0]
    exact h
  · rename_i h0
    rw [if_neg h0]
    subst h
    exact ⟨none, 0, rfl, fun hn => absurd hn (by omega)⟩

/-- which of the errors of Less and of Far go together -/
theorem lists_math (b x a c : Int) :
    (∃ g h i : Int, flt b [x, a, c] = g ∧ flt b [x, a] = h ∧ flt b [x, c] = i ∧ LessV b x a c = false ∧ (h ≠ 0 ∧ g = h ∨ h = 0 ∧ i ≠ 0 ∧ g = i)) ∨
    (flt b [x, a, c] = 0 ∧ flt b [x, a] = 0 ∧ flt b [x, c] = 0 ∧ LessV b x a c = decide (FarV b x a < FarV b x c)) := by
  cases hr : rt b
  · left
    exact ⟨3, 3, 3, by unfold flt; rw [hr]; rfl, by unfold flt; rw [hr]; rfl, by unfold flt; rw [hr]; rfl, by unfold LessV; rw [hr]; rfl, by omega⟩
  · have e3 : ∀ xs, flt b xs = if xs.all (okn b) then 0 else 1 := fun xs => by unfold flt; rw [hr]; rfl
    have eL : LessV b x a c = if [x, a, c].all (okn b) then decide (farV b x a < farV b x c) else false := by unfold LessV; rw [hr]; rfl
    have eF : ∀ y, FarV b x y = if [x, y].all (okn b) then farV b x y else 0 := fun y => by unfold FarV; rw [hr]; rfl
    rw [e3, e3, e3, eL, eF, eF, all3, all2, all2]
    cases okn b x <;> cases okn b a <;> cases okn b c <;> simp

set_option maxRecDepth 100000 in
set_option maxHeartbeats 6400000 in
theorem lists_walk (b x a c : Int) (w : World) :
    Calls Try.prog 9 #[.int .i64 b, .int .i64 x, .int .i64 a, .int .i64 c] w fun e w' => e = .returned (.bool true) ∧ Below w.heap.size w w' := by
  have hnb := betN_le b a c
  have hm := lists_math b x a c
  have HM := Lib.hid hm
  clear hm
  generalize hn : BetN b a c = n at *
  have HN := Lib.hid hn
  clear hn
  go_enter Try.func9, Try.ntmps9
  go_wp2_with (first
    | (go_at_call 39; refine (Between_any _ _ _ _).mono ?_; rintro e w1 ⟨v, rfl, hv, hb1⟩; have hx1 : w1.cell? ⟨w.heap.size, 0, none⟩ = some (.int .i64 b) := kept_box hb1 (by simp); have hr1 := reads_bet (betR_of hv); rw [HN.out] at hr1; have HR1 := Lib.hid hr1; clear hv hr1)
    | (go_at_call 40; refine (rbet_any _ _ _ _).mono ?_; rintro e w2 ⟨v2, rfl, hv2, hb2⟩; have hx2 : w2.cell? ⟨w.heap.size, 0, none⟩ = some (.int .i64 b) := kept_box hb2 (by assumption); have hr2 := reads_bet hv2; rw [HN.out] at hr2; obtain ⟨A, cap, rfl, hA⟩ := HR1.out.later hb2; obtain ⟨A2, cap2, rfl, hA2⟩ := hr2; have HA := Lib.hid hA; have HA2 := Lib.hid hA2; clear hv2 hA hA2 HR1))
  have hbl : Below w.heap.size w w2 := by repeat (first | exact Below.refl _ _ | refine bl_alloc ?_ _ | refine bl_drew ?_ | refine bl_step ?_ (by assumption))
  clear hb1 hb2 hx1
  go_loopw [14] (fun i wr => ∃ k : Nat, k ≤ n ∧ i = .int .i64 k ∧ Below w2.heap.size w2 wr) (fun i _ => n - (intOf i).toNat)
  case atStart => exact ⟨0, by omega, rfl, Below.refl _ _⟩
  case round =>
    obtain ⟨k, hk, rfl, hbr⟩ := hrel
    by_cases hlt : k < n
    · obtain ⟨g, rfl, hg, hc⟩ := HA.out (by omega)
      obtain ⟨g2, rfl, hg2, hc2⟩ := HA2.out (by omega)
      have hq := kept_box hbr (hc k hlt)
      have hq2 := kept_box hbr (hc2 k hlt)
      clear hc hc2
      have hi0 : (0 : Int) ≤ (k : Int) := by omega
      have hi1 : (k : Int) < (n : Int) := by omega
      go_wp2
      go_quiet (fail)
      go_wp2
      go_roundw
      case rel => exact ⟨k + 1, by omega, by go_num, below_drewN hbr _⟩
      case measure => simp [intOf]; omega
    · obtain rfl : k = n := by omega
      have hbw : Below w.heap.size w wr := bl_step hbl hbr
      have hx5 := kept_box hbr hx2
      clear hbr hbl hx2
      rcases HM.out with ⟨g, h, i, e1, e2, e3, e4, ⟨hh, rfl⟩ | ⟨rfl, hi, rfl⟩⟩ | ⟨e1, e2, e3, e4⟩
      · have q1 : (g != 0) = true := by simpa using hh
        have q2 : (g == 0) = false := by simpa using hh
        clear hh
        go_wp2_with (first
          | (go_at_call 33; refine (alive2_any _).mono ?_; rintro e wa ⟨rfl, hba⟩)
          | (go_at_call 41; refine (Less_any _ _ _ _ _).mono ?_; rintro e w3 ⟨rfl, hb3⟩)
          | (go_at_call 30; refine (rfar_any _ _ _ _).mono ?_; rintro e w4 ⟨rfl, rfl⟩))
        go_ret
        exact ⟨by first | rfl | exact ret_bool (by simp; omega), by repeat (first | exact Below.refl _ _ | assumption | refine bl_alloc ?_ _ | refine bl_drew ?_ | refine bl_step ?_ (by assumption))⟩
      · have q1 : (g != 0) = true := by simpa using hi
        have q2 : (g == 0) = false := by simpa using hi
        clear hi
        go_wp2_with (first
          | (go_at_call 33; refine (alive2_any _).mono ?_; rintro e wa ⟨rfl, hba⟩)
          | (go_at_call 41; refine (Less_any _ _ _ _ _).mono ?_; rintro e w3 ⟨rfl, hb3⟩)
          | (go_at_call 30; refine (rfar_any _ _ _ _).mono ?_; rintro e w4 ⟨rfl, rfl⟩))
        go_ret
        exact ⟨by first | rfl | exact ret_bool (by simp; omega), by repeat (first | exact Below.refl _ _ | assumption | refine bl_alloc ?_ _ | refine bl_drew ?_ | refine bl_step ?_ (by assumption))⟩
      · go_wp2_with (first
          | (go_at_call 33; refine (alive2_any _).mono ?_; rintro e wa ⟨rfl, hba⟩)
          | (go_at_call 41; refine (Less_any _ _ _ _ _).mono ?_; rintro e w3 ⟨rfl, hb3⟩)
          | (go_at_call 30; refine (rfar_any _ _ _ _).mono ?_; rintro e w4 ⟨rfl, rfl⟩))
        go_ret
        exact ⟨by first | rfl | exact ret_bool (by simp; omega), by repeat (first | exact Below.refl _ _ | assumption | refine bl_alloc ?_ _ | refine bl_drew ?_ | refine bl_step ?_ (by assumption))⟩
end Go.Proofs.Ytjilmgbjbkidnaa
