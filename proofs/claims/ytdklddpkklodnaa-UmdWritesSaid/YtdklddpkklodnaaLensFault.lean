/-
  What is wrong with lengths that are to be written; lengths written.
-/
import Derived.Test.YtdklddpkklodnaaLensRead
namespace Go.Proofs.Ytdklddpkklodnaa
open Go.RowKit

/-- ints as values -/
def ins (l : List Int) : List Value := l.map (fun x => Value.int .i64 x)
theorem length_ins (l : List Int) : (ins l).length = l.length := by simp [ins]
theorem ins_at {l : List Int} {i : Nat} {x : Int} (h : l[i]? = some x) : (ins l)[i]? = some (.int .i64 x) := by simp [ins, h]
/-- may a length be? -/
def mayL (w : Nat) (x : Int) : Bool := decide (1 ≤ x) && decide (x < 2 ^ w)
/-- what is wrong with lengths -/
def faultF (l : List Int) (w : Nat) : Int := if l.length = 0 then 4 else if 23 < l.length then 2 else if l.all (mayL w) then 0 else 1

set_option maxHeartbeats 400000 in
theorem fault_kind (v : Value) {x : Int} (w : World) (h : okW x = false) : Calls Try.prog 96 #[v, .int .i64 x] w fun e w' => e = .returned (.int .i64 9) ∧ w = w' := by
  have HM := Lib.hid (lmay_any x w)
  rw [h] at HM
  clear h
  go_enter Try.func96, Try.ntmps96
  go_wp2_with (go_at_call 100; refine HM.out.mono ?_; rintro e w1 ⟨rfl, rfl⟩)
  go_ret
  exact ⟨rfl, rfl⟩

set_option maxHeartbeats 800000 in
theorem fault_11 {A : Option Addr} {l : List Int} (n cap : Nat) (w : World) (hn : l.length = n) (hm : n ≤ maxLen) (hs : Src w A (ins l)) :
    Calls Try.prog 96 #[.slice A n cap, .int .i64 11] w fun e w' => e = .returned (.int .i64 (faultF l 11)) ∧ w = w' := by
  have HM := Lib.hid (lmay_any 11 w)
  rw [show okW 11 = true from rfl] at HM
  have HG := Lib.hid (longest_ok (x := 11) rfl w)
  have HS := Lib.hid hs
  have HN := Lib.hid hn
  unfold maxLen at hm
  clear hs hn
  rcases Nat.eq_zero_or_pos n with h0 | h0
  · have HF := Lib.hid (show faultF l 11 = 4 by unfold faultF; rw [HN.out, if_pos h0])
    subst h0
    go_enter Try.func96, Try.ntmps96
    go_wp2_with (go_at_call 100; refine HM.out.mono ?_; rintro e w1 ⟨rfl, rfl⟩)
    go_ret
    exact ⟨by rw [HF.out]; rfl, rfl⟩
  · have hz : ((n : Int) == 0) = false := by simp; omega
    rcases Nat.lt_or_ge 23 n with h1 | h1
    · have HF := Lib.hid (show faultF l 11 = 2 by unfold faultF; rw [HN.out, if_neg (by omega), if_pos h1])
      have h1' : (23 : Int) < (n : Int) := by omega
      go_enter Try.func96, Try.ntmps96
      go_wp2_with (go_at_call 100; refine HM.out.mono ?_; rintro e w1 ⟨rfl, rfl⟩)
      go_ret
      exact ⟨by rw [HF.out]; rfl, rfl⟩
    · have h1' : ¬ (23 : Int) < (n : Int) := by omega
      have HF := Lib.hid (show faultF l 11 = if l.all (mayL 11) then 0 else 1 by unfold faultF; rw [HN.out, if_neg (by omega), if_neg (by omega)])
      go_enter Try.func96, Try.ntmps96
      go_wp2_with (go_at_call 100; refine HM.out.mono ?_; rintro e w1 ⟨rfl, rfl⟩)
      go_loopw [21] (fun i wr => ∃ k : Nat, k ≤ n ∧ i = .int .i64 k ∧ Hid ((l.take k).all (mayL 11) = true) ∧ w = wr) (fun i _ => n - (intOf i).toNat)
      case atStart => exact ⟨0, by omega, rfl, Lib.hid rfl, rfl⟩
      case round =>
        obtain ⟨k, hk, rfl, HK, rfl⟩ := hrel
        by_cases hlt : k < n
        · have hkl : k < l.length := by have := HN.out; omega
          have hx : l[k]? = some l[k] := List.getElem?_eq_getElem hkl
          obtain ⟨ad, rfl, hc⟩ := HS.out (by rw [length_ins]; omega)
          have hcell := hc _ _ (ins_at hx)
          have htk : (l.take (k + 1)).all (mayL 11) = mayL 11 l[k] := by
            rw [List.take_succ_eq_append_getElem hkl, List.all_append, HK.out]
            simp
          have hall : mayL 11 l[k] = false → l.all (mayL 11) = false := fun h => by
            rw [← Bool.not_eq_true, List.all_eq_true]
            intro hh
            rw [hh l[k] (List.getElem_mem hkl)] at h
            cases h
          generalize l[k] = x at *
          have HT := Lib.hid htk
          have HA := Lib.hid hall
          have hlt2 : (k : Int) < (n : Int) := by omega
          have hk0 : (0 : Int) ≤ (k : Int) := by omega
          clear hc hx htk hall
          by_cases h2 : x < 1
          · have HE := Lib.hid (HA.out (by unfold mayL; rw [decide_eq_false (by omega)]; rfl))
            go_wp2_with (go_at_call 107; refine HG.out.mono ?_; rintro e w1 ⟨rfl, rfl⟩)
            go_ret
            exact ⟨by rw [HF.out, HE.out]; rfl, rfl⟩
          · by_cases h3 : 2047 < x
            · have HE := Lib.hid (HA.out (by unfold mayL; rw [decide_eq_false (show ¬ x < 2 ^ 11 by simp only [show (2 : Int) ^ 11 = 2047 + 1 from rfl]; omega)]; simp))
              go_wp2_with (go_at_call 107; refine HG.out.mono ?_; rintro e w1 ⟨rfl, rfl⟩)
              go_ret
              exact ⟨by rw [HF.out, HE.out]; rfl, rfl⟩
            · have HE := Lib.hid (show mayL 11 x = true by unfold mayL; rw [decide_eq_true (show 1 ≤ x by omega), decide_eq_true (show x < 2 ^ 11 by simp only [show (2 : Int) ^ 11 = 2047 + 1 from rfl]; omega)]; rfl)
              go_wp2_with (go_at_call 107; refine HG.out.mono ?_; rintro e w1 ⟨rfl, rfl⟩)
              go_roundw
              case rel => exact ⟨k + 1, by omega, by go_num, Lib.hid (by rw [HT.out, HE.out]), trivial⟩
              case measure => simp [intOf]; omega
        · obtain rfl : k = n := by omega
          have HK2 := Lib.hid (show l.all (mayL 11) = true by have := HK.out; rwa [← HN.out, List.take_length] at this)
          go_wp2
          go_ret
          exact ⟨by rw [HF.out, HK2.out]; rfl, rfl⟩

set_option maxHeartbeats 800000 in
theorem fault_15 {A : Option Addr} {l : List Int} (n cap : Nat) (w : World) (hn : l.length = n) (hm : n ≤ maxLen) (hs : Src w A (ins l)) :
    Calls Try.prog 96 #[.slice A n cap, .int .i64 15] w fun e w' => e = .returned (.int .i64 (faultF l 15)) ∧ w = w' := by
  have HM := Lib.hid (lmay_any 15 w)
  rw [show okW 15 = true from rfl] at HM
  have HG := Lib.hid (longest_ok (x := 15) rfl w)
  have HS := Lib.hid hs
  have HN := Lib.hid hn
  unfold maxLen at hm
  clear hs hn
  rcases Nat.eq_zero_or_pos n with h0 | h0
  · have HF := Lib.hid (show faultF l 15 = 4 by unfold faultF; rw [HN.out, if_pos h0])
    subst h0
    go_enter Try.func96, Try.ntmps96
    go_wp2_with (go_at_call 100; refine HM.out.mono ?_; rintro e w1 ⟨rfl, rfl⟩)
    go_ret
    exact ⟨by rw [HF.out]; rfl, rfl⟩
  · have hz : ((n : Int) == 0) = false := by simp; omega
    rcases Nat.lt_or_ge 23 n with h1 | h1
    · have HF := Lib.hid (show faultF l 15 = 2 by unfold faultF; rw [HN.out, if_neg (by omega), if_pos h1])
      have h1' : (23 : Int) < (n : Int) := by omega
      go_enter Try.func96, Try.ntmps96
      go_wp2_with (go_at_call 100; refine HM.out.mono ?_; rintro e w1 ⟨rfl, rfl⟩)
      go_ret
      exact ⟨by rw [HF.out]; rfl, rfl⟩
    · have h1' : ¬ (23 : Int) < (n : Int) := by omega
      have HF := Lib.hid (show faultF l 15 = if l.all (mayL 15) then 0 else 1 by unfold faultF; rw [HN.out, if_neg (by omega), if_neg (by omega)])
      go_enter Try.func96, Try.ntmps96
      go_wp2_with (go_at_call 100; refine HM.out.mono ?_; rintro e w1 ⟨rfl, rfl⟩)
      go_loopw [21] (fun i wr => ∃ k : Nat, k ≤ n ∧ i = .int .i64 k ∧ Hid ((l.take k).all (mayL 15) = true) ∧ w = wr) (fun i _ => n - (intOf i).toNat)
      case atStart => exact ⟨0, by omega, rfl, Lib.hid rfl, rfl⟩
      case round =>
        obtain ⟨k, hk, rfl, HK, rfl⟩ := hrel
        by_cases hlt : k < n
        · have hkl : k < l.length := by have := HN.out; omega
          have hx : l[k]? = some l[k] := List.getElem?_eq_getElem hkl
          obtain ⟨ad, rfl, hc⟩ := HS.out (by rw [length_ins]; omega)
          have hcell := hc _ _ (ins_at hx)
          have htk : (l.take (k + 1)).all (mayL 15) = mayL 15 l[k] := by
            rw [List.take_succ_eq_append_getElem hkl, List.all_append, HK.out]
            simp
          have hall : mayL 15 l[k] = false → l.all (mayL 15) = false := fun h => by
            rw [← Bool.not_eq_true, List.all_eq_true]
            intro hh
            rw [hh l[k] (List.getElem_mem hkl)] at h
            cases h
          generalize l[k] = x at *
          have HT := Lib.hid htk
          have HA := Lib.hid hall
          have hlt2 : (k : Int) < (n : Int) := by omega
          have hk0 : (0 : Int) ≤ (k : Int) := by omega
          clear hc hx htk hall
          by_cases h2 : x < 1
          · have HE := Lib.hid (HA.out (by unfold mayL; rw [decide_eq_false (by omega)]; rfl))
            go_wp2_with (go_at_call 107; refine HG.out.mono ?_; rintro e w1 ⟨rfl, rfl⟩)
            go_ret
            exact ⟨by rw [HF.out, HE.out]; rfl, rfl⟩
          · by_cases h3 : 32767 < x
            · have HE := Lib.hid (HA.out (by unfold mayL; rw [decide_eq_false (show ¬ x < 2 ^ 15 by simp only [show (2 : Int) ^ 15 = 32767 + 1 from rfl]; omega)]; simp))
              go_wp2_with (go_at_call 107; refine HG.out.mono ?_; rintro e w1 ⟨rfl, rfl⟩)
              go_ret
              exact ⟨by rw [HF.out, HE.out]; rfl, rfl⟩
            · have HE := Lib.hid (show mayL 15 x = true by unfold mayL; rw [decide_eq_true (show 1 ≤ x by omega), decide_eq_true (show x < 2 ^ 15 by simp only [show (2 : Int) ^ 15 = 32767 + 1 from rfl]; omega)]; rfl)
              go_wp2_with (go_at_call 107; refine HG.out.mono ?_; rintro e w1 ⟨rfl, rfl⟩)
              go_roundw
              case rel => exact ⟨k + 1, by omega, by go_num, Lib.hid (by rw [HT.out, HE.out]), trivial⟩
              case measure => simp [intOf]; omega
        · obtain rfl : k = n := by omega
          have HK2 := Lib.hid (show l.all (mayL 15) = true by have := HK.out; rwa [← HN.out, List.take_length] at this)
          go_wp2
          go_ret
          exact ⟨by rw [HF.out, HK2.out]; rfl, rfl⟩
end Go.Proofs.Ytdklddpkklodnaa
