/-
  What numbers of a space may be, as the code and the document say. status: a miss: its value; may its From and To be?. Lengths as bits: plain lists, no program. What one answers: the next length, and whether another one follows.
-/
import Derived.Test.YtbdjgdkafbkdbaaJStatusWrites01
import Derived.Test.YtbdjgdkafbkdbaaJStatusWrites03
import Derived.Test.YtbdjgdkafbkdbaaJStatusWrites02
import Derived.BigQuiet
import Derived.Laws.BitsAllLaws
namespace Go.Proofs.Ytbdjgdkafbkdbaa
open Go.RowKit

def rt (b : Int) : Bool := decide (1 ≤ b ∧ b ≤ 16)
def sz (b : Int) : Int := if rt b then 2 ^ b.toNat else 0
def okn (b n : Int) : Bool := decide (0 ≤ n ∧ n < sz b)

theorem rt_true {b : Int} (h : rt b = true) : 1 ≤ b ∧ b ≤ 16 := of_decide_eq_true h
theorem rt_false {b : Int} (h : rt b = false) : b < 1 ∨ 16 < b := by have := of_decide_eq_false h; omega
theorem rt_of {b : Int} (h1 : 1 ≤ b) (h2 : b ≤ 16) : rt b = true := decide_eq_true ⟨h1, h2⟩
theorem rt_not {b : Int} (h : b < 1 ∨ 16 < b) : rt b = false := decide_eq_false (by omega)
theorem sz_cases {b : Int} (h : rt b = true) : sz b = 2 ∨ sz b = 4 ∨ sz b = 8 ∨ sz b = 16 ∨ sz b = 32 ∨ sz b = 64 ∨ sz b = 128 ∨ sz b = 256 ∨ sz b = 512 ∨ sz b = 1024 ∨ sz b = 2048 ∨ sz b = 4096 ∨ sz b = 8192 ∨ sz b = 16384 ∨ sz b = 32768 ∨ sz b = 65536 := by
  obtain ⟨h1, h2⟩ := rt_true h
  unfold sz
  rw [if_pos h]
  obtain rfl | rfl | rfl | rfl | rfl | rfl | rfl | rfl | rfl | rfl | rfl | rfl | rfl | rfl | rfl | rfl : b = 1 ∨ b = 2 ∨ b = 3 ∨ b = 4 ∨ b = 5 ∨ b = 6 ∨ b = 7 ∨ b = 8 ∨ b = 9 ∨ b = 10 ∨ b = 11 ∨ b = 12 ∨ b = 13 ∨ b = 14 ∨ b = 15 ∨ b = 16 := by omega
  all_goals simp
theorem sz_zero {b : Int} (h : rt b = false) : sz b = 0 := by unfold sz; rw [h]; rfl


set_option maxHeartbeats 400000 in
theorem sqright_any (b : Int) (w : World) :
    Calls Try.prog 171 #[.agg #[.int .i64 b]] w fun e w' => e = .returned (.bool (rt b)) ∧ Below w.heap.size w w' := by
  go_enter Try.func171, Try.ntmps171
  go_wp2
  go_loop [4] (fun i => ∃ k : Nat, k ≤ 16 ∧ i = .int .i64 k ∧ (b < 1 ∨ k < b)) (fun i => 16 - (intOf i).toNat)
  case atStart => exact ⟨0, by omega, rfl, by omega⟩
  case round =>
    obtain ⟨k, hk, rfl, hb⟩ := hrel
    go_wp2
    · go_ret
      exact ⟨ret_bool (rt_of (by omega) (by omega)).symm, (Below.refl _ _).alloc (Nat.le_refl _) _⟩
    · go_round
      case rel => exact ⟨k + 1, by omega, by go_num, by omega⟩
      case measure => simp [intOf]; omega
    · go_ret
      exact ⟨ret_bool (rt_not (by omega)).symm, (Below.refl _ _).alloc (Nat.le_refl _) _⟩



set_option maxHeartbeats 400000 in
theorem sqsize_any (b : Int) (w : World) :
    Calls Try.prog 148 #[.agg #[.int .i64 b]] w fun e w' => e = .returned (.int .i64 (sz b)) ∧ Below w.heap.size w w' := by
  cases hr : rt b
  · rw [sz_zero hr]
    have H := Lib.hid hr
    clear hr
    go_enter Try.func148, Try.ntmps148
    go_wp2_with (go_at_call 171; refine (sqright_any _ _).mono ?_; rintro e w1 ⟨rfl, hb⟩; rw [H.out])
    go_ret
    exact ⟨rfl, ((Below.refl _ _).alloc (Nat.le_refl _) _).trans (hb.mono (by simp))⟩
  · have hs := sz_cases hr
    obtain ⟨h1, h2⟩ := rt_true hr
    have hs : sz b = 2 ^ b.toNat := by unfold sz; rw [if_pos hr]
    have Hs := Lib.hid hs
    have H := Lib.hid hr
    clear hr hs
    go_enter Try.func148, Try.ntmps148
    go_wp2_with (go_at_call 171; refine (sqright_any _ _).mono ?_; rintro e w1 ⟨rfl, hb⟩; obtain ⟨hc, hf⟩ := bcell hb; rw [H.out])
    go_ret
    have hw : wrap64 (2 ^ b.toNat) = 2 ^ b.toNat := by rw [← Hs.out]; exact IntWalk.wrap64_in _ ⟨by omega, by omega⟩
    exact ⟨ret_int (hw.trans Hs.out.symm), ((Below.refl _ _).alloc (Nat.le_refl _) _).trans (hb.mono (by simp))⟩

theorem sz_bd (b : Int) : 0 ≤ sz b ∧ sz b ≤ 65536 := by
  cases h : rt b
  · rw [sz_zero h]; omega
  · have := sz_cases h; omega

set_option maxHeartbeats 400000 in
theorem sqis_any (b n : Int) (w : World) :
    Calls Try.prog 102 #[.agg #[.int .i64 b], .int .i64 n] w fun e w' => e = .returned (.bool (okn b n)) ∧ Below w.heap.size w w' := by
  by_cases hn : 0 ≤ n
  · have ho : okn b n = decide (n < sz b) := by unfold okn; simp [hn]
    have H := Lib.hid ho
    clear ho
    go_enter Try.func102, Try.ntmps102
    go_wp2_with (go_at_call 148; refine (sqsize_any _ _).mono ?_; rintro e w1 ⟨rfl, hb⟩)
    go_ret
    exact ⟨ret_bool H.out.symm, ((Below.refl _ _).alloc (Nat.le_refl _) _).trans (hb.mono (by simp))⟩
  · have ho : okn b n = false := decide_eq_false (by omega)
    have H := Lib.hid ho
    clear ho
    go_enter Try.func102, Try.ntmps102
    go_wp2
    go_ret
    exact ⟨ret_bool H.out.symm, ((Below.refl _ _).alloc (Nat.le_refl _) _)⟩

set_option maxHeartbeats 400000 in
theorem rsize_any (b : Int) (w : World) :
    Calls Try.prog 124 #[.int .i64 b] w fun e w' => e = .returned (.int .i64 (sz b)) ∧ w = w' := by
  cases hr : rt b
  · rw [sz_zero hr]
    have hb := rt_false hr
    clear hr
    by_cases h1 : b < 1
    · go_enter Try.func124, Try.ntmps124
      go_wp2
      go_ret
      exact ⟨rfl, rfl⟩
    · have h2 : 16 < b := by omega
      go_enter Try.func124, Try.ntmps124
      go_wp2
      go_ret
      exact ⟨rfl, rfl⟩
  · obtain ⟨h1, h2⟩ := rt_true hr
    have hs : sz b = 2 ^ b.toNat := by unfold sz; rw [if_pos hr]
    have Hs := Lib.hid hs
    clear hr hs
    go_enter Try.func124, Try.ntmps124
    go_wp2
    go_loop [3, 4] (fun v i => ∃ k n : Nat, (k : Int) ≤ b ∧ i = .int .i64 k ∧ v = .int .i64 n ∧ Hid (n = 2 ^ k) ∧ n ≤ 65536) (fun _ i => (b - intOf i).toNat)
    case atStart => exact ⟨0, 1, by omega, rfl, rfl, Lib.hid rfl, by omega⟩
    case round =>
      obtain ⟨k, n, hk, rfl, rfl, hn, hnb⟩ := hrel
      by_cases hlt : (k : Int) < b
      · go_wp2
        go_round
        case rel =>
          have e := hn.out
          have h15 : n ≤ 2 ^ 15 := by rw [e]; exact Nat.pow_le_pow_right (by omega) (by omega)
          exact ⟨k + 1, 2 * n, by omega, by go_num, by go_num, Lib.hid (by rw [e, Nat.pow_succ]; omega), by omega⟩
        case measure => simp [intOf]; omega
      · go_wp2
        go_ret
        have hkb : b.toNat = k := by omega
        exact ⟨ret_int (by rw [Hs.out, hkb, hn.out]; simp), rfl⟩

set_option maxHeartbeats 400000 in
theorem ris_any (b n : Int) (w : World) :
    Calls Try.prog 104 #[.int .i64 b, .int .i64 n] w fun e w' => e = .returned (.bool (okn b n)) ∧ w = w' := by
  by_cases hn : 0 ≤ n
  · have ho : okn b n = decide (n < sz b) := by unfold okn; simp [hn]
    have H := Lib.hid ho
    clear ho
    go_enter Try.func104, Try.ntmps104
    go_wp2_with (go_at_call 124; refine (rsize_any _ _).mono ?_; rintro e w1 ⟨rfl, rfl⟩)
    go_ret
    exact ⟨ret_bool H.out.symm, rfl⟩
  · have ho : okn b n = false := decide_eq_false (by omega)
    have H := Lib.hid ho
    clear ho
    go_enter Try.func104, Try.ntmps104
    go_wp2
    go_ret
    exact ⟨ret_bool H.out.symm, rfl⟩

end Go.Proofs.Ytbdjgdkafbkdbaa
namespace Go.Proofs.Ytbdjgdkafbkdbaa
open Go.RowKit

structure MissM where
  sn : Int
  part : Bool
  fr : Int
  to : Int
def MissM.v (m : MissM) : Value := .agg #[.int .i64 m.sn, .bool m.part, .int .i64 m.fr, .int .i64 m.to]
def placedB (m : MissM) (w : Int) : Bool :=
  if m.part then (if m.to = 0 then decide (0 ≤ m.fr) && decide (m.fr ≤ onF w) else decide (0 ≤ m.fr) && decide (m.fr < m.to) && decide (m.to ≤ onF w)) else (m.fr == 0) && (m.to == 0)
set_option maxHeartbeats 400000 in
theorem splaced_no (sn fr to x : Int) (w : World) : Calls Try.prog 103 #[.agg #[.int .i64 sn, .bool false, .int .i64 fr, .int .i64 to], .int .i64 x] w fun e w' => e = .returned (.bool ((fr == 0) && (to == 0))) ∧ Below w.heap.size w w' := by
  go_enter Try.func103, Try.ntmps103
  go_wp2
  all_goals
    go_ret
    exact ⟨ret_bool (by simp [*]), bl_alloc (Below.refl _ _) _⟩
set_option maxHeartbeats 800000 in
theorem splaced_e0 (sn fr x : Int) (w : World) (g0 : decide (0 ≤ fr) = false) : Calls Try.prog 103 #[.agg #[.int .i64 sn, .bool true, .int .i64 fr, .int .i64 0], .int .i64 x] w fun e w' => e = .returned (.bool false) ∧ Below w.heap.size w w' := by
  have HP := Lib.hid (fun W => sones_any x W)
  have HB0 := Lib.hid (bl_alloc (Below.refl w.heap.size w) (.cells #[.int .i64 sn, .bool true, .int .i64 fr, .int .i64 0] 100))
  generalize onF x = o at *
  go_enter Try.func103, Try.ntmps103
  go_wp2_with fail
  go_quiet ((go_at_call 149; exact Calls.quiet_of_same ((HP.out _).mono fun e w' h => ⟨h.1, h.2.symm⟩)))
  go_wp2
  go_ret
  exact ⟨rfl, below_drewN HB0.out _⟩
set_option maxHeartbeats 800000 in
theorem splaced_e1 (sn fr x : Int) (w : World) (g0 : decide (0 ≤ fr) = true) (g1 : decide (fr ≤ onF x) = true) : Calls Try.prog 103 #[.agg #[.int .i64 sn, .bool true, .int .i64 fr, .int .i64 0], .int .i64 x] w fun e w' => e = .returned (.bool true) ∧ Below w.heap.size w w' := by
  have HP := Lib.hid (fun W => sones_any x W)
  have HB0 := Lib.hid (bl_alloc (Below.refl w.heap.size w) (.cells #[.int .i64 sn, .bool true, .int .i64 fr, .int .i64 0] 100))
  generalize onF x = o at *
  go_enter Try.func103, Try.ntmps103
  go_wp2_with fail
  go_quiet ((go_at_call 149; exact Calls.quiet_of_same ((HP.out _).mono fun e w' h => ⟨h.1, h.2.symm⟩)))
  go_wp2
  go_ret
  exact ⟨rfl, below_drewN HB0.out _⟩
set_option maxHeartbeats 800000 in
theorem splaced_e2 (sn fr x : Int) (w : World) (g0 : decide (0 ≤ fr) = true) (g1 : decide (fr ≤ onF x) = false) : Calls Try.prog 103 #[.agg #[.int .i64 sn, .bool true, .int .i64 fr, .int .i64 0], .int .i64 x] w fun e w' => e = .returned (.bool false) ∧ Below w.heap.size w w' := by
  have HP := Lib.hid (fun W => sones_any x W)
  have HB0 := Lib.hid (bl_alloc (Below.refl w.heap.size w) (.cells #[.int .i64 sn, .bool true, .int .i64 fr, .int .i64 0] 100))
  generalize onF x = o at *
  go_enter Try.func103, Try.ntmps103
  go_wp2_with fail
  go_quiet ((go_at_call 149; exact Calls.quiet_of_same ((HP.out _).mono fun e w' h => ⟨h.1, h.2.symm⟩)))
  go_wp2
  go_ret
  exact ⟨rfl, below_drewN HB0.out _⟩
set_option maxHeartbeats 800000 in
theorem splaced_m0 (sn fr to x : Int) (w : World) (hz : (to == 0) = false) (g0 : decide (0 ≤ fr) = false) : Calls Try.prog 103 #[.agg #[.int .i64 sn, .bool true, .int .i64 fr, .int .i64 to], .int .i64 x] w fun e w' => e = .returned (.bool false) ∧ Below w.heap.size w w' := by
  have HP := Lib.hid (fun W => sones_any x W)
  have HB0 := Lib.hid (bl_alloc (Below.refl w.heap.size w) (.cells #[.int .i64 sn, .bool true, .int .i64 fr, .int .i64 to] 100))
  generalize onF x = o at *
  go_enter Try.func103, Try.ntmps103
  go_wp2_with fail
  go_quiet ((go_at_call 149; exact Calls.quiet_of_same ((HP.out _).mono fun e w' h => ⟨h.1, h.2.symm⟩)))
  go_wp2
  go_ret
  exact ⟨rfl, below_drewN HB0.out _⟩
set_option maxHeartbeats 800000 in
theorem splaced_m1 (sn fr to x : Int) (w : World) (hz : (to == 0) = false) (g0 : decide (0 ≤ fr) = true) (g1 : decide (fr < to) = false) : Calls Try.prog 103 #[.agg #[.int .i64 sn, .bool true, .int .i64 fr, .int .i64 to], .int .i64 x] w fun e w' => e = .returned (.bool false) ∧ Below w.heap.size w w' := by
  have HP := Lib.hid (fun W => sones_any x W)
  have HB0 := Lib.hid (bl_alloc (Below.refl w.heap.size w) (.cells #[.int .i64 sn, .bool true, .int .i64 fr, .int .i64 to] 100))
  generalize onF x = o at *
  go_enter Try.func103, Try.ntmps103
  go_wp2_with fail
  go_quiet ((go_at_call 149; exact Calls.quiet_of_same ((HP.out _).mono fun e w' h => ⟨h.1, h.2.symm⟩)))
  go_wp2
  go_ret
  exact ⟨rfl, below_drewN HB0.out _⟩
set_option maxHeartbeats 800000 in
theorem splaced_m2 (sn fr to x : Int) (w : World) (hz : (to == 0) = false) (g0 : decide (0 ≤ fr) = true) (g1 : decide (fr < to) = true) (g2 : decide (to ≤ onF x) = true) : Calls Try.prog 103 #[.agg #[.int .i64 sn, .bool true, .int .i64 fr, .int .i64 to], .int .i64 x] w fun e w' => e = .returned (.bool true) ∧ Below w.heap.size w w' := by
  have HP := Lib.hid (fun W => sones_any x W)
  have HB0 := Lib.hid (bl_alloc (Below.refl w.heap.size w) (.cells #[.int .i64 sn, .bool true, .int .i64 fr, .int .i64 to] 100))
  generalize onF x = o at *
  go_enter Try.func103, Try.ntmps103
  go_wp2_with fail
  go_quiet ((go_at_call 149; exact Calls.quiet_of_same ((HP.out _).mono fun e w' h => ⟨h.1, h.2.symm⟩)))
  go_wp2
  go_ret
  exact ⟨rfl, below_drewN HB0.out _⟩
set_option maxHeartbeats 800000 in
theorem splaced_m3 (sn fr to x : Int) (w : World) (hz : (to == 0) = false) (g0 : decide (0 ≤ fr) = true) (g1 : decide (fr < to) = true) (g2 : decide (to ≤ onF x) = false) : Calls Try.prog 103 #[.agg #[.int .i64 sn, .bool true, .int .i64 fr, .int .i64 to], .int .i64 x] w fun e w' => e = .returned (.bool false) ∧ Below w.heap.size w w' := by
  have HP := Lib.hid (fun W => sones_any x W)
  have HB0 := Lib.hid (bl_alloc (Below.refl w.heap.size w) (.cells #[.int .i64 sn, .bool true, .int .i64 fr, .int .i64 to] 100))
  generalize onF x = o at *
  go_enter Try.func103, Try.ntmps103
  go_wp2_with fail
  go_quiet ((go_at_call 149; exact Calls.quiet_of_same ((HP.out _).mono fun e w' h => ⟨h.1, h.2.symm⟩)))
  go_wp2
  go_ret
  exact ⟨rfl, below_drewN HB0.out _⟩
theorem splaced_any (m : MissM) (x : Int) (w : World) : Calls Try.prog 103 #[m.v, .int .i64 x] w fun e w' => e = .returned (.bool (placedB m x)) ∧ Below w.heap.size w w' := by
  obtain ⟨sn, part, fr, to⟩ := m
  unfold MissM.v placedB
  cases part
  · exact splaced_no sn fr to x w
  · simp only [if_true]
    by_cases hz : to = 0
    · subst hz
      simp only [if_true]
      cases g0 : decide (0 ≤ fr)
      · exact splaced_e0 sn fr x w g0
      · cases g1 : decide (fr ≤ onF x)
        · exact splaced_e2 sn fr x w g0 g1
        · exact splaced_e1 sn fr x w g0 g1
    · rw [if_neg hz]
      have hz' : (to == 0) = false := by simpa using hz
      cases g0 : decide (0 ≤ fr)
      · exact splaced_m0 sn fr to x w hz' g0
      · cases g1 : decide (fr < to)
        · exact splaced_m1 sn fr to x w hz' g0 g1
        · cases g2 : decide (to ≤ onF x)
          · exact splaced_m3 sn fr to x w hz' g0 g1 g2
          · exact splaced_m2 sn fr to x w hz' g0 g1 g2
end Go.Proofs.Ytbdjgdkafbkdbaa
namespace Go.Proofs.Ytbdjgdkafbkdbaa

/-- the bits of lengths: each behind a bit that tells whether another one follows -/
def wbl (w : Nat) : List Nat → List Bool
  | [] => []
  | n :: r => (!r.isEmpty) :: (unval n w ++ wbl w r)
theorem length_wbl (w : Nat) (l : List Nat) : (wbl w l).length = l.length * (w + 1) := by
  induction l with
  | nil => simp [wbl]
  | cons n r ih => simp [wbl, ih, length_unval, Nat.add_mul]; omega
/-- .. of the first k -/
def wbk (w : Nat) (l : List Nat) : Nat → List Bool
  | 0 => []
  | k + 1 => wbk w l k ++ (decide (k + 1 < l.length) :: unval (l.getD k 0) w)
theorem length_wbk (w : Nat) (l : List Nat) (k : Nat) : (wbk w l k).length = k * (w + 1) := by
  induction k with
  | zero => simp [wbk]
  | succ k ih => simp [wbk, ih, length_unval, Nat.add_mul]
theorem wbk_wbl (w : Nat) (l : List Nat) (k : Nat) (h : k ≤ l.length) : wbk w l k ++ wbl w (l.drop k) = wbl w l := by
  induction k with
  | zero => simp [wbk]
  | succ k ih =>
    have h1 := ih (by omega)
    rw [List.drop_eq_getElem_cons (show k < l.length by omega)] at h1
    have e : (!(l.drop (k + 1)).isEmpty) = decide (k + 1 < l.length) := by
      rw [Bool.eq_iff_iff]
      simp
    rw [← h1, wbk, wbl, e, List.getD_eq_getElem?_getD, List.getElem?_eq_getElem (show k < l.length by omega), Option.getD_some]
    simp
theorem wbk_all (w : Nat) (l : List Nat) : wbk w l l.length = wbl w l := by
  have := wbk_wbl w l l.length (Nat.le_refl _)
  rwa [List.drop_length, wbl, List.append_nil] at this

/-- lengths read from bits, at most f: the lengths, how many bits, or why there are none -/
def prs (w : Nat) : Nat → List Bool → List Nat × Nat × Int
  | 0, _ => ([], 0, 2)
  | f + 1, y =>
    if y.length < w + 1 then ([], 0, 8)
    else if val ((y.drop 1).take w) = 0 then ([], 0, 3)
    else if y.getD 0 false then
      if (prs w f (y.drop (w + 1))).2.2 = 0 then (val ((y.drop 1).take w) :: (prs w f (y.drop (w + 1))).1, (prs w f (y.drop (w + 1))).2.1 + (w + 1), 0)
      else ([], 0, (prs w f (y.drop (w + 1))).2.2)
    else ([val ((y.drop 1).take w)], w + 1, 0)
/-- behind lengths that were read -/
def onto (w : Nat) (acc : List Nat) (r : List Nat × Nat × Int) : List Nat × Nat × Int := if r.2.2 = 0 then (acc ++ r.1, acc.length * (w + 1) + r.2.1, 0) else ([], 0, r.2.2)

theorem prs_ok (w : Nat) : ∀ (f : Nat) (y : List Bool), (prs w f y).2.2 = 0 → (prs w f y).1 ≠ [] ∧ (prs w f y).1.length ≤ f ∧ (∀ n ∈ (prs w f y).1, 1 ≤ n ∧ n < 2 ^ w) ∧ (prs w f y).2.1 = (prs w f y).1.length * (w + 1) ∧ (prs w f y).2.1 ≤ y.length ∧ y.take (prs w f y).2.1 = wbl w (prs w f y).1
  | 0, y, h => by simp [prs] at h
  | f + 1, y, h => by
    have hl := val_lt ((y.drop 1).take w)
    unfold prs at h ⊢
    split at h
    · simp at h
    · rename_i h1
      rw [if_neg h1]
      split at h
      · simp at h
      · rename_i h2
        rw [if_neg h2]
        have hlen : ((y.drop 1).take w).length = w := by rw [List.length_take, List.length_drop]; omega
        rw [hlen] at hl
        have hu : unval (val ((y.drop 1).take w)) w = (y.drop 1).take w := by
          have := unval_val ((y.drop 1).take w)
          rwa [hlen] at this
        obtain ⟨b, z, rfl⟩ : ∃ b z, y = b :: z := by
          cases y with
          | nil => simp at h1
          | cons b z => exact ⟨b, z, rfl⟩
        simp only [List.drop_succ_cons, List.drop_zero, List.getD_cons_zero, List.length_cons] at *
        cases b
        · simp only [Bool.false_eq_true, if_false] at h ⊢
          refine ⟨by simp, by simp, ?_, by simp, by omega, ?_⟩
          · intro n hn
            simp at hn
            subst hn
            omega
          · simp [wbl, hu]
        · simp only [if_true] at h ⊢
          split at h
          · rename_i h3
            rw [if_pos h3]
            obtain ⟨a1, a2, a3, a4, a5, a6⟩ := prs_ok w f (z.drop w) h3
            refine ⟨by simp, by simp; omega, ?_, by simp [a4, Nat.add_mul], by simp at a5 ⊢; omega, ?_⟩
            · intro n hn
              simp only [List.mem_cons] at hn
              rcases hn with rfl | hn
              · omega
              · exact a3 n hn
            · have e : (!(prs w f (z.drop w)).1.isEmpty) = true := by simpa using a1
              rw [wbl, e, hu, ← a6]
              rw [show (prs w f (z.drop w)).2.1 + (w + 1) = ((prs w f (z.drop w)).2.1 + w) + 1 by omega, List.take_succ_cons]
              congr 1
              rw [Nat.add_comm, List.take_add]
          · rename_i h3
            simp at h
            exact absurd h h3

theorem prs_wbl (w : Nat) : ∀ (f : Nat) (l : List Nat) (z : List Bool), l ≠ [] → l.length ≤ f → (∀ n ∈ l, 1 ≤ n ∧ n < 2 ^ w) → prs w f (wbl w l ++ z) = (l, l.length * (w + 1), 0)
  | 0, l, z, h0, hl, _ => by
    cases l with
    | nil => exact absurd rfl h0
    | cons => simp at hl
  | f + 1, [], z, h0, _, _ => absurd rfl h0
  | f + 1, n :: r, z, _, hl, hn => by
    have h1 := hn n (List.mem_cons_self ..)
    have e : wbl w (n :: r) ++ z = (!r.isEmpty) :: (unval n w ++ (wbl w r ++ z)) := by simp [wbl]
    have hv : val ((unval n w ++ (wbl w r ++ z)).take w) = n := by
      rw [List.take_append_of_le_length (by rw [length_unval]; exact Nat.le_refl _), List.take_of_length_le (by rw [length_unval]; exact Nat.le_refl _), val_unval, Nat.mod_eq_of_lt h1.2]
    have hd : (unval n w ++ (wbl w r ++ z)).drop w = wbl w r ++ z := by
      rw [List.drop_append_of_le_length (by rw [length_unval]; exact Nat.le_refl _), List.drop_of_length_le (by rw [length_unval]; exact Nat.le_refl _), List.nil_append]
    unfold prs
    rw [e]
    simp only [List.drop_succ_cons, List.drop_zero, List.getD_cons_zero, hv, hd]
    rw [if_neg (by simp [length_unval]), if_neg (by omega)]
    cases hr : r with
    | nil => simp
    | cons m t =>
      have hrec := prs_wbl w f (m :: t) z (by simp) (by rw [← hr]; simp at hl; omega) (fun k hk => hn k (List.mem_cons_of_mem _ (by rw [hr]; exact hk)))
      simp only [List.isEmpty_cons, Bool.not_false, if_true]
      rw [hrec]
      simp [Nat.add_mul]

/-- what Read answers -/
def quiet (x : List Bool) (a : Nat) : Bool := decide (∀ k, k < 8 * up a - a → x.getD (a + k) false = false)
def readF (bs : List Nat) (w : Nat) : List Nat × Nat × Int :=
  if (prs w 23 (bitsOf bs)).2.2 = 0 then
    if quiet (bitsOf bs) (prs w 23 (bitsOf bs)).2.1 then ((prs w 23 (bitsOf bs)).1, up (prs w 23 (bitsOf bs)).2.1, 0) else ([], 0, 3)
  else ([], 0, (prs w 23 (bitsOf bs)).2.2)

theorem quiet_iff {x : List Bool} {a : Nat} : quiet x a = true ↔ ∀ k, a ≤ k → k < 8 * up a → x.getD k false = false := by
  unfold quiet
  rw [decide_eq_true_iff]
  constructor
  · intro h k h1 h2
    have := h (k - a) (by omega)
    rwa [show a + (k - a) = k by omega] at this
  · intro h k hk
    exact h (a + k) (by omega) (by unfold up at *; omega)
theorem unval_inj {a b : Nat} (ha : a < 256) (hb : b < 256) (h : unval a 8 = unval b 8) : a = b := by
  have h1 := val_unval a 8
  have h2 := val_unval b 8
  rw [h, h2] at h1
  omega
theorem bitsOf_inj : ∀ {a b : List Nat}, (∀ x ∈ a, x < 256) → (∀ x ∈ b, x < 256) → bitsOf a = bitsOf b → a = b
  | [], [], _, _, _ => rfl
  | [], y :: b, _, _, h => by
    have := congrArg List.length h
    rw [length_bitsOf, length_bitsOf] at this
    simp at this
  | x :: a, [], _, _, h => by
    have := congrArg List.length h
    rw [length_bitsOf, length_bitsOf] at this
    simp at this
  | x :: a, y :: b, ha, hb, h => by
    have h' : unval x 8 ++ bitsOf a = unval y 8 ++ bitsOf b := h
    obtain ⟨h1, h2⟩ := List.append_inj h' (by rw [length_unval, length_unval])
    rw [unval_inj (ha x (List.mem_cons_self ..)) (hb y (List.mem_cons_self ..)) h1, bitsOf_inj (fun z hz => ha z (List.mem_cons_of_mem _ hz)) (fun z hz => hb z (List.mem_cons_of_mem _ hz)) h2]
theorem bitsOf_append (a b : List Nat) : bitsOf (a ++ b) = bitsOf a ++ bitsOf b := by simp [bitsOf]
theorem bitsOf_pre (bs : List Nat) (k : Nat) (h : k ≤ bs.length) : bitsOf (bs.take k) = (bitsOf bs).take (8 * k) := by
  have e : bitsOf bs = bitsOf (bs.take k) ++ bitsOf (bs.drop k) := by rw [← bitsOf_append, List.take_append_drop]
  have hl : (bitsOf (bs.take k)).length = 8 * k := by rw [length_bitsOf, List.length_take]; omega
  have h2 : (bitsOf (bs.take k)).take (8 * k) = bitsOf (bs.take k) := List.take_of_length_le (by omega)
  rw [e, List.take_append_of_le_length (by omega), h2]
theorem up_pack (n : Nat) : up n = packLen n := rfl

/-- lengths go there and back, whatever stands behind them -/
theorem read_back {w : Nat} {l : List Nat} {z : List Nat} (h0 : l ≠ []) (hl : l.length ≤ 23) (hn : ∀ n ∈ l, 1 ≤ n ∧ n < 2 ^ w) : readF (pack (wbl w l) ++ z) w = (l, packLen (l.length * (w + 1)), 0) := by
  have e : bitsOf (pack (wbl w l) ++ z) = wbl w l ++ (List.replicate (8 * packLen (l.length * (w + 1)) - l.length * (w + 1)) false ++ bitsOf z) := by
    rw [bitsOf_append, bitsOf_pack, List.append_assoc, length_wbl]
  have hp := prs_wbl w 23 l (List.replicate (8 * packLen (l.length * (w + 1)) - l.length * (w + 1)) false ++ bitsOf z) h0 hl hn
  rw [← e] at hp
  unfold readF
  rw [hp]
  simp only [if_true]
  rw [if_pos, up_pack]
  rw [quiet_iff]
  intro k h1 h2
  rw [e, List.getD_eq_getElem?_getD, List.getElem?_append_right (by rw [length_wbl]; exact h1), length_wbl, List.getElem?_append_left (by rw [List.length_replicate]; rw [up_pack] at h2; omega), List.getElem?_replicate]
  split <;> rfl
/-- what is read has, written, the bytes that it was read from -/
theorem read_write {w : Nat} {bs : List Nat} {l : List Nat} {n : Nat} (hb : ∀ b ∈ bs, b < 256) (h : readF bs w = (l, n, 0)) : l ≠ [] ∧ l.length ≤ 23 ∧ (∀ k ∈ l, 1 ≤ k ∧ k < 2 ^ w) ∧ n ≤ bs.length ∧ n = packLen (l.length * (w + 1)) ∧ pack (wbl w l) = bs.take n := by
  unfold readF at h
  split at h
  · rename_i h1
    obtain ⟨a1, a2, a3, a4, a5, a6⟩ := prs_ok w 23 (bitsOf bs) h1
    split at h
    · rename_i h2
      injection h with e1 e2
      injection e2 with e2 _
      rw [e1] at a1 a2 a3 a4 a6
      rw [length_bitsOf] at a5
      have hu : n ≤ bs.length := by rw [← e2]; unfold up; omega
      refine ⟨a1, a2, a3, hu, by rw [← e2, a4, up_pack], ?_⟩
      apply bitsOf_inj
      · intro x hx
        exact pack_small _ x hx
      · intro x hx
        exact hb x (List.mem_of_mem_take hx)
      · rw [bitsOf_pack, length_wbl, bitsOf_pre bs n hu, ← a6, ← a4]
        have hq := quiet_iff.1 h2
        rw [← e2, up_pack]
        rw [up_pack] at hq
        have hle : (prs w 23 (bitsOf bs)).2.1 ≤ 8 * packLen (prs w 23 (bitsOf bs)).2.1 := by unfold packLen; omega
        have hle2 : 8 * packLen (prs w 23 (bitsOf bs)).2.1 ≤ 8 * bs.length := by rw [← e2, up_pack] at hu; omega
        generalize (prs w 23 (bitsOf bs)).2.1 = a at *
        apply List.ext_getElem?
        intro k
        by_cases hk : k < a
        · rw [List.getElem?_append_left (by rw [List.length_take, length_bitsOf]; omega), List.getElem?_take, if_pos hk, List.getElem?_take, if_pos (by omega)]
        · rw [List.getElem?_append_right (by rw [List.length_take, length_bitsOf]; omega), List.length_take, length_bitsOf, Nat.min_eq_left a5, List.getElem?_replicate, List.getElem?_take]
          by_cases hk2 : k < 8 * packLen a
          · rw [if_pos (by omega), if_pos hk2]
            have := hq k (by omega) hk2
            rw [List.getD_eq_getElem?_getD, List.getElem?_eq_getElem (by rw [length_bitsOf]; omega), Option.getD_some] at this
            rw [List.getElem?_eq_getElem (by rw [length_bitsOf]; omega), this]
          · rw [if_neg (by omega), if_neg hk2]
    · injection h with _ h
      injection h with _ h
      cases h
  · rename_i h1
    injection h with _ h
    injection h with _ h
    exact absurd h h1

/-- behind the lengths acc the rest comes to what all comes to -/
def LInv (w : Nat) (x : List Bool) (acc : List Nat) : Prop := acc.length ≤ 22 ∧ onto w acc (prs w (23 - acc.length) (x.drop (acc.length * (w + 1)))) = prs w 23 x
theorem LInv.start (w : Nat) (x : List Bool) : LInv w x [] := by
  refine ⟨by simp, ?_⟩
  simp only [List.length_nil, Nat.sub_zero, Nat.zero_mul, List.drop_zero, onto, List.nil_append, Nat.zero_add]
  split
  · rename_i h
    rw [← h]
  · rename_i h
    have : ∀ f y, (prs w f y).2.2 ≠ 0 → prs w f y = ([], 0, (prs w f y).2.2) := by
      intro f y
      cases f with
      | zero => intro _; rfl
      | succ f =>
        unfold prs
        split
        · intro _; rfl
        · split
          · intro _; rfl
          · split
            · split
              · intro h; exact absurd rfl h
              · intro _; rfl
            · intro h; exact absurd rfl h
    exact (this 23 x h).symm
section
variable {w : Nat} {x : List Bool} {acc : List Nat}
theorem LInv.short (h : LInv w x acc) (h1 : x.length - acc.length * (w + 1) < w + 1) : prs w 23 x = ([], 0, 8) := by
  obtain ⟨h0, h⟩ := h
  rw [← h, show 23 - acc.length = (22 - acc.length) + 1 by omega]
  unfold prs
  rw [if_pos (by rw [List.length_drop]; exact h1)]
  rfl
theorem LInv.nought (h : LInv w x acc) (h1 : ¬ x.length - acc.length * (w + 1) < w + 1) (h2 : val ((x.drop (acc.length * (w + 1) + 1)).take w) = 0) : prs w 23 x = ([], 0, 3) := by
  obtain ⟨h0, h⟩ := h
  rw [← h, show 23 - acc.length = (22 - acc.length) + 1 by omega]
  unfold prs
  rw [if_neg (by rw [List.length_drop]; exact h1), List.drop_drop, if_pos h2]
  rfl
theorem LInv.last (h : LInv w x acc) (h1 : ¬ x.length - acc.length * (w + 1) < w + 1) (h2 : val ((x.drop (acc.length * (w + 1) + 1)).take w) ≠ 0) (h3 : x.getD (acc.length * (w + 1)) false = false) :
    prs w 23 x = (acc ++ [val ((x.drop (acc.length * (w + 1) + 1)).take w)], (acc.length + 1) * (w + 1), 0) := by
  obtain ⟨h0, h⟩ := h
  rw [← h, show 23 - acc.length = (22 - acc.length) + 1 by omega]
  unfold prs
  have e : (x.drop (acc.length * (w + 1))).getD 0 false = x.getD (acc.length * (w + 1)) false := by
    rw [List.getD_eq_getElem?_getD, List.getElem?_drop, Nat.add_zero, ← List.getD_eq_getElem?_getD]
  rw [if_neg (by rw [List.length_drop]; exact h1), List.drop_drop, if_neg h2, e, h3]
  simp [onto, Nat.add_mul]
theorem LInv.more (h : LInv w x acc) (h1 : ¬ x.length - acc.length * (w + 1) < w + 1) (h2 : val ((x.drop (acc.length * (w + 1) + 1)).take w) ≠ 0) (h3 : x.getD (acc.length * (w + 1)) false = true) (h4 : acc.length < 22) :
    LInv w x (acc ++ [val ((x.drop (acc.length * (w + 1) + 1)).take w)]) := by
  obtain ⟨h0, h⟩ := h
  have e : (x.drop (acc.length * (w + 1))).getD 0 false = x.getD (acc.length * (w + 1)) false := by
    rw [List.getD_eq_getElem?_getD, List.getElem?_drop, Nat.add_zero, ← List.getD_eq_getElem?_getD]
  have hl : (acc ++ [val ((x.drop (acc.length * (w + 1) + 1)).take w)]).length = acc.length + 1 := by simp
  have hs : prs w (23 - acc.length) (x.drop (acc.length * (w + 1))) = if (prs w (22 - acc.length) (x.drop ((acc.length + 1) * (w + 1)))).2.2 = 0 then (val ((x.drop (acc.length * (w + 1) + 1)).take w) :: (prs w (22 - acc.length) (x.drop ((acc.length + 1) * (w + 1)))).1, (prs w (22 - acc.length) (x.drop ((acc.length + 1) * (w + 1)))).2.1 + (w + 1), 0) else ([], 0, (prs w (22 - acc.length) (x.drop ((acc.length + 1) * (w + 1)))).2.2) := by
    rw [show 23 - acc.length = (22 - acc.length) + 1 by omega]
    conv => lhs; unfold prs
    rw [if_neg (by rw [List.length_drop]; exact h1), List.drop_drop, if_neg h2, e, h3, List.drop_drop, show acc.length * (w + 1) + (w + 1) = (acc.length + 1) * (w + 1) by rw [Nat.add_mul, Nat.one_mul]]
    rfl
  refine ⟨by rw [hl]; omega, ?_⟩
  rw [← h, hs, hl, show 23 - (acc.length + 1) = 22 - acc.length by omega]
  unfold onto
  generalize prs w (22 - acc.length) (x.drop ((acc.length + 1) * (w + 1))) = r
  by_cases hr : r.2.2 = 0
  · simp [hr, Nat.add_mul]
    omega
  · simp [hr]
theorem LInv.long (h : LInv w x acc) (h1 : ¬ x.length - acc.length * (w + 1) < w + 1) (h2 : val ((x.drop (acc.length * (w + 1) + 1)).take w) ≠ 0) (h3 : x.getD (acc.length * (w + 1)) false = true) (h4 : acc.length = 22) :
    prs w 23 x = ([], 0, 2) := by
  obtain ⟨h0, h⟩ := h
  have e : (x.drop (acc.length * (w + 1))).getD 0 false = x.getD (acc.length * (w + 1)) false := by
    rw [List.getD_eq_getElem?_getD, List.getElem?_drop, Nat.add_zero, ← List.getD_eq_getElem?_getD]
  rw [← h, show 23 - acc.length = 0 + 1 by omega]
  conv => lhs; unfold prs
  rw [if_neg (by rw [List.length_drop]; exact h1), List.drop_drop, if_neg h2, e, h3]
  simp [prs, onto]
end
end Go.Proofs.Ytbdjgdkafbkdbaa
namespace Go.Proofs.Ytbdjgdkafbkdbaa
open Go.RowKit

theorem i64_and_nat (a b : Nat) (ha : a < 9223372036854775808) (hb : b < 9223372036854775808) : bits .and .i64 (a : Int) (b : Int) = ((a &&& b : Nat) : Int) := by
  have hx : a &&& b ≤ a := Nat.and_le_left
  show IntKind.i64.wrap ((BitVec.ofInt 64 (a : Int) &&& BitVec.ofInt 64 (b : Int)).toNat : Int) = _
  rw [BitVec.toNat_and, ofInt_u64 a (by omega), ofInt_u64 b (by omega), IntKind.wrap_i64]
  omega

theorem one_short_11 {p g : Nat} {bs : List Nat} {a : Nat} (w : World) (hr : RRep w p g bs a) (h : 8 * bs.length - a < 12) :
    Calls Try.prog 196 #[.pointer (some ⟨p, 0, none⟩), .int .i64 11] w fun e w' => e = .returned (.tuple #[.int .i64 0, .bool false, .int .i64 8]) ∧ Below w.heap.size w w' := by
  have HG := Lib.hid (show Calls Try.prog 151 #[.pointer (some ⟨p, 0, none⟩), .int .i64 12] w fun e w' => e = .returned (.tuple #[.int .u64 0, .int .i64 8]) ∧ Below w.heap.size w w' from get_short 12 w hr (by omega) h)
  clear hr h
  go_enter Try.func196, Try.ntmps196
  go_wp2_with (go_at_call 151; refine HG.out.mono ?_; rintro e w1 ⟨rfl, hb1⟩)
  exact bodyPost_ret (v := .tuple #[.int .i64 0, .bool false, .int .i64 8]) (by simp [results, Try.results196, go_sem]) rfl ⟨rfl, hb1⟩

set_option maxRecDepth 100000 in
set_option maxHeartbeats 800000 in
theorem one_ok_11 {p g : Nat} {bs : List Nat} {a : Nat} (w : World) (hr : RRep w p g bs a) (h : a + 12 ≤ 8 * bs.length) :
    Calls Try.prog 196 #[.pointer (some ⟨p, 0, none⟩), .int .i64 11] w fun e w' => e = .returned (if val (seg bs (a + 1) 11) = 0 then .tuple #[.int .i64 0, .bool false, .int .i64 3] else .tuple #[.int .i64 (val (seg bs (a + 1) 11)), .bool (bitAt bs a), .int .i64 0]) ∧ RRep w' p g bs (a + 12) ∧ Only (fun k => k = p) w w' := by
  have HG := Lib.hid (show Calls Try.prog 151 #[.pointer (some ⟨p, 0, none⟩), .int .i64 12] w fun e w' => e = .returned (.tuple #[.int .u64 (val (seg bs a 12)), .int .i64 0]) ∧ Getting w p g bs a 12 w' from get_any 12 w hr (by omega) h)
  have HL := fun W => longest_ok (x := 11) rfl W
  have hv : val (seg bs a 12) = (bitAt bs a).toNat * 2048 + val (seg bs (a + 1) 11) := by
    have h1 : seg bs a (1 + 11) = seg bs a 1 ++ seg bs (a + 1) 11 := by
      unfold seg
      rw [List.take_add, List.drop_drop]
    rw [show 12 = 1 + 11 from rfl, h1, val_append, val_one (by omega), length_seg (by omega)]
  have hn : val (seg bs (a + 1) 11) < 2048 := by
    have := val_lt (seg bs (a + 1) 11)
    rw [length_seg (by omega)] at this
    exact this
  generalize val (seg bs (a + 1) 11) = n at *
  generalize bitAt bs a = bit at *
  generalize val (seg bs a 12) = V at *
  have hV : V < 4096 := by cases bit <;> simp at hv <;> omega
  have hand : bits .and .i64 (V : Int) 2047 = (n : Int) := by
    have h1 := i64_and_nat V 2047 (by omega) (by omega)
    have h2 : V &&& 2047 = n := by
      rw [show 2047 = 2 ^ 11 - 1 from rfl, Nat.and_two_pow_sub_one_eq_mod]
      cases bit <;> simp at hv <;> omega
    rw [h2] at h1
    exact h1
  have hsh : ((V : Int) / 2048 == 1) = bit := by
    cases bit <;> simp at hv ⊢ <;> omega
  have HSH := Lib.hid hsh
  have hw1 : IntKind.i64.wrap (V : Int) = (V : Int) := by rw [IntKind.wrap_i64]; omega
  clear hr h hv hsh
  rcases Nat.eq_zero_or_pos n with h0 | h0
  · subst h0
    rw [if_pos rfl]
    go_enter Try.func196, Try.ntmps196
    go_wp2_with (first
      | (go_at_call 151; refine HG.out.mono ?_; rintro e w1 ⟨rfl, hr1, ho1⟩)
      | (go_at_call 206; refine (HL _).mono ?_; rintro e w2 ⟨rfl, rfl⟩))
    exact bodyPost_ret (v := .tuple #[.int .i64 0, .bool false, .int .i64 3]) (by simp [results, Try.results196, go_sem]) rfl ⟨rfl, hr1, ho1⟩
  · rw [if_neg (by omega)]
    have hn0 : ((n : Int) == 0) = false := by simp; omega
    go_enter Try.func196, Try.ntmps196
    go_wp2_with (first
      | (go_at_call 151; refine HG.out.mono ?_; rintro e w1 ⟨rfl, hr1, ho1⟩)
      | (go_at_call 206; refine (HL _).mono ?_; rintro e w2 ⟨rfl, rfl⟩))
    go_quiet (fail)
    go_wp2
    refine bodyPost_ret (v := .tuple #[.int .i64 n, .bool bit, .int .i64 0]) ?_ rfl ⟨rfl, hr1.later (below_drewN (Below.refl _ _) _), ho1.drewN _⟩
    rw [← HSH.out]
    simp [results, Try.results196, go_sem]

theorem one_short_15 {p g : Nat} {bs : List Nat} {a : Nat} (w : World) (hr : RRep w p g bs a) (h : 8 * bs.length - a < 16) :
    Calls Try.prog 196 #[.pointer (some ⟨p, 0, none⟩), .int .i64 15] w fun e w' => e = .returned (.tuple #[.int .i64 0, .bool false, .int .i64 8]) ∧ Below w.heap.size w w' := by
  have HG := Lib.hid (show Calls Try.prog 151 #[.pointer (some ⟨p, 0, none⟩), .int .i64 16] w fun e w' => e = .returned (.tuple #[.int .u64 0, .int .i64 8]) ∧ Below w.heap.size w w' from get_short 16 w hr (by omega) h)
  clear hr h
  go_enter Try.func196, Try.ntmps196
  go_wp2_with (go_at_call 151; refine HG.out.mono ?_; rintro e w1 ⟨rfl, hb1⟩)
  exact bodyPost_ret (v := .tuple #[.int .i64 0, .bool false, .int .i64 8]) (by simp [results, Try.results196, go_sem]) rfl ⟨rfl, hb1⟩

set_option maxRecDepth 100000 in
set_option maxHeartbeats 800000 in
theorem one_ok_15 {p g : Nat} {bs : List Nat} {a : Nat} (w : World) (hr : RRep w p g bs a) (h : a + 16 ≤ 8 * bs.length) :
    Calls Try.prog 196 #[.pointer (some ⟨p, 0, none⟩), .int .i64 15] w fun e w' => e = .returned (if val (seg bs (a + 1) 15) = 0 then .tuple #[.int .i64 0, .bool false, .int .i64 3] else .tuple #[.int .i64 (val (seg bs (a + 1) 15)), .bool (bitAt bs a), .int .i64 0]) ∧ RRep w' p g bs (a + 16) ∧ Only (fun k => k = p) w w' := by
  have HG := Lib.hid (show Calls Try.prog 151 #[.pointer (some ⟨p, 0, none⟩), .int .i64 16] w fun e w' => e = .returned (.tuple #[.int .u64 (val (seg bs a 16)), .int .i64 0]) ∧ Getting w p g bs a 16 w' from get_any 16 w hr (by omega) h)
  have HL := fun W => longest_ok (x := 15) rfl W
  have hv : val (seg bs a 16) = (bitAt bs a).toNat * 32768 + val (seg bs (a + 1) 15) := by
    have h1 : seg bs a (1 + 15) = seg bs a 1 ++ seg bs (a + 1) 15 := by
      unfold seg
      rw [List.take_add, List.drop_drop]
    rw [show 16 = 1 + 15 from rfl, h1, val_append, val_one (by omega), length_seg (by omega)]
  have hn : val (seg bs (a + 1) 15) < 32768 := by
    have := val_lt (seg bs (a + 1) 15)
    rw [length_seg (by omega)] at this
    exact this
  generalize val (seg bs (a + 1) 15) = n at *
  generalize bitAt bs a = bit at *
  generalize val (seg bs a 16) = V at *
  have hV : V < 65536 := by cases bit <;> simp at hv <;> omega
  have hand : bits .and .i64 (V : Int) 32767 = (n : Int) := by
    have h1 := i64_and_nat V 32767 (by omega) (by omega)
    have h2 : V &&& 32767 = n := by
      rw [show 32767 = 2 ^ 15 - 1 from rfl, Nat.and_two_pow_sub_one_eq_mod]
      cases bit <;> simp at hv <;> omega
    rw [h2] at h1
    exact h1
  have hsh : ((V : Int) / 32768 == 1) = bit := by
    cases bit <;> simp at hv ⊢ <;> omega
  have HSH := Lib.hid hsh
  have hw1 : IntKind.i64.wrap (V : Int) = (V : Int) := by rw [IntKind.wrap_i64]; omega
  clear hr h hv hsh
  rcases Nat.eq_zero_or_pos n with h0 | h0
  · subst h0
    rw [if_pos rfl]
    go_enter Try.func196, Try.ntmps196
    go_wp2_with (first
      | (go_at_call 151; refine HG.out.mono ?_; rintro e w1 ⟨rfl, hr1, ho1⟩)
      | (go_at_call 206; refine (HL _).mono ?_; rintro e w2 ⟨rfl, rfl⟩))
    exact bodyPost_ret (v := .tuple #[.int .i64 0, .bool false, .int .i64 3]) (by simp [results, Try.results196, go_sem]) rfl ⟨rfl, hr1, ho1⟩
  · rw [if_neg (by omega)]
    have hn0 : ((n : Int) == 0) = false := by simp; omega
    go_enter Try.func196, Try.ntmps196
    go_wp2_with (first
      | (go_at_call 151; refine HG.out.mono ?_; rintro e w1 ⟨rfl, hr1, ho1⟩)
      | (go_at_call 206; refine (HL _).mono ?_; rintro e w2 ⟨rfl, rfl⟩))
    go_quiet (fail)
    go_wp2
    refine bodyPost_ret (v := .tuple #[.int .i64 n, .bool bit, .int .i64 0]) ?_ rfl ⟨rfl, hr1.later (below_drewN (Below.refl _ _) _), ho1.drewN _⟩
    rw [← HSH.out]
    simp [results, Try.results196, go_sem]
end Go.Proofs.Ytbdjgdkafbkdbaa
