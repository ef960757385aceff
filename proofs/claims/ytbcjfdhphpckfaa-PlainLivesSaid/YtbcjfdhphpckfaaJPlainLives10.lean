/-
  status: its small calls: mayBe, placeBits, ones, bit, last, end. What numbers of a space may be, as the code and the document say. status: a miss: its value; may its From and To be?. status: which statuses may be. status: how many bytes a status has. status: a status as bits, there and back: plain lists.
-/
import Derived.Test.YtbcjfdhphpckfaaJPlainLives01
import Derived.Test.YtbcjfdhphpckfaaJPlainLives04
import Derived.Test.YtbcjfdhphpckfaaJPlainLives08
import Derived.Test.YtbcjfdhphpckfaaJPlainLives05
namespace Go.Proofs.Ytbcjfdhphpckfaa
open Go.RowKit

def okS (w : Int) : Bool := (w == 10) || (w == 16)
theorem okS_nat {w : Int} (h : okS w = true) : w = 10 ∨ w = 16 := by simpa [okS] using h
theorem okS_not {w : Int} (h : okS w = false) : w ≠ 10 ∧ w ≠ 16 := by simpa [okS] using h
/-- how many bits a place has -/
def pbF (w : Int) : Int := if w = 10 then 15 else 16
/-- a place whose bits are all ones -/
def onF (w : Int) : Int := if w = 10 then 32767 else 65535
set_option maxHeartbeats 400000 in
theorem smay_any (x : Int) (w : World) : Calls Try.prog 267 #[.int .i64 x] w fun e w' => e = .returned (.bool (okS x)) ∧ w = w' := by
  by_cases h1 : x = 10
  · subst h1
    go_enter Try.func267, Try.ntmps267
    go_wp2
    go_ret
    exact ⟨rfl, rfl⟩
  · by_cases h2 : x = 16
    · subst h2
      go_enter Try.func267, Try.ntmps267
      go_wp2
      go_ret
      exact ⟨rfl, rfl⟩
    · have h1' : (x == 10) = false := by simpa using h1
      have h2' : (x == 16) = false := by simpa using h2
      have HX := Lib.hid (show okS x = false by simp [okS, h1, h2])
      clear h1 h2
      go_enter Try.func267, Try.ntmps267
      go_wp2
      go_ret
      exact ⟨by rw [HX.out]; rfl, rfl⟩
set_option maxHeartbeats 400000 in
theorem splace_any (x : Int) (w : World) : Calls Try.prog 268 #[.int .i64 x] w fun e w' => e = .returned (.int .i64 (pbF x)) ∧ w = w' := by
  by_cases h1 : x = 10
  · subst h1
    go_enter Try.func268, Try.ntmps268
    go_wp2
    go_ret
    exact ⟨rfl, rfl⟩
  · have h1' : (x == 10) = false := by simpa using h1
    have HX := Lib.hid (show pbF x = 16 by simp [pbF, h1])
    clear h1
    go_enter Try.func268, Try.ntmps268
    go_wp2
    go_ret
    exact ⟨by rw [HX.out]; rfl, rfl⟩
set_option maxHeartbeats 400000 in
theorem sones_any (x : Int) (w : World) : Calls Try.prog 270 #[.int .i64 x] w fun e w' => e = .returned (.int .i64 (onF x)) ∧ w = w' := by
  have HP := Lib.hid (splace_any x w)
  by_cases h1 : x = 10
  · have HX := Lib.hid (show pbF x = 15 ∧ onF x = 32767 by simp [pbF, onF, h1])
    rw [HX.out.1] at HP
    rw [HX.out.2]
    clear h1
    go_enter Try.func270, Try.ntmps270
    go_wp2_with (go_at_call 268; refine HP.out.mono ?_; rintro e w1 ⟨rfl, rfl⟩)
    go_ret
    exact ⟨rfl, rfl⟩
  · have HX := Lib.hid (show pbF x = 16 ∧ onF x = 65535 by simp [pbF, onF, h1])
    rw [HX.out.1] at HP
    rw [HX.out.2]
    clear h1
    go_enter Try.func270, Try.ntmps270
    go_wp2_with (go_at_call 268; refine HP.out.mono ?_; rintro e w1 ⟨rfl, rfl⟩)
    go_ret
    exact ⟨rfl, rfl⟩
/-- the number that stands for a part's end -/
def lastF (to w : Int) : Int := if to = 0 then onF w else to - 1
/-- the end for which a number stands -/
def endF (l w : Int) : Int := if l = onF w then 0 else l + 1
set_option maxHeartbeats 400000 in
theorem send_any (l x : Int) (w : World) (h0 : 0 ≤ l) (h1 : l ≤ 65535) : Calls Try.prog 269 #[.int .i64 l, .int .i64 x] w fun e w' => e = .returned (.int .i64 (endF l x)) ∧ w = w' := by
  have HP := Lib.hid (sones_any x w)
  by_cases ht : l = onF x
  · have HX := Lib.hid (show endF l x = 0 by simp [endF, ht])
    have ht' : (l == onF x) = true := by simpa using ht
    generalize onF x = o at *
    clear ht
    go_enter Try.func269, Try.ntmps269
    go_wp2_with (go_at_call 270; refine HP.out.mono ?_; rintro e w1 ⟨rfl, rfl⟩)
    go_ret
    exact ⟨by rw [HX.out]; rfl, rfl⟩
  · have HX := Lib.hid (show endF l x = l + 1 by simp [endF, ht])
    have ht' : (l == onF x) = false := by simpa using ht
    generalize onF x = o at *
    clear ht
    go_enter Try.func269, Try.ntmps269
    go_wp2_with (go_at_call 270; refine HP.out.mono ?_; rintro e w1 ⟨rfl, rfl⟩)
    go_ret
    exact ⟨by rw [HX.out]; rfl, rfl⟩
end Go.Proofs.Ytbcjfdhphpckfaa
namespace Go.Proofs.Ytbcjfdhphpckfaa
open Go.RowKit

def rt (b : Int) : Bool := decide (1 ≤ b ∧ b ≤ 16)
def sz (b : Int) : Int := if rt b then 2 ^ b.toNat else 0
def okn (b n : Int) : Bool := decide (0 ≤ n ∧ n < sz b)

theorem rt_true {b : Int} (h : rt b = true) : 1 ≤ b ∧ b ≤ 16 := of_decide_eq_true h
theorem rt_false {b : Int} (h : rt b = false) : b < 1 ∨ 16 < b := by have := of_decide_eq_false h; omega
theorem rt_of {b : Int} (h1 : 1 ≤ b) (h2 : b ≤ 16) : rt b = true := decide_eq_true ⟨h1, h2⟩
theorem rt_not {b : Int} (h : b < 1 ∨ 16 < b) : rt b = false := decide_eq_false (by omega)
theorem sz_cases {b : Int} (h : rt b = true) : sz b = 2 ∨ sz b = 4 ∨ sz b = 8 ∨ sz b = 16 ∨ sz b = 32 ∨ sz b = 64 ∨ sz b = 128 ∨ sz b = 256 ∨ sz b = 512 ∨ sz b = 1024 ∨ sz b = 2048 ∨ sz b = 4096 ∨ sz b = 8192 ∨ sz b = 16384 ∨ sz b = 32768 ∨ sz b = 65536 := by
  obtain ⟨h1, h2⟩ := rt_true h
  unfold sz
  rw [if_pos h]
  obtain rfl | rfl | rfl | rfl | rfl | rfl | rfl | rfl | rfl | rfl | rfl | rfl | rfl | rfl | rfl | rfl : b = 1 ∨ b = 2 ∨ b = 3 ∨ b = 4 ∨ b = 5 ∨ b = 6 ∨ b = 7 ∨ b = 8 ∨ b = 9 ∨ b = 10 ∨ b = 11 ∨ b = 12 ∨ b = 13 ∨ b = 14 ∨ b = 15 ∨ b = 16 := by omega
  all_goals simp
theorem sz_zero {b : Int} (h : rt b = false) : sz b = 0 := by unfold sz; rw [h]; rfl


set_option maxHeartbeats 400000 in
theorem sqright_any (b : Int) (w : World) :
    Calls Try.prog 246 #[.agg #[.int .i64 b]] w fun e w' => e = .returned (.bool (rt b)) ∧ Below w.heap.size w w' := by
  go_enter Try.func246, Try.ntmps246
  go_wp2
  go_loop [4] (fun i => ∃ k : Nat, k ≤ 16 ∧ i = .int .i64 k ∧ (b < 1 ∨ k < b)) (fun i => 16 - (intOf i).toNat)
  case atStart => exact ⟨0, by omega, rfl, by omega⟩
  case round =>
    obtain ⟨k, hk, rfl, hb⟩ := hrel
    go_wp2
    · go_ret
      exact ⟨ret_bool (rt_of (by omega) (by omega)).symm, (Below.refl _ _).alloc (Nat.le_refl _) _⟩
    · go_round
      case rel => exact ⟨k + 1, by omega, by go_num, by omega⟩
      case measure => simp [intOf]; omega
    · go_ret
      exact ⟨ret_bool (rt_not (by omega)).symm, (Below.refl _ _).alloc (Nat.le_refl _) _⟩



set_option maxHeartbeats 400000 in
theorem sqsize_any (b : Int) (w : World) :
    Calls Try.prog 203 #[.agg #[.int .i64 b]] w fun e w' => e = .returned (.int .i64 (sz b)) ∧ Below w.heap.size w w' := by
  cases hr : rt b
  · rw [sz_zero hr]
    have H := Lib.hid hr
    clear hr
    go_enter Try.func203, Try.ntmps203
    go_wp2_with (go_at_call 246; refine (sqright_any _ _).mono ?_; rintro e w1 ⟨rfl, hb⟩; rw [H.out])
    go_ret
    exact ⟨rfl, ((Below.refl _ _).alloc (Nat.le_refl _) _).trans (hb.mono (by simp))⟩
  · have hs := sz_cases hr
    obtain ⟨h1, h2⟩ := rt_true hr
    have hs : sz b = 2 ^ b.toNat := by unfold sz; rw [if_pos hr]
    have Hs := Lib.hid hs
    have H := Lib.hid hr
    clear hr hs
    go_enter Try.func203, Try.ntmps203
    go_wp2_with (go_at_call 246; refine (sqright_any _ _).mono ?_; rintro e w1 ⟨rfl, hb⟩; obtain ⟨hc, hf⟩ := bcell hb; rw [H.out])
    go_ret
    have hw : wrap64 (2 ^ b.toNat) = 2 ^ b.toNat := by rw [← Hs.out]; exact IntWalk.wrap64_in _ ⟨by omega, by omega⟩
    exact ⟨ret_int (hw.trans Hs.out.symm), ((Below.refl _ _).alloc (Nat.le_refl _) _).trans (hb.mono (by simp))⟩

theorem sz_bd (b : Int) : 0 ≤ sz b ∧ sz b ≤ 65536 := by
  cases h : rt b
  · rw [sz_zero h]; omega
  · have := sz_cases h; omega

set_option maxHeartbeats 400000 in
theorem sqis_any (b n : Int) (w : World) :
    Calls Try.prog 212 #[.agg #[.int .i64 b], .int .i64 n] w fun e w' => e = .returned (.bool (okn b n)) ∧ Below w.heap.size w w' := by
  by_cases hn : 0 ≤ n
  · have ho : okn b n = decide (n < sz b) := by unfold okn; simp [hn]
    have H := Lib.hid ho
    clear ho
    go_enter Try.func212, Try.ntmps212
    go_wp2_with (go_at_call 203; refine (sqsize_any _ _).mono ?_; rintro e w1 ⟨rfl, hb⟩)
    go_ret
    exact ⟨ret_bool H.out.symm, ((Below.refl _ _).alloc (Nat.le_refl _) _).trans (hb.mono (by simp))⟩
  · have ho : okn b n = false := decide_eq_false (by omega)
    have H := Lib.hid ho
    clear ho
    go_enter Try.func212, Try.ntmps212
    go_wp2
    go_ret
    exact ⟨ret_bool H.out.symm, ((Below.refl _ _).alloc (Nat.le_refl _) _)⟩

set_option maxHeartbeats 400000 in
theorem rsize_any (b : Int) (w : World) :
    Calls Try.prog 137 #[.int .i64 b] w fun e w' => e = .returned (.int .i64 (sz b)) ∧ w = w' := by
  cases hr : rt b
  · rw [sz_zero hr]
    have hb := rt_false hr
    clear hr
    by_cases h1 : b < 1
    · go_enter Try.func137, Try.ntmps137
      go_wp2
      go_ret
      exact ⟨rfl, rfl⟩
    · have h2 : 16 < b := by omega
      go_enter Try.func137, Try.ntmps137
      go_wp2
      go_ret
      exact ⟨rfl, rfl⟩
  · obtain ⟨h1, h2⟩ := rt_true hr
    have hs : sz b = 2 ^ b.toNat := by unfold sz; rw [if_pos hr]
    have Hs := Lib.hid hs
    clear hr hs
    go_enter Try.func137, Try.ntmps137
    go_wp2
    go_loop [3, 4] (fun v i => ∃ k n : Nat, (k : Int) ≤ b ∧ i = .int .i64 k ∧ v = .int .i64 n ∧ Hid (n = 2 ^ k) ∧ n ≤ 65536) (fun _ i => (b - intOf i).toNat)
    case atStart => exact ⟨0, 1, by omega, rfl, rfl, Lib.hid rfl, by omega⟩
    case round =>
      obtain ⟨k, n, hk, rfl, rfl, hn, hnb⟩ := hrel
      by_cases hlt : (k : Int) < b
      · go_wp2
        go_round
        case rel =>
          have e := hn.out
          have h15 : n ≤ 2 ^ 15 := by rw [e]; exact Nat.pow_le_pow_right (by omega) (by omega)
          exact ⟨k + 1, 2 * n, by omega, by go_num, by go_num, Lib.hid (by rw [e, Nat.pow_succ]; omega), by omega⟩
        case measure => simp [intOf]; omega
      · go_wp2
        go_ret
        have hkb : b.toNat = k := by omega
        exact ⟨ret_int (by rw [Hs.out, hkb, hn.out]; simp), rfl⟩

set_option maxHeartbeats 400000 in
theorem ris_any (b n : Int) (w : World) :
    Calls Try.prog 204 #[.int .i64 b, .int .i64 n] w fun e w' => e = .returned (.bool (okn b n)) ∧ w = w' := by
  by_cases hn : 0 ≤ n
  · have ho : okn b n = decide (n < sz b) := by unfold okn; simp [hn]
    have H := Lib.hid ho
    clear ho
    go_enter Try.func204, Try.ntmps204
    go_wp2_with (go_at_call 137; refine (rsize_any _ _).mono ?_; rintro e w1 ⟨rfl, rfl⟩)
    go_ret
    exact ⟨ret_bool H.out.symm, rfl⟩
  · have ho : okn b n = false := decide_eq_false (by omega)
    have H := Lib.hid ho
    clear ho
    go_enter Try.func204, Try.ntmps204
    go_wp2
    go_ret
    exact ⟨ret_bool H.out.symm, rfl⟩

end Go.Proofs.Ytbcjfdhphpckfaa
namespace Go.Proofs.Ytbcjfdhphpckfaa
open Go.RowKit

structure MissM where
  sn : Int
  part : Bool
  fr : Int
  to : Int
def MissM.v (m : MissM) : Value := .agg #[.int .i64 m.sn, .bool m.part, .int .i64 m.fr, .int .i64 m.to]
def placedB (m : MissM) (w : Int) : Bool :=
  if m.part then (if m.to = 0 then decide (0 ≤ m.fr) && decide (m.fr ≤ onF w) else decide (0 ≤ m.fr) && decide (m.fr < m.to) && decide (m.to ≤ onF w)) else (m.fr == 0) && (m.to == 0)
set_option maxHeartbeats 400000 in
theorem splaced_no (sn fr to x : Int) (w : World) : Calls Try.prog 238 #[.agg #[.int .i64 sn, .bool false, .int .i64 fr, .int .i64 to], .int .i64 x] w fun e w' => e = .returned (.bool ((fr == 0) && (to == 0))) ∧ Below w.heap.size w w' := by
  go_enter Try.func238, Try.ntmps238
  go_wp2
  all_goals
    go_ret
    exact ⟨ret_bool (by simp [*]), bl_alloc (Below.refl _ _) _⟩
set_option maxHeartbeats 800000 in
theorem splaced_e0 (sn fr x : Int) (w : World) (g0 : decide (0 ≤ fr) = false) : Calls Try.prog 238 #[.agg #[.int .i64 sn, .bool true, .int .i64 fr, .int .i64 0], .int .i64 x] w fun e w' => e = .returned (.bool false) ∧ Below w.heap.size w w' := by
  have HP := Lib.hid (fun W => sones_any x W)
  have HB0 := Lib.hid (bl_alloc (Below.refl w.heap.size w) (.cells #[.int .i64 sn, .bool true, .int .i64 fr, .int .i64 0] 311))
  generalize onF x = o at *
  go_enter Try.func238, Try.ntmps238
  go_wp2_with fail
  go_quiet ((go_at_call 270; exact Calls.quiet_of_same ((HP.out _).mono fun e w' h => ⟨h.1, h.2.symm⟩)))
  go_wp2
  go_ret
  exact ⟨rfl, below_drewN HB0.out _⟩
set_option maxHeartbeats 800000 in
theorem splaced_e1 (sn fr x : Int) (w : World) (g0 : decide (0 ≤ fr) = true) (g1 : decide (fr ≤ onF x) = true) : Calls Try.prog 238 #[.agg #[.int .i64 sn, .bool true, .int .i64 fr, .int .i64 0], .int .i64 x] w fun e w' => e = .returned (.bool true) ∧ Below w.heap.size w w' := by
  have HP := Lib.hid (fun W => sones_any x W)
  have HB0 := Lib.hid (bl_alloc (Below.refl w.heap.size w) (.cells #[.int .i64 sn, .bool true, .int .i64 fr, .int .i64 0] 311))
  generalize onF x = o at *
  go_enter Try.func238, Try.ntmps238
  go_wp2_with fail
  go_quiet ((go_at_call 270; exact Calls.quiet_of_same ((HP.out _).mono fun e w' h => ⟨h.1, h.2.symm⟩)))
  go_wp2
  go_ret
  exact ⟨rfl, below_drewN HB0.out _⟩
set_option maxHeartbeats 800000 in
theorem splaced_e2 (sn fr x : Int) (w : World) (g0 : decide (0 ≤ fr) = true) (g1 : decide (fr ≤ onF x) = false) : Calls Try.prog 238 #[.agg #[.int .i64 sn, .bool true, .int .i64 fr, .int .i64 0], .int .i64 x] w fun e w' => e = .returned (.bool false) ∧ Below w.heap.size w w' := by
  have HP := Lib.hid (fun W => sones_any x W)
  have HB0 := Lib.hid (bl_alloc (Below.refl w.heap.size w) (.cells #[.int .i64 sn, .bool true, .int .i64 fr, .int .i64 0] 311))
  generalize onF x = o at *
  go_enter Try.func238, Try.ntmps238
  go_wp2_with fail
  go_quiet ((go_at_call 270; exact Calls.quiet_of_same ((HP.out _).mono fun e w' h => ⟨h.1, h.2.symm⟩)))
  go_wp2
  go_ret
  exact ⟨rfl, below_drewN HB0.out _⟩
set_option maxHeartbeats 800000 in
theorem splaced_m0 (sn fr to x : Int) (w : World) (hz : (to == 0) = false) (g0 : decide (0 ≤ fr) = false) : Calls Try.prog 238 #[.agg #[.int .i64 sn, .bool true, .int .i64 fr, .int .i64 to], .int .i64 x] w fun e w' => e = .returned (.bool false) ∧ Below w.heap.size w w' := by
  have HP := Lib.hid (fun W => sones_any x W)
  have HB0 := Lib.hid (bl_alloc (Below.refl w.heap.size w) (.cells #[.int .i64 sn, .bool true, .int .i64 fr, .int .i64 to] 311))
  generalize onF x = o at *
  go_enter Try.func238, Try.ntmps238
  go_wp2_with fail
  go_quiet ((go_at_call 270; exact Calls.quiet_of_same ((HP.out _).mono fun e w' h => ⟨h.1, h.2.symm⟩)))
  go_wp2
  go_ret
  exact ⟨rfl, below_drewN HB0.out _⟩
set_option maxHeartbeats 800000 in
theorem splaced_m1 (sn fr to x : Int) (w : World) (hz : (to == 0) = false) (g0 : decide (0 ≤ fr) = true) (g1 : decide (fr < to) = false) : Calls Try.prog 238 #[.agg #[.int .i64 sn, .bool true, .int .i64 fr, .int .i64 to], .int .i64 x] w fun e w' => e = .returned (.bool false) ∧ Below w.heap.size w w' := by
  have HP := Lib.hid (fun W => sones_any x W)
  have HB0 := Lib.hid (bl_alloc (Below.refl w.heap.size w) (.cells #[.int .i64 sn, .bool true, .int .i64 fr, .int .i64 to] 311))
  generalize onF x = o at *
  go_enter Try.func238, Try.ntmps238
  go_wp2_with fail
  go_quiet ((go_at_call 270; exact Calls.quiet_of_same ((HP.out _).mono fun e w' h => ⟨h.1, h.2.symm⟩)))
  go_wp2
  go_ret
  exact ⟨rfl, below_drewN HB0.out _⟩
set_option maxHeartbeats 800000 in
theorem splaced_m2 (sn fr to x : Int) (w : World) (hz : (to == 0) = false) (g0 : decide (0 ≤ fr) = true) (g1 : decide (fr < to) = true) (g2 : decide (to ≤ onF x) = true) : Calls Try.prog 238 #[.agg #[.int .i64 sn, .bool true, .int .i64 fr, .int .i64 to], .int .i64 x] w fun e w' => e = .returned (.bool true) ∧ Below w.heap.size w w' := by
  have HP := Lib.hid (fun W => sones_any x W)
  have HB0 := Lib.hid (bl_alloc (Below.refl w.heap.size w) (.cells #[.int .i64 sn, .bool true, .int .i64 fr, .int .i64 to] 311))
  generalize onF x = o at *
  go_enter Try.func238, Try.ntmps238
  go_wp2_with fail
  go_quiet ((go_at_call 270; exact Calls.quiet_of_same ((HP.out _).mono fun e w' h => ⟨h.1, h.2.symm⟩)))
  go_wp2
  go_ret
  exact ⟨rfl, below_drewN HB0.out _⟩
set_option maxHeartbeats 800000 in
theorem splaced_m3 (sn fr to x : Int) (w : World) (hz : (to == 0) = false) (g0 : decide (0 ≤ fr) = true) (g1 : decide (fr < to) = true) (g2 : decide (to ≤ onF x) = false) : Calls Try.prog 238 #[.agg #[.int .i64 sn, .bool true, .int .i64 fr, .int .i64 to], .int .i64 x] w fun e w' => e = .returned (.bool false) ∧ Below w.heap.size w w' := by
  have HP := Lib.hid (fun W => sones_any x W)
  have HB0 := Lib.hid (bl_alloc (Below.refl w.heap.size w) (.cells #[.int .i64 sn, .bool true, .int .i64 fr, .int .i64 to] 311))
  generalize onF x = o at *
  go_enter Try.func238, Try.ntmps238
  go_wp2_with fail
  go_quiet ((go_at_call 270; exact Calls.quiet_of_same ((HP.out _).mono fun e w' h => ⟨h.1, h.2.symm⟩)))
  go_wp2
  go_ret
  exact ⟨rfl, below_drewN HB0.out _⟩
theorem splaced_any (m : MissM) (x : Int) (w : World) : Calls Try.prog 238 #[m.v, .int .i64 x] w fun e w' => e = .returned (.bool (placedB m x)) ∧ Below w.heap.size w w' := by
  obtain ⟨sn, part, fr, to⟩ := m
  unfold MissM.v placedB
  cases part
  · exact splaced_no sn fr to x w
  · simp only [if_true]
    by_cases hz : to = 0
    · subst hz
      simp only [if_true]
      cases g0 : decide (0 ≤ fr)
      · exact splaced_e0 sn fr x w g0
      · cases g1 : decide (fr ≤ onF x)
        · exact splaced_e2 sn fr x w g0 g1
        · exact splaced_e1 sn fr x w g0 g1
    · rw [if_neg hz]
      have hz' : (to == 0) = false := by simpa using hz
      cases g0 : decide (0 ≤ fr)
      · exact splaced_m0 sn fr to x w hz' g0
      · cases g1 : decide (fr < to)
        · exact splaced_m1 sn fr to x w hz' g0 g1
        · cases g2 : decide (to ≤ onF x)
          · exact splaced_m3 sn fr to x w hz' g0 g1 g2
          · exact splaced_m2 sn fr to x w hz' g0 g1 g2
end Go.Proofs.Ytbcjfdhphpckfaa
namespace Go.Proofs.Ytbcjfdhphpckfaa
open Go.RowKit

def MSrc (W : World) (A : Option Addr) (L : List MissM) : Prop :=
  0 < L.length → ∃ b o, A = some ⟨b, o, none⟩ ∧ ∀ (k : Nat) (m : MissM), L[k]? = some m → W.cell? ⟨b, o + k * 4, none⟩ = some (.int .i64 m.sn) ∧ W.cell? ⟨b, o + k * 4 + 1, none⟩ = some (.bool m.part) ∧ W.cell? ⟨b, o + k * 4 + 2, none⟩ = some (.int .i64 m.fr) ∧ W.cell? ⟨b, o + k * 4 + 3, none⟩ = some (.int .i64 m.to)
theorem MSrc.later {w v : World} {A : Option Addr} {L : List MissM} (h : MSrc w A L) (hb : Below w.heap.size w v) : MSrc v A L := fun h0 => by
  obtain ⟨b, o, h1, h2⟩ := h h0
  exact ⟨b, o, h1, fun k m hm => by
    obtain ⟨a, b, c, d⟩ := h2 k m hm
    exact ⟨cell_below hb a, cell_below hb b, cell_below hb c, cell_below hb d⟩⟩
theorem row_second {w w2 : World} {o : Obj} {t : TypeId} {cs : Array Value} (hb : Below ((w.alloc o).alloc (.cells cs t)).heap.size ((w.alloc o).alloc (.cells cs t)) w2) : Row w2 (w.heap.size + 1) t cs := by
  have h := Row.made (w.alloc o) t cs
  rw [show (w.alloc o).heap.size = w.heap.size + 1 by simp] at h
  exact h.later hb
def missB (x : Int) (m : MissM) : Bool := okn x m.sn && placedB m x
def rightB (ack : Int) (L : List MissM) (x : Int) : Bool := okS x && okn x ack && decide (L.length ≤ 32) && L.all (missB x)
end Go.Proofs.Ytbcjfdhphpckfaa
namespace Go.Proofs.Ytbcjfdhphpckfaa
open Go.RowKit

def missBits (x : Int) (m : MissM) : Int := x + 2 + (if m.part then 2 * pbF x else 0)
def bitsS (x : Int) (L : List MissM) : Int := (L.map (missBits x)).sum
def statusF (ack : Int) (L : List MissM) (x : Int) : Int := if rightB ack L x then (4 + x + 1 + bitsS x L + 7) / 8 else 0
theorem missBits_bd {x : Int} (hx : okS x = true) (m : MissM) : 0 ≤ missBits x m ∧ missBits x m ≤ 50 := by
  unfold missBits pbF
  rcases okS_nat hx with rfl | rfl
  · cases m.part <;> simp
  · cases m.part <;> simp
theorem bitsS_take {x : Int} {L : List MissM} {k : Nat} {m : MissM} (h : L[k]? = some m) : bitsS x (L.take (k + 1)) = bitsS x (L.take k) + missBits x m := by
  obtain ⟨h1, h2⟩ := List.getElem?_eq_some_iff.1 h
  unfold bitsS
  rw [List.take_succ_eq_append_getElem h1, List.map_append, List.sum_append, h2]
  simp
theorem bitsS_bd {x : Int} (hx : okS x = true) (L : List MissM) : 0 ≤ bitsS x L ∧ bitsS x L ≤ 50 * L.length := by
  induction L with
  | nil => simp [bitsS]
  | cons m t ih =>
    have h := missBits_bd hx m
    have e : bitsS x (m :: t) = missBits x m + bitsS x t := by simp [bitsS]
    rw [e, List.length_cons]
    omega
end Go.Proofs.Ytbcjfdhphpckfaa
namespace Go.Proofs.Ytbcjfdhphpckfaa
open Go.RowKit

def pbN (x : Nat) : Nat := if x = 10 then 15 else 16
theorem pbN_cast (x : Nat) : pbF (x : Int) = (pbN x : Int) := by
  unfold pbF pbN
  by_cases h : x = 10
  · rw [if_pos (by omega), if_pos h]; rfl
  · rw [if_neg (by omega), if_neg h]; rfl
theorem onF_pow (x : Nat) : onF (x : Int) = ((2 ^ pbN x - 1 : Nat) : Int) := by
  unfold onF pbN
  by_cases h : x = 10
  · rw [if_pos (by omega), if_pos h]; rfl
  · rw [if_neg (by omega), if_neg h]; rfl
theorem pbN_bd (x : Nat) : 15 ≤ pbN x ∧ pbN x ≤ 16 := by unfold pbN; split <;> omega
theorem pow_pbN (x : Nat) : 0 < 2 ^ pbN x ∧ 2 ^ pbN x ≤ 65536 := ⟨Nat.two_pow_pos _, Nat.pow_le_pow_right (by decide) (pbN_bd x).2⟩
/-- the numbers that are put for a miss -/
def missP (x : Nat) (m : MissM) (more : Bool) : List (Nat × Nat) :=
  (m.sn.toNat, x) :: (more.toNat, 1) :: (m.part.toNat, 1) :: (if m.part then [(m.fr.toNat, pbN x), ((lastF m.to x).toNat, pbN x)] else [])
def missesP (x : Nat) : List MissM → List (Nat × Nat)
  | [] => []
  | m :: t => missP x m (decide (0 < t.length)) ++ missesP x t
def headP (ack : Int) (n : Nat) (x : Nat) : List (Nat × Nat) := [(0, 4), (ack.toNat, x), ((decide (0 < n)).toNat, 1)]
def statusP (ack : Int) (L : List MissM) (x : Nat) : List (Nat × Nat) := headP ack L.length x ++ missesP x L
def stBytes (ack : Int) (L : List MissM) (x : Nat) : List Nat := pack (bitsP (statusP ack L x))
theorem bitsP_cons (v n : Nat) (t : List (Nat × Nat)) : bitsP ((v, n) :: t) = unval v n ++ bitsP t := rfl
theorem len_missP (x : Nat) (m : MissM) (more : Bool) : ((bitsP (missP x m more)).length : Int) = missBits x m := by
  unfold missP missBits
  rw [bitsP_cons, bitsP_cons, bitsP_cons, pbN_cast]
  simp only [List.length_append, length_unval]
  cases m.part
  · simp [bitsP]
    try omega
  · simp only [if_true, bitsP_cons, List.length_append, length_unval]; simp [bitsP]; omega
theorem len_missesP (x : Nat) (L : List MissM) : ((bitsP (missesP x L)).length : Int) = bitsS x L := by
  induction L with
  | nil => rfl
  | cons m t ih =>
    have e : bitsS (x : Int) (m :: t) = missBits x m + bitsS x t := by simp [bitsS]
    rw [missesP, bitsP_append, List.length_append, e, ← len_missP x m (decide (0 < t.length)), ← ih]
    omega
theorem len_statusP (ack : Int) (L : List MissM) (x : Nat) : ((bitsP (statusP ack L x)).length : Int) = 4 + x + 1 + bitsS x L := by
  unfold statusP headP
  rw [bitsP_append, List.length_append, ← len_missesP]
  simp only [bitsP_cons, List.length_append, length_unval]
  simp [bitsP]
  omega
theorem len_stBytes (ack : Int) (L : List MissM) (x : Nat) : ((stBytes ack L x).length : Int) = (4 + x + 1 + bitsS x L + 7) / 8 := by
  unfold stBytes
  rw [length_pack, packLen, ← len_statusP ack L x]
  omega
/-- what stands at a place of the bits -/
theorem at_seg {bs : List Nat} {i v n : Nat} {r : List Bool} (h : (bitsOf bs).drop i = unval v n ++ r) (hv : v < 2 ^ n) : val (seg bs i n) = v ∧ (bitsOf bs).drop (i + n) = r := by
  constructor
  · unfold seg
    rw [h, List.take_left' (length_unval v n), val_unval]
    exact Nat.mod_eq_of_lt hv
  · rw [← List.drop_drop, h, List.drop_left' (length_unval v n)]
theorem un_one (b : Bool) : unval b.toNat 1 = [b] := by cases b <;> rfl
theorem at_bit {bs : List Nat} {i : Nat} {b : Bool} {r : List Bool} (h : (bitsOf bs).drop i = unval b.toNat 1 ++ r) : bitAt bs i = b ∧ (bitsOf bs).drop (i + 1) = r := by
  constructor
  · rw [un_one] at h
    have h1 : ((bitsOf bs).drop i)[0]? = some b := by rw [h]; rfl
    rw [List.getElem?_drop, Nat.add_zero] at h1
    unfold bitAt
    rw [List.getD_eq_getElem?_getD, h1]
    rfl
  · rw [← List.drop_drop, h, List.drop_left' (length_unval _ 1)]
theorem at_fits {bs : List Nat} {i : Nat} {s r : List Bool} (h : (bitsOf bs).drop i = s ++ r) (hs : 0 < s.length) : i + s.length ≤ 8 * bs.length := by
  have h1 := congrArg List.length h
  rw [List.length_drop, length_bitsOf, List.length_append] at h1
  omega
theorem of_seg {bs : List Nat} {i n : Nat} (h : i + n ≤ 8 * bs.length) : (bitsOf bs).drop i = unval (val (seg bs i n)) n ++ (bitsOf bs).drop (i + n) := by
  have u := unval_val (seg bs i n)
  rw [length_seg h] at u
  rw [u]
  unfold seg
  rw [← List.drop_drop, List.take_append_drop]
theorem of_bit {bs : List Nat} {i : Nat} (h : i + 1 ≤ 8 * bs.length) : (bitsOf bs).drop i = unval (bitAt bs i).toNat 1 ++ (bitsOf bs).drop (i + 1) :=
  (of_seg h).trans (by rw [val_one (by omega)])
theorem seg_lt2 {hd : List Nat} {i n : Nat} (h : i + n ≤ 8 * hd.length) : val (seg hd i n) < 2 ^ n := by
  have := val_lt (seg hd i n)
  rwa [length_seg h] at this
/-- one miss of the bits from a place on -/
def rdMiss (bs : List Nat) (x i : Nat) : Option (MissM × Bool × Nat) :=
  if 8 * bs.length < i + x + 1 + 1 then none
  else if bitAt bs (i + x + 1) then
    (if 8 * bs.length < i + x + 1 + 1 + pbN x + pbN x then none
     else some (⟨((val (seg bs i x) : Nat) : Int), true, ((val (seg bs (i + x + 1 + 1) (pbN x)) : Nat) : Int), endF ((val (seg bs (i + x + 1 + 1 + pbN x) (pbN x)) : Nat) : Int) x⟩, bitAt bs (i + x), i + x + 1 + 1 + pbN x + pbN x))
  else some (⟨((val (seg bs i x) : Nat) : Int), false, 0, 0⟩, bitAt bs (i + x), i + x + 1 + 1)
theorem okn_nat {x : Nat} (hx : x = 10 ∨ x = 16) {s : Int} : okn (x : Int) s = true ↔ 0 ≤ s ∧ s.toNat < 2 ^ x := by
  unfold okn
  rw [decide_eq_true_eq]
  rcases hx with rfl | rfl
  · have e : sz ((10 : Nat) : Int) = 1024 := by decide
    rw [e]
    omega
  · have e : sz ((16 : Nat) : Int) = 65536 := by decide
    rw [e]
    omega
theorem miss_part {x : Nat} {m : MissM} (hp : m.part = true) (h : placedB m x = true) : 0 ≤ m.fr ∧ m.fr.toNat < 2 ^ pbN x ∧ 0 ≤ lastF m.to x ∧ (lastF m.to x).toNat < 2 ^ pbN x ∧ endF (lastF m.to x) x = m.to := by
  unfold placedB at h
  rw [hp] at h
  simp only [if_true] at h
  have h1 := onF_pow x
  have h2 := pow_pbN x
  unfold lastF endF
  generalize onF (x : Int) = o at *
  generalize 2 ^ pbN x = p at *
  by_cases h0 : m.to = 0
  · simp only [h0, if_true, Bool.and_eq_true, decide_eq_true_eq] at h ⊢
    refine ⟨by omega, by omega, by omega, by omega, trivial⟩
  · simp only [h0, if_false, Bool.and_eq_true, decide_eq_true_eq] at h ⊢
    refine ⟨by omega, by omega, by omega, by omega, ?_⟩
    rw [if_neg (by omega)]
    omega
theorem miss_whole {x : Int} {m : MissM} (hp : m.part = false) (h : placedB m x = true) : m.fr = 0 ∧ m.to = 0 := by
  unfold placedB at h
  rw [hp] at h
  simpa using h
theorem miss_at {bs : List Nat} {x i : Nat} {m : MissM} {more : Bool} {r : List Bool} (hx : x = 10 ∨ x = 16) (hm : missB x m = true) (h : (bitsOf bs).drop i = bitsP (missP x m more) ++ r) :
    ∃ j, rdMiss bs x i = some (m, more, j) ∧ (bitsOf bs).drop j = r := by
  unfold missB at hm
  rw [Bool.and_eq_true] at hm
  obtain ⟨hs0, hs1⟩ := (okn_nat hx).1 hm.1
  have hpl := hm.2
  obtain ⟨sn, part, fr, to⟩ := m
  unfold missP at h
  simp only [bitsP_cons, List.append_assoc] at h
  have hfit := at_fits h (by rw [length_unval]; omega)
  obtain ⟨e1, h1⟩ := at_seg h hs1
  have hfit1 := at_fits h1 (by rw [length_unval]; omega)
  obtain ⟨e2, h2⟩ := at_bit h1
  have hfit2 := at_fits h2 (by rw [length_unval]; omega)
  rw [length_unval] at hfit hfit1 hfit2
  obtain ⟨e3, h3⟩ := at_bit h2
  simp only at hs0 e1 e2 e3 h3
  cases part
  · obtain ⟨f0, t0⟩ := miss_whole rfl hpl
    simp only at f0 t0
    subst f0 t0
    refine ⟨_, ?_, h3⟩
    unfold rdMiss
    rw [if_neg (by omega), e3, if_neg (by decide), e1, e2, Int.toNat_of_nonneg hs0]
  · obtain ⟨f0, f1, l0, l1, l2⟩ := miss_part rfl hpl
    simp only [if_true, bitsP_cons, List.append_assoc] at h3 f0 f1 l0 l1 l2
    have hb := pbN_bd x
    have hfit3 := at_fits h3 (by rw [length_unval]; omega)
    obtain ⟨e4, h4⟩ := at_seg h3 f1
    have hfit4 := at_fits h4 (by rw [length_unval]; omega)
    obtain ⟨e5, h5⟩ := at_seg h4 l1
    rw [length_unval] at hfit3 hfit4
    refine ⟨_, ?_, h5⟩
    unfold rdMiss
    rw [if_neg (by omega), e3, if_pos rfl, if_neg (by omega), e1, e2, e4, e5, Int.toNat_of_nonneg hs0, Int.toNat_of_nonneg f0, Int.toNat_of_nonneg l0, l2]
theorem endF_back {x : Nat} {l : Nat} (_h : l < 2 ^ pbN x) : (lastF (endF (l : Int) x) x).toNat = l := by
  have h1 := onF_pow x
  have h2 := pow_pbN x
  unfold lastF endF
  generalize onF (x : Int) = o at *
  generalize 2 ^ pbN x = p at *
  by_cases h0 : (l : Int) = o
  · rw [if_pos h0, if_pos rfl]; omega
  · rw [if_neg h0, if_neg (by omega)]; omega
theorem miss_of {bs : List Nat} {x i j : Nat} {m : MissM} {more : Bool} (hx : x = 10 ∨ x = 16) (h : rdMiss bs x i = some (m, more, j)) :
    okn (x : Int) m.sn = true ∧ (bitsOf bs).drop i = bitsP (missP x m more) ++ (bitsOf bs).drop j ∧ i ≤ j ∧ j ≤ 8 * bs.length := by
  unfold rdMiss at h
  split at h
  · cases h
  · rename_i hf
    have d1 := of_seg (bs := bs) (i := i) (n := x) (by omega)
    have d2 := of_bit (bs := bs) (i := i + x) (by omega)
    have d3 := of_bit (bs := bs) (i := i + x + 1) (by omega)
    have hsn : okn (x : Int) ((val (seg bs i x) : Nat) : Int) = true := (okn_nat hx).2 ⟨by omega, by rw [Int.toNat_natCast]; exact seg_lt2 (by omega)⟩
    split at h
    · rename_i hp
      split at h
      · cases h
      · rename_i hf2
        injection h with h
        injection h with h1 h2
        injection h2 with h2 h3
        subst h1 h2 h3
        have d4 := of_seg (bs := bs) (i := i + x + 1 + 1) (n := pbN x) (by omega)
        have d5 := of_seg (bs := bs) (i := i + x + 1 + 1 + pbN x) (n := pbN x) (by omega)
        have hl := endF_back (x := x) (seg_lt2 (hd := bs) (i := i + x + 1 + 1 + pbN x) (n := pbN x) (by omega))
        refine ⟨hsn, ?_, by omega, by omega⟩
        unfold missP
        simp only [if_true, bitsP_cons, Int.toNat_natCast, hl]
        rw [hp] at d3
        rw [d1, d2, d3, d4, d5]
        simp [bitsP]
    · rename_i hp
      injection h with h
      injection h with h1 h2
      injection h2 with h2 h3
      subst h1 h2 h3
      refine ⟨hsn, ?_, by omega, by omega⟩
      unfold missP
      have hp' : bitAt bs (i + x + 1) = false := by simpa using hp
      simp only [Bool.false_eq_true, if_false, bitsP_cons, Int.toNat_natCast]
      rw [hp'] at d3
      rw [d1, d2, d3]
      simp [bitsP]
/-- the misses of the bits from a place on: an error's number, the misses, the place behind them -/
def rdAll (bs : List Nat) (x : Nat) : Nat → List MissM → Nat → Bool → Int × List MissM × Nat
  | _, acc, i, false => (0, acc, i)
  | 0, _, _, true => (2, [], 0)
  | f + 1, acc, i, true =>
    match rdMiss bs x i with
    | none => (8, [], 0)
    | some (m, more, j) => if more && (f == 0) then (2, [], 0) else if placedB m x then rdAll bs x f (acc ++ [m]) j more else (3, [], 0)
theorem all_at {bs : List Nat} {x : Nat} (hx : x = 10 ∨ x = 16) : ∀ (L : List MissM) (f : Nat) (acc : List MissM) (i : Nat) (r : List Bool), L.length ≤ f → L.all (missB x) = true → (bitsOf bs).drop i = bitsP (missesP x L) ++ r →
    ∃ j, rdAll bs x f acc i (decide (0 < L.length)) = (0, acc ++ L, j) ∧ (bitsOf bs).drop j = r := by
  intro L
  induction L with
  | nil =>
    intro f acc i r _ _ h
    refine ⟨i, ?_, h⟩
    cases f <;> simp [rdAll]
  | cons m t ih =>
    intro f acc i r hf ha h
    obtain ⟨f, rfl⟩ : ∃ g, f = g + 1 := ⟨f - 1, by simp at hf; omega⟩
    rw [List.all_cons, Bool.and_eq_true] at ha
    rw [missesP, bitsP_append, List.append_assoc] at h
    obtain ⟨j, e, h1⟩ := miss_at hx ha.1 h
    have hlt : t.length ≤ f := by simp at hf; omega
    obtain ⟨j', e', h2⟩ := ih f (acc ++ [m]) j r hlt ha.2 h1
    refine ⟨j', ?_, h2⟩
    have hpl : placedB m x = true := by
      have := ha.1
      unfold missB at this
      rw [Bool.and_eq_true] at this
      exact this.2
    rw [show decide (0 < (m :: t).length) = true by simp, rdAll, e]
    have hno : (decide (0 < t.length) && (f == 0)) = false := by
      by_cases h0 : f = 0
      · have : t.length = 0 := by omega
        simp [this]
      · simp [h0]
    simp only [hno, hpl, Bool.false_eq_true, if_false, if_true]
    rw [e']
    simp
theorem all_of {bs : List Nat} {x : Nat} (hx : x = 10 ∨ x = 16) : ∀ (f : Nat) (acc : List MissM) (i : Nat) (more : Bool) (L' : List MissM) (j : Nat), rdAll bs x f acc i more = (0, L', j) → i ≤ 8 * bs.length →
    ∃ L, L' = acc ++ L ∧ L.all (missB x) = true ∧ (bitsOf bs).drop i = bitsP (missesP x L) ++ (bitsOf bs).drop j ∧ more = decide (0 < L.length) ∧ L.length ≤ f ∧ j ≤ 8 * bs.length := by
  intro f
  induction f with
  | zero =>
    intro acc i more L' j h hi
    cases more
    · simp [rdAll] at h
      obtain ⟨rfl, rfl⟩ := h
      exact ⟨[], by simp, rfl, rfl, rfl, by simp, hi⟩
    · simp [rdAll] at h
  | succ f ih =>
    intro acc i more L' j h hi
    cases more
    · simp [rdAll] at h
      obtain ⟨rfl, rfl⟩ := h
      exact ⟨[], by simp, rfl, rfl, rfl, by simp, hi⟩
    · rw [rdAll] at h
      cases hm : rdMiss bs x i with
      | none => rw [hm] at h; simp at h
      | some y =>
        obtain ⟨m, more', j'⟩ := y
        rw [hm] at h
        simp only at h
        split at h
        · simp at h
        · split at h
          · rename_i hpl
            obtain ⟨e1, e2, e3, e4⟩ := miss_of hx hm
            obtain ⟨L, l1, l2, l3, l4, l5, l6⟩ := ih _ _ _ _ _ h e4
            refine ⟨m :: L, by rw [l1]; simp, ?_, ?_, by simp, by simp; omega, l6⟩
            · rw [List.all_cons, l2, Bool.and_true]
              unfold missB
              rw [e1, hpl]
              rfl
            · rw [missesP, bitsP_append, e2, l3, l4, List.append_assoc]
          · simp at h
def restOk (bs : List Nat) (j : Nat) : Bool := decide (bs.length = up j) && (List.range (8 * up j)).all fun k => decide (k < j) || !bitAt bs k
theorem restOk_iff {bs : List Nat} {j : Nat} : restOk bs j = true ↔ bs.length = up j ∧ ∀ k, j ≤ k → k < 8 * up j → bitAt bs k = false := by
  unfold restOk
  rw [Bool.and_eq_true, decide_eq_true_eq, List.all_eq_true]
  refine and_congr Iff.rfl ⟨fun h k h1 h2 => ?_, fun h k hk => ?_⟩
  · have := h k (List.mem_range.2 h2)
    simp at this
    rcases this with h3 | h3
    · omega
    · exact h3
  · rw [List.mem_range] at hk
    by_cases h1 : k < j
    · simp [h1]
    · simp [h k (by omega) hk]
/-- what bytes are: an error's number, the Ack, the misses -/
def stRd (bs : List Nat) (x : Nat) : Int × Int × List MissM :=
  if okS x = false then (9, 0, [])
  else if bs.length = 0 then (8, 0, [])
  else if 128 ≤ bs.getD 0 0 then (4, 0, [])
  else if 16 ≤ bs.getD 0 0 then (3, 0, [])
  else if 8 * bs.length < 0 + 4 + x + 1 then (8, 0, [])
  else
    match rdAll bs x 32 [] (0 + 4 + x + 1) (bitAt bs (0 + 4 + x)) with
    | (c, L, j) => if c = 0 then (if restOk bs j = true then (0, ((val (seg bs (0 + 4) x) : Nat) : Int), L) else (3, 0, [])) else (c, 0, [])
theorem first_bits {b : Nat} {r : List Nat} (h : b < 16) : ∃ s, bitsOf (b :: r) = unval 0 4 ++ s := by
  have e : bitsOf (b :: r) = unval b 8 ++ bitsOf r := rfl
  have h1 := unval_split b 4 4
  rw [show b / 2 ^ 4 = 0 by omega] at h1
  rw [e, show (8 : Nat) = 4 + 4 from rfl, h1, List.append_assoc]
  exact ⟨_, rfl⟩
theorem rest_noughts {bs : List Nat} {j : Nat} (h1 : bs.length = up j) (h2 : ∀ k, j ≤ k → k < 8 * up j → bitAt bs k = false) : (bitsOf bs).drop j = List.replicate (8 * bs.length - j) false := by
  apply List.ext_getElem?
  intro k
  rw [List.getElem?_drop, List.getElem?_replicate]
  by_cases hk : k < 8 * bs.length - j
  · rw [if_pos hk]
    have h3 := h2 (j + k) (by omega) (by omega)
    unfold bitAt at h3
    have hl : j + k < (bitsOf bs).length := by rw [length_bitsOf]; omega
    rw [List.getD_eq_getElem?_getD, List.getElem?_eq_getElem hl] at h3
    rw [List.getElem?_eq_getElem hl]
    exact congrArg some h3
  · rw [if_neg hk, List.getElem?_eq_none (by rw [length_bitsOf]; omega)]
theorem rightB_parts {ack : Int} {L : List MissM} {x : Nat} (h : rightB ack L x = true) : (x = 10 ∨ x = 16) ∧ okS x = true ∧ okn (x : Int) ack = true ∧ L.length ≤ 32 ∧ L.all (missB x) = true := by
  unfold rightB at h
  simp only [Bool.and_eq_true, decide_eq_true_eq] at h
  have := okS_nat h.1.1.1
  exact ⟨by omega, h.1.1.1, h.1.1.2, h.1.2, h.2⟩
theorem st_back {ack : Int} {L : List MissM} {x : Nat} (h : rightB ack L x = true) : stRd (stBytes ack L x) x = (0, ack, L) := by
  obtain ⟨hx, hok, ha, hl, hall⟩ := rightB_parts h
  obtain ⟨ha0, ha1⟩ := (okn_nat hx).1 ha
  have hlen := len_statusP ack L x
  have hB : 0 ≤ bitsS (x : Int) L := (bitsS_bd hok L).1
  have hbp : bitsOf (stBytes ack L x) = bitsP (statusP ack L x) ++ List.replicate (8 * packLen (bitsP (statusP ack L x)).length - (bitsP (statusP ack L x)).length) false := bitsOf_pack _
  have hln : (stBytes ack L x).length = packLen (bitsP (statusP ack L x)).length := length_pack _
  have hrest := back_rest (bitsP (statusP ack L x))
  have hsm := pack_small (bitsP (statusP ack L x))
  rw [show pack (bitsP (statusP ack L x)) = stBytes ack L x from rfl] at hrest hsm
  have h0 : (bitsOf (stBytes ack L x)).drop 0 = unval 0 4 ++ (unval ack.toNat x ++ (unval (decide (0 < L.length)).toNat 1 ++ (bitsP (missesP x L) ++ List.replicate (8 * packLen (bitsP (statusP ack L x)).length - (bitsP (statusP ack L x)).length) false))) := by
    rw [List.drop_zero, hbp]
    unfold statusP headP
    rw [bitsP_append, bitsP_cons, bitsP_cons, bitsP_cons]
    simp [bitsP]
  have hj : ∀ j, (bitsOf (stBytes ack L x)).drop j = List.replicate (8 * packLen (bitsP (statusP ack L x)).length - (bitsP (statusP ack L x)).length) false → j ≤ 8 * (stBytes ack L x).length → j = (bitsP (statusP ack L x)).length := by
    intro j hj h8
    have e := congrArg List.length hj
    rw [List.length_drop, length_bitsOf, List.length_replicate, hln] at e
    rw [hln] at h8
    unfold packLen at e h8
    omega
  generalize stBytes ack L x = bs at *
  generalize bitsP (statusP ack L x) = bl at *
  obtain ⟨e1, h1⟩ := at_seg h0 (by decide)
  obtain ⟨e2, h2⟩ := at_seg h1 ha1
  have hf3 := at_fits h2 (by rw [length_unval]; omega)
  rw [length_unval] at hf3
  obtain ⟨e3, h3⟩ := at_bit h2
  obtain ⟨j, e4, h4⟩ := all_at hx L 32 [] (0 + 4 + x + 1) _ hl hall h3
  have hj8 : j ≤ 8 * bs.length := by
    obtain ⟨_, _, _, _, _, _, h9⟩ := all_of hx _ _ _ _ _ _ e4 hf3
    exact h9
  have ej := hj j h4 hj8
  have hb0 : bs.getD 0 0 < 16 := by
    cases bs with
    | nil => simp
    | cons b r =>
      have hb : b < 256 := hsm b (List.mem_cons_self ..)
      have e : bitsOf (b :: r) = unval b 8 ++ bitsOf r := rfl
      have h5 := unval_split b 4 4
      rw [List.drop_zero, e, show (8 : Nat) = 4 + 4 from rfl, h5, List.append_assoc] at h0
      have h6 := (List.append_inj h0 (by rw [length_unval, length_unval])).1
      have h7 := congrArg val h6
      rw [val_unval, val_unval] at h7
      simp at h7 ⊢
      omega
  have hne : bs.length ≠ 0 := by omega
  unfold stRd
  rw [if_neg (by rw [hok]; decide), if_neg hne, if_neg (by omega), if_neg (by omega), if_neg (by omega), e3, e4, e2]
  simp only [if_true, List.nil_append]
  rw [ej, if_pos (restOk_iff.2 ⟨by rw [hln]; rfl, hrest⟩), Int.toNat_of_nonneg ha0]
theorem st_write {bs : List Nat} {x : Nat} {ack : Int} {L : List MissM} (hb : ∀ b ∈ bs, b < 256) (h : stRd bs x = (0, ack, L)) : rightB ack L x = true ∧ stBytes ack L x = bs := by
  unfold stRd at h
  split at h
  · simp at h
  rename_i hok
  have hok : okS (x : Int) = true := by simpa using hok
  have hx : x = 10 ∨ x = 16 := by have := okS_nat hok; omega
  split at h
  · simp at h
  rename_i hne
  split at h
  · simp at h
  split at h
  · simp at h
  rename_i h16
  split at h
  · simp at h
  rename_i hsh
  cases hr : rdAll bs x 32 [] (0 + 4 + x + 1) (bitAt bs (0 + 4 + x)) with
  | mk c y =>
    obtain ⟨L', j⟩ := y
    rw [hr] at h
    simp only at h
    split at h
    · rename_i hc
      subst hc
      split at h
      · rename_i hrest
        have hrest := restOk_iff.1 hrest
        injection h with _ h
        injection h with h1 h2
        subst h1 h2
        obtain ⟨M, l1, l2, l3, l4, l5, l6⟩ := all_of hx _ _ _ _ _ _ hr (by omega)
        rw [List.nil_append] at l1
        have l1' := l1.symm
        subst l1'
        have hsn : okn (x : Int) ((val (seg bs (0 + 4) x) : Nat) : Int) = true := (okn_nat hx).2 ⟨by omega, by rw [Int.toNat_natCast]; exact seg_lt2 (by omega)⟩
        refine ⟨by unfold rightB; rw [hok, hsn, decide_eq_true l5, l2]; rfl, ?_⟩
        have d2 := of_seg (bs := bs) (i := 0 + 4) (n := x) (by omega)
        have d3 := of_bit (bs := bs) (i := 0 + 4 + x) (by omega)
        have hz := rest_noughts hrest.1 hrest.2
        have d1 : bitsOf bs = unval 0 4 ++ (bitsOf bs).drop (0 + 4) := by
          cases bs with
          | nil => simp at hne
          | cons b r =>
            obtain ⟨s, hs⟩ := first_bits (b := b) (r := r) (by simp at h16; omega)
            rw [hs, List.drop_left' (by rw [length_unval])]
        have hfull : bitsOf bs = bitsP (statusP ((val (seg bs (0 + 4) x) : Nat) : Int) M x) ++ List.replicate (8 * bs.length - j) false := by
          unfold statusP headP
          rw [bitsP_append, bitsP_cons, bitsP_cons, bitsP_cons, Int.toNat_natCast, ← l4]
          refine d1.trans ?_
          rw [d2, d3, l3, hz]
          simp [bitsP]
        have hlj := congrArg List.length hfull
        rw [length_bitsOf, List.length_append, List.length_replicate] at hlj
        have hpl : packLen (bitsP (statusP ((val (seg bs (0 + 4) x) : Nat) : Int) M x)).length = bs.length := by
          rw [show (bitsP (statusP ((val (seg bs (0 + 4) x) : Nat) : Int) M x)).length = j by omega, hrest.1]
          rfl
        unfold stBytes
        apply bitsOf_inj (pack_small _) hb
        rw [bitsOf_pack, hpl, hfull]
        congr 2
        omega
      · simp at h
    · rename_i hc
      injection h with h _
      exact absurd h hc
theorem st_len {ack : Int} {L : List MissM} {x : Nat} (h : rightB ack L x = true) : ((stBytes ack L x).length : Int) = statusF ack L x := by
  rw [len_stBytes]
  unfold statusF
  rw [if_pos h]
end Go.Proofs.Ytbcjfdhphpckfaa
