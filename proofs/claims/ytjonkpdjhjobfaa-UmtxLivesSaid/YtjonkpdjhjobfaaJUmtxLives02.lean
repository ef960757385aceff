/-
  What the small functions of lens answer: which widths may be, how great a length may be, how many bytes lengths have. status: its small calls: mayBe, placeBits, ones, bit, last, end. What numbers of a space may be, as the code and the document say. status: a miss: its value; may its From and To be?. What a reader does: Rest. Bytes of memory as a text. BitsBack: what was put, one behind the other, and what is then read: plain lists. Lengths as bits: plain lists, no program. What one answers: the next length, and whether another one follows. What Rest tells of the bits up to the next byte; lists of ints by append; Clip. What Read answers. What is wrong with lengths that are to be written; lengths written.
-/
import Derived.Test.YtjonkpdjhjobfaaJUmtxLives01
import Derived.Laws.BytesString
import Derived.Laws.IdiomStrings
import Derived.BigQuiet
import Derived.Laws.BitsAllLaws
namespace Go.Proofs.Ytjonkpdjhjobfaa
open Go.RowKit

def okW (w : Int) : Bool := (w == 11) || (w == 15)
theorem okW_nat {w : Int} (h : okW w = true) : w = 11 ∨ w = 15 := by simpa [okW] using h
theorem okW_not {w : Int} (h : okW w = false) : w ≠ 11 ∧ w ≠ 15 := by simpa [okW] using h
/-- how many bytes n lengths have -/
def sizeF (n w : Int) : Int := if okW w && (decide (1 ≤ n) && decide (n ≤ 23)) then (n * (1 + w) + 7) / 8 else 0

set_option maxHeartbeats 400000 in
theorem lmay_any (x : Int) (w : World) : Calls Try.prog 213 #[.int .i64 x] w fun e w' => e = .returned (.bool (okW x)) ∧ w = w' := by
  by_cases h1 : x = 11
  · subst h1
    go_enter Try.func213, Try.ntmps213
    go_wp2
    go_ret
    exact ⟨rfl, rfl⟩
  · by_cases h2 : x = 15
    · subst h2
      go_enter Try.func213, Try.ntmps213
      go_wp2
      go_ret
      exact ⟨rfl, rfl⟩
    · have h1' : (x == 11) = false := by simpa using h1
      have h2' : (x == 15) = false := by simpa using h2
      have HX := Lib.hid (show okW x = false by simp [okW, h1, h2])
      clear h1 h2
      go_enter Try.func213, Try.ntmps213
      go_wp2
      go_ret
      exact ⟨by rw [HX.out]; rfl, rfl⟩

theorem longest_ok {x : Int} (h : okW x = true) (w : World) : Calls Try.prog 227 #[.int .i64 x] w fun e w' => e = .returned (.int .i64 (2 ^ x.toNat - 1)) ∧ w = w' := by
  rcases okW_nat h with rfl | rfl
  · go_enter Try.func227, Try.ntmps227
    go_wp2
    go_ret
    exact ⟨rfl, rfl⟩
  · go_enter Try.func227, Try.ntmps227
    go_wp2
    go_ret
    exact ⟨rfl, rfl⟩

set_option maxHeartbeats 400000 in
theorem follows_any (b : Bool) (w : World) : Calls Try.prog 221 #[.bool b] w fun e w' => e = .returned (.int .u64 b.toNat) ∧ w = w' := by
  cases b
  · go_enter Try.func221, Try.ntmps221
    go_wp2
    go_ret
    exact ⟨rfl, rfl⟩
  · go_enter Try.func221, Try.ntmps221
    go_wp2
    go_ret
    exact ⟨rfl, rfl⟩

set_option maxHeartbeats 800000 in
theorem size_any (n x : Int) (w : World) : Calls Try.prog 187 #[.int .i64 n, .int .i64 x] w fun e w' => e = .returned (.int .i64 (sizeF n x)) ∧ w = w' := by
  cases hx : okW x
  · have HF := Lib.hid (show sizeF n x = 0 by simp [sizeF, hx])
    have HM := Lib.hid (lmay_any x w)
    rw [hx] at HM
    clear hx
    go_enter Try.func187, Try.ntmps187
    go_wp2_with (go_at_call 213; refine HM.out.mono ?_; rintro e w1 ⟨rfl, rfl⟩)
    go_ret
    exact ⟨by rw [HF.out]; rfl, rfl⟩
  · have HM := Lib.hid (lmay_any x w)
    rw [hx] at HM
    by_cases h1 : 1 ≤ n
    · by_cases h2 : n ≤ 23
      · have HF := Lib.hid (show sizeF n x = (n * (1 + x) + 7) / 8 by simp [sizeF, hx, h1, h2])
        have h1' : ¬ n < 1 := by omega
        have h2' : ¬ 23 < n := by omega
        rcases okW_nat hx with rfl | rfl
        all_goals
          clear hx
          go_enter Try.func187, Try.ntmps187
          go_wp2_with (go_at_call 213; refine HM.out.mono ?_; rintro e w1 ⟨rfl, rfl⟩)
          go_ret
          refine ⟨?_, rfl⟩
          rw [HF.out]
          first | rfl | go_num
      · have HF := Lib.hid (show sizeF n x = 0 by simp [sizeF, h2])
        have h1' : ¬ n < 1 := by omega
        have h2' : 23 < n := by omega
        clear hx
        go_enter Try.func187, Try.ntmps187
        go_wp2_with (go_at_call 213; refine HM.out.mono ?_; rintro e w1 ⟨rfl, rfl⟩)
        go_ret
        exact ⟨by rw [HF.out]; rfl, rfl⟩
    · have HF := Lib.hid (show sizeF n x = 0 by simp [sizeF, h1])
      have h1' : n < 1 := by omega
      clear hx
      go_enter Try.func187, Try.ntmps187
      go_wp2_with (go_at_call 213; refine HM.out.mono ?_; rintro e w1 ⟨rfl, rfl⟩)
      go_ret
      exact ⟨by rw [HF.out]; rfl, rfl⟩

set_option maxHeartbeats 800000 in
theorem top_ok (x : Nat) (hx : x ≤ 15) (w : World) : Calls Try.prog 207 #[.int .i64 x] w fun e w' => e = .returned (.int .i64 ((2 ^ x : Nat) : Int)) ∧ w = w' := by
  have hp : ∀ k, k ≤ x → 2 ^ k ≤ 32768 := fun k hk => Nat.le_trans (Nat.pow_le_pow_right (by omega) (show k ≤ 15 by omega)) (by decide)
  go_enter Try.func207, Try.ntmps207
  go_wp2
  go_loopw [3, 4] (fun v i wr => ∃ k q : Nat, k ≤ x ∧ q ≤ 32768 ∧ v = .int .i64 q ∧ i = .int .i64 k ∧ Hid (q = 2 ^ k) ∧ w = wr) (fun _ i _ => x - (intOf i).toNat)
  case atStart => exact ⟨0, 1, by omega, by omega, rfl, rfl, Lib.hid rfl, rfl⟩
  case round =>
    obtain ⟨k, q, hk, hq, rfl, rfl, HQ, rfl⟩ := hrel
    by_cases hlt : k < x
    · have h2 := hp (k + 1) (by omega)
      have HP := Lib.hid (show 2 * q = 2 ^ (k + 1) by rw [HQ.out, Nat.pow_succ, Nat.mul_comm])
      have h3 : 2 * q ≤ 32768 := by rw [HP.out]; exact h2
      clear h2 hp
      go_wp2
      go_roundw
      case rel => exact ⟨k + 1, 2 * q, by omega, h3, by go_num, by go_num, HP, trivial⟩
      case measure => simp [intOf]; omega
    · obtain rfl : k = x := by omega
      go_wp2
      go_ret
      exact ⟨by rw [HQ.out]; rfl, rfl⟩

set_option maxHeartbeats 1600000 in
theorem refsize_any (n x : Int) (w : World) : Calls Try.prog 169 #[.int .i64 n, .int .i64 x] w fun e w' => e = .returned (.int .i64 (sizeF n x)) ∧ w = w' := by
  cases hx : okW x
  · have HF := Lib.hid (show sizeF n x = 0 by simp [sizeF, hx])
    obtain ⟨h1, h2⟩ := okW_not hx
    have h1 : ¬ x = 11 := h1
    have h2 : ¬ x = 15 := h2
    clear hx
    go_enter Try.func169, Try.ntmps169
    go_wp2
    go_ret
    exact ⟨by rw [HF.out]; rfl, rfl⟩
  · by_cases h1 : 1 ≤ n
    · by_cases h2 : n ≤ 23
      · have HF := Lib.hid (show sizeF n x = (n * (1 + x) + 7) / 8 by simp [sizeF, hx, h1, h2])
        have h1' : ¬ n < 1 := by omega
        have h2' : ¬ 23 < n := by omega
        rcases okW_nat hx with rfl | rfl
        · clear hx
          go_enter Try.func169, Try.ntmps169
          go_wp2
          go_loopw [5] (fun v wr => ∃ k : Nat, k ≤ 46 ∧ v = .int .i64 k ∧ Hid ((k : Int) ≤ sizeF n 11) ∧ w = wr) (fun v _ => 46 - (intOf v).toNat)
          case atStart => exact ⟨0, by omega, rfl, Lib.hid (by rw [HF.out]; omega), rfl⟩
          case round =>
            obtain ⟨k, hk, rfl, HK, rfl⟩ := hrel
            have hks := HK.out
            rw [HF.out] at hks
            by_cases hlt : 8 * (k : Int) < n * 12
            · go_wp2
              go_roundw
              case rel => exact ⟨k + 1, by omega, by go_num, Lib.hid (by rw [HF.out]; omega), trivial⟩
              case measure => simp [intOf]; omega
            · go_wp2
              go_ret
              exact ⟨ret_int (by rw [HF.out]; omega), rfl⟩
        · clear hx
          go_enter Try.func169, Try.ntmps169
          go_wp2
          go_loopw [5] (fun v wr => ∃ k : Nat, k ≤ 46 ∧ v = .int .i64 k ∧ Hid ((k : Int) ≤ sizeF n 15) ∧ w = wr) (fun v _ => 46 - (intOf v).toNat)
          case atStart => exact ⟨0, by omega, rfl, Lib.hid (by rw [HF.out]; omega), rfl⟩
          case round =>
            obtain ⟨k, hk, rfl, HK, rfl⟩ := hrel
            have hks := HK.out
            rw [HF.out] at hks
            by_cases hlt : 8 * (k : Int) < n * 16
            · go_wp2
              go_roundw
              case rel => exact ⟨k + 1, by omega, by go_num, Lib.hid (by rw [HF.out]; omega), trivial⟩
              case measure => simp [intOf]; omega
            · go_wp2
              go_ret
              exact ⟨ret_int (by rw [HF.out]; omega), rfl⟩
      · have HF := Lib.hid (show sizeF n x = 0 by simp [sizeF, h2])
        have h1' : ¬ n < 1 := by omega
        have h2' : 23 < n := by omega
        rcases okW_nat hx with rfl | rfl
        all_goals
          clear hx
          go_enter Try.func169, Try.ntmps169
          go_wp2
          go_ret
          exact ⟨by rw [HF.out]; rfl, rfl⟩
    · have HF := Lib.hid (show sizeF n x = 0 by simp [sizeF, h1])
      have h1' : n < 1 := by omega
      rcases okW_nat hx with rfl | rfl
      all_goals
        clear hx
        go_enter Try.func169, Try.ntmps169
        go_wp2
        go_ret
        exact ⟨by rw [HF.out]; rfl, rfl⟩
end Go.Proofs.Ytjonkpdjhjobfaa
namespace Go.Proofs.Ytjonkpdjhjobfaa
open Go.RowKit

/-- a place whose bits are all ones -/
def onF (w : Int) : Int := if w = 10 then 32767 else 65535
/-- the end for which a number stands -/
def endF (l w : Int) : Int := if l = onF w then 0 else l + 1
end Go.Proofs.Ytjonkpdjhjobfaa
namespace Go.Proofs.Ytjonkpdjhjobfaa
open Go.RowKit

def rt (b : Int) : Bool := decide (1 ≤ b ∧ b ≤ 16)
def sz (b : Int) : Int := if rt b then 2 ^ b.toNat else 0
def okn (b n : Int) : Bool := decide (0 ≤ n ∧ n < sz b)

theorem rt_true {b : Int} (h : rt b = true) : 1 ≤ b ∧ b ≤ 16 := of_decide_eq_true h
theorem rt_false {b : Int} (h : rt b = false) : b < 1 ∨ 16 < b := by have := of_decide_eq_false h; omega
theorem rt_of {b : Int} (h1 : 1 ≤ b) (h2 : b ≤ 16) : rt b = true := decide_eq_true ⟨h1, h2⟩
theorem rt_not {b : Int} (h : b < 1 ∨ 16 < b) : rt b = false := decide_eq_false (by omega)
theorem sz_cases {b : Int} (h : rt b = true) : sz b = 2 ∨ sz b = 4 ∨ sz b = 8 ∨ sz b = 16 ∨ sz b = 32 ∨ sz b = 64 ∨ sz b = 128 ∨ sz b = 256 ∨ sz b = 512 ∨ sz b = 1024 ∨ sz b = 2048 ∨ sz b = 4096 ∨ sz b = 8192 ∨ sz b = 16384 ∨ sz b = 32768 ∨ sz b = 65536 := by
  obtain ⟨h1, h2⟩ := rt_true h
  unfold sz
  rw [if_pos h]
  obtain rfl | rfl | rfl | rfl | rfl | rfl | rfl | rfl | rfl | rfl | rfl | rfl | rfl | rfl | rfl | rfl : b = 1 ∨ b = 2 ∨ b = 3 ∨ b = 4 ∨ b = 5 ∨ b = 6 ∨ b = 7 ∨ b = 8 ∨ b = 9 ∨ b = 10 ∨ b = 11 ∨ b = 12 ∨ b = 13 ∨ b = 14 ∨ b = 15 ∨ b = 16 := by omega
  all_goals simp
theorem sz_zero {b : Int} (h : rt b = false) : sz b = 0 := by unfold sz; rw [h]; rfl


set_option maxHeartbeats 400000 in
theorem sqright_any (b : Int) (w : World) :
    Calls Try.prog 205 #[.agg #[.int .i64 b]] w fun e w' => e = .returned (.bool (rt b)) ∧ Below w.heap.size w w' := by
  go_enter Try.func205, Try.ntmps205
  go_wp2
  go_loop [4] (fun i => ∃ k : Nat, k ≤ 16 ∧ i = .int .i64 k ∧ (b < 1 ∨ k < b)) (fun i => 16 - (intOf i).toNat)
  case atStart => exact ⟨0, by omega, rfl, by omega⟩
  case round =>
    obtain ⟨k, hk, rfl, hb⟩ := hrel
    go_wp2
    · go_ret
      exact ⟨ret_bool (rt_of (by omega) (by omega)).symm, (Below.refl _ _).alloc (Nat.le_refl _) _⟩
    · go_round
      case rel => exact ⟨k + 1, by omega, by go_num, by omega⟩
      case measure => simp [intOf]; omega
    · go_ret
      exact ⟨ret_bool (rt_not (by omega)).symm, (Below.refl _ _).alloc (Nat.le_refl _) _⟩



set_option maxHeartbeats 400000 in
theorem sqsize_any (b : Int) (w : World) :
    Calls Try.prog 164 #[.agg #[.int .i64 b]] w fun e w' => e = .returned (.int .i64 (sz b)) ∧ Below w.heap.size w w' := by
  cases hr : rt b
  · rw [sz_zero hr]
    have H := Lib.hid hr
    clear hr
    go_enter Try.func164, Try.ntmps164
    go_wp2_with (go_at_call 205; refine (sqright_any _ _).mono ?_; rintro e w1 ⟨rfl, hb⟩; rw [H.out])
    go_ret
    exact ⟨rfl, ((Below.refl _ _).alloc (Nat.le_refl _) _).trans (hb.mono (by simp))⟩
  · have hs := sz_cases hr
    obtain ⟨h1, h2⟩ := rt_true hr
    have hs : sz b = 2 ^ b.toNat := by unfold sz; rw [if_pos hr]
    have Hs := Lib.hid hs
    have H := Lib.hid hr
    clear hr hs
    go_enter Try.func164, Try.ntmps164
    go_wp2_with (go_at_call 205; refine (sqright_any _ _).mono ?_; rintro e w1 ⟨rfl, hb⟩; obtain ⟨hc, hf⟩ := bcell hb; rw [H.out])
    go_ret
    have hw : wrap64 (2 ^ b.toNat) = 2 ^ b.toNat := by rw [← Hs.out]; exact IntWalk.wrap64_in _ ⟨by omega, by omega⟩
    exact ⟨ret_int (hw.trans Hs.out.symm), ((Below.refl _ _).alloc (Nat.le_refl _) _).trans (hb.mono (by simp))⟩

theorem sz_bd (b : Int) : 0 ≤ sz b ∧ sz b ≤ 65536 := by
  cases h : rt b
  · rw [sz_zero h]; omega
  · have := sz_cases h; omega

set_option maxHeartbeats 400000 in
theorem sqis_any (b n : Int) (w : World) :
    Calls Try.prog 180 #[.agg #[.int .i64 b], .int .i64 n] w fun e w' => e = .returned (.bool (okn b n)) ∧ Below w.heap.size w w' := by
  by_cases hn : 0 ≤ n
  · have ho : okn b n = decide (n < sz b) := by unfold okn; simp [hn]
    have H := Lib.hid ho
    clear ho
    go_enter Try.func180, Try.ntmps180
    go_wp2_with (go_at_call 164; refine (sqsize_any _ _).mono ?_; rintro e w1 ⟨rfl, hb⟩)
    go_ret
    exact ⟨ret_bool H.out.symm, ((Below.refl _ _).alloc (Nat.le_refl _) _).trans (hb.mono (by simp))⟩
  · have ho : okn b n = false := decide_eq_false (by omega)
    have H := Lib.hid ho
    clear ho
    go_enter Try.func180, Try.ntmps180
    go_wp2
    go_ret
    exact ⟨ret_bool H.out.symm, ((Below.refl _ _).alloc (Nat.le_refl _) _)⟩

set_option maxHeartbeats 400000 in
theorem rsize_any (b : Int) (w : World) :
    Calls Try.prog 80 #[.int .i64 b] w fun e w' => e = .returned (.int .i64 (sz b)) ∧ w = w' := by
  cases hr : rt b
  · rw [sz_zero hr]
    have hb := rt_false hr
    clear hr
    by_cases h1 : b < 1
    · go_enter Try.func80, Try.ntmps80
      go_wp2
      go_ret
      exact ⟨rfl, rfl⟩
    · have h2 : 16 < b := by omega
      go_enter Try.func80, Try.ntmps80
      go_wp2
      go_ret
      exact ⟨rfl, rfl⟩
  · obtain ⟨h1, h2⟩ := rt_true hr
    have hs : sz b = 2 ^ b.toNat := by unfold sz; rw [if_pos hr]
    have Hs := Lib.hid hs
    clear hr hs
    go_enter Try.func80, Try.ntmps80
    go_wp2
    go_loop [3, 4] (fun v i => ∃ k n : Nat, (k : Int) ≤ b ∧ i = .int .i64 k ∧ v = .int .i64 n ∧ Hid (n = 2 ^ k) ∧ n ≤ 65536) (fun _ i => (b - intOf i).toNat)
    case atStart => exact ⟨0, 1, by omega, rfl, rfl, Lib.hid rfl, by omega⟩
    case round =>
      obtain ⟨k, n, hk, rfl, rfl, hn, hnb⟩ := hrel
      by_cases hlt : (k : Int) < b
      · go_wp2
        go_round
        case rel =>
          have e := hn.out
          have h15 : n ≤ 2 ^ 15 := by rw [e]; exact Nat.pow_le_pow_right (by omega) (by omega)
          exact ⟨k + 1, 2 * n, by omega, by go_num, by go_num, Lib.hid (by rw [e, Nat.pow_succ]; omega), by omega⟩
        case measure => simp [intOf]; omega
      · go_wp2
        go_ret
        have hkb : b.toNat = k := by omega
        exact ⟨ret_int (by rw [Hs.out, hkb, hn.out]; simp), rfl⟩

end Go.Proofs.Ytjonkpdjhjobfaa
namespace Go.Proofs.Ytjonkpdjhjobfaa
open Go.RowKit

structure MissM where
  sn : Int
  part : Bool
  fr : Int
  to : Int
def MissM.v (m : MissM) : Value := .agg #[.int .i64 m.sn, .bool m.part, .int .i64 m.fr, .int .i64 m.to]
def placedB (m : MissM) (w : Int) : Bool :=
  if m.part then (if m.to = 0 then decide (0 ≤ m.fr) && decide (m.fr ≤ onF w) else decide (0 ≤ m.fr) && decide (m.fr < m.to) && decide (m.to ≤ onF w)) else (m.fr == 0) && (m.to == 0)
end Go.Proofs.Ytjonkpdjhjobfaa
namespace Go.Proofs.Ytjonkpdjhjobfaa
open Go.RowKit

/-- how many bytes are begun -/
def up (i : Nat) : Nat := (i + 7) / 8

end Go.Proofs.Ytjonkpdjhjobfaa
namespace Go.Proofs.Ytjonkpdjhjobfaa
open Go.RowKit

/-- bytes as a text -/
def strOf (l : List Nat) : ByteArray := ⟨(l.map UInt8.ofNat).toArray⟩

theorem wrote_below {B : Nat} {w w' : World} {p : Nat} {sv : Value} {bl : List Bool} (hr : WRep B w p sv bl) (h : Only (fun k => k = p ∨ sv.ownBlock = some k) w w') : Below B w w' :=
  h.below (by have := hr.1; have := hr.2.1.inside; omega) (fun k hk hS => by
    rcases hS with h1 | h1
    · have := hr.1; omega
    · have := (hr.2.2.lt k h1).1; omega)
end Go.Proofs.Ytjonkpdjhjobfaa
namespace Go.Proofs.Ytjonkpdjhjobfaa
open Go.RowKit

def bitsP (kp : List (Nat × Nat)) : List Bool := kp.flatMap fun x => unval x.1 x.2
theorem pack_small (bl : List Bool) : ∀ b ∈ pack bl, b < 256 := by
  intro b hb
  unfold pack at hb
  simp only [List.mem_map] at hb
  obtain ⟨i, _, rfl⟩ := hb
  exact byteAt_lt _ _
end Go.Proofs.Ytjonkpdjhjobfaa
namespace Go.Proofs.Ytjonkpdjhjobfaa

/-- the bits of lengths: each behind a bit that tells whether another one follows -/
def wbl (w : Nat) : List Nat → List Bool
  | [] => []
  | n :: r => (!r.isEmpty) :: (unval n w ++ wbl w r)
theorem length_wbl (w : Nat) (l : List Nat) : (wbl w l).length = l.length * (w + 1) := by
  induction l with
  | nil => simp [wbl]
  | cons n r ih => simp [wbl, ih, length_unval, Nat.add_mul]; omega
/-- .. of the first k -/
def wbk (w : Nat) (l : List Nat) : Nat → List Bool
  | 0 => []
  | k + 1 => wbk w l k ++ (decide (k + 1 < l.length) :: unval (l.getD k 0) w)
theorem length_wbk (w : Nat) (l : List Nat) (k : Nat) : (wbk w l k).length = k * (w + 1) := by
  induction k with
  | zero => simp [wbk]
  | succ k ih => simp [wbk, ih, length_unval, Nat.add_mul]
theorem wbk_wbl (w : Nat) (l : List Nat) (k : Nat) (h : k ≤ l.length) : wbk w l k ++ wbl w (l.drop k) = wbl w l := by
  induction k with
  | zero => simp [wbk]
  | succ k ih =>
    have h1 := ih (by omega)
    rw [List.drop_eq_getElem_cons (show k < l.length by omega)] at h1
    have e : (!(l.drop (k + 1)).isEmpty) = decide (k + 1 < l.length) := by
      rw [Bool.eq_iff_iff]
      simp
    rw [← h1, wbk, wbl, e, List.getD_eq_getElem?_getD, List.getElem?_eq_getElem (show k < l.length by omega), Option.getD_some]
    simp
theorem wbk_all (w : Nat) (l : List Nat) : wbk w l l.length = wbl w l := by
  have := wbk_wbl w l l.length (Nat.le_refl _)
  rwa [List.drop_length, wbl, List.append_nil] at this

/-- lengths read from bits, at most f: the lengths, how many bits, or why there are none -/
def prs (w : Nat) : Nat → List Bool → List Nat × Nat × Int
  | 0, _ => ([], 0, 2)
  | f + 1, y =>
    if y.length < w + 1 then ([], 0, 8)
    else if val ((y.drop 1).take w) = 0 then ([], 0, 3)
    else if y.getD 0 false then
      if (prs w f (y.drop (w + 1))).2.2 = 0 then (val ((y.drop 1).take w) :: (prs w f (y.drop (w + 1))).1, (prs w f (y.drop (w + 1))).2.1 + (w + 1), 0)
      else ([], 0, (prs w f (y.drop (w + 1))).2.2)
    else ([val ((y.drop 1).take w)], w + 1, 0)
/-- behind lengths that were read -/
def onto (w : Nat) (acc : List Nat) (r : List Nat × Nat × Int) : List Nat × Nat × Int := if r.2.2 = 0 then (acc ++ r.1, acc.length * (w + 1) + r.2.1, 0) else ([], 0, r.2.2)

/-- behind the lengths acc the rest comes to what all comes to -/
def LInv (w : Nat) (x : List Bool) (acc : List Nat) : Prop := acc.length ≤ 22 ∧ onto w acc (prs w (23 - acc.length) (x.drop (acc.length * (w + 1)))) = prs w 23 x
theorem LInv.start (w : Nat) (x : List Bool) : LInv w x [] := by
  refine ⟨by simp, ?_⟩
  simp only [List.length_nil, Nat.sub_zero, Nat.zero_mul, List.drop_zero, onto, List.nil_append, Nat.zero_add]
  split
  · rename_i h
    rw [← h]
  · rename_i h
    have : ∀ f y, (prs w f y).2.2 ≠ 0 → prs w f y = ([], 0, (prs w f y).2.2) := by
      intro f y
      cases f with
      | zero => intro _; rfl
      | succ f =>
        unfold prs
        split
        · intro _; rfl
        · split
          · intro _; rfl
          · split
            · split
              · intro h; exact absurd rfl h
              · intro _; rfl
            · intro h; exact absurd rfl h
    exact (this 23 x h).symm
section
variable {w : Nat} {x : List Bool} {acc : List Nat}
theorem LInv.last (h : LInv w x acc) (h1 : ¬ x.length - acc.length * (w + 1) < w + 1) (h2 : val ((x.drop (acc.length * (w + 1) + 1)).take w) ≠ 0) (h3 : x.getD (acc.length * (w + 1)) false = false) :
    prs w 23 x = (acc ++ [val ((x.drop (acc.length * (w + 1) + 1)).take w)], (acc.length + 1) * (w + 1), 0) := by
  obtain ⟨h0, h⟩ := h
  rw [← h, show 23 - acc.length = (22 - acc.length) + 1 by omega]
  unfold prs
  have e : (x.drop (acc.length * (w + 1))).getD 0 false = x.getD (acc.length * (w + 1)) false := by
    rw [List.getD_eq_getElem?_getD, List.getElem?_drop, Nat.add_zero, ← List.getD_eq_getElem?_getD]
  rw [if_neg (by rw [List.length_drop]; exact h1), List.drop_drop, if_neg h2, e, h3]
  simp [onto, Nat.add_mul]
theorem LInv.more (h : LInv w x acc) (h1 : ¬ x.length - acc.length * (w + 1) < w + 1) (h2 : val ((x.drop (acc.length * (w + 1) + 1)).take w) ≠ 0) (h3 : x.getD (acc.length * (w + 1)) false = true) (h4 : acc.length < 22) :
    LInv w x (acc ++ [val ((x.drop (acc.length * (w + 1) + 1)).take w)]) := by
  obtain ⟨h0, h⟩ := h
  have e : (x.drop (acc.length * (w + 1))).getD 0 false = x.getD (acc.length * (w + 1)) false := by
    rw [List.getD_eq_getElem?_getD, List.getElem?_drop, Nat.add_zero, ← List.getD_eq_getElem?_getD]
  have hl : (acc ++ [val ((x.drop (acc.length * (w + 1) + 1)).take w)]).length = acc.length + 1 := by simp
  have hs : prs w (23 - acc.length) (x.drop (acc.length * (w + 1))) = if (prs w (22 - acc.length) (x.drop ((acc.length + 1) * (w + 1)))).2.2 = 0 then (val ((x.drop (acc.length * (w + 1) + 1)).take w) :: (prs w (22 - acc.length) (x.drop ((acc.length + 1) * (w + 1)))).1, (prs w (22 - acc.length) (x.drop ((acc.length + 1) * (w + 1)))).2.1 + (w + 1), 0) else ([], 0, (prs w (22 - acc.length) (x.drop ((acc.length + 1) * (w + 1)))).2.2) := by
    rw [show 23 - acc.length = (22 - acc.length) + 1 by omega]
    conv => lhs; unfold prs
    rw [if_neg (by rw [List.length_drop]; exact h1), List.drop_drop, if_neg h2, e, h3, List.drop_drop, show acc.length * (w + 1) + (w + 1) = (acc.length + 1) * (w + 1) by rw [Nat.add_mul, Nat.one_mul]]
    rfl
  refine ⟨by rw [hl]; omega, ?_⟩
  rw [← h, hs, hl, show 23 - (acc.length + 1) = 22 - acc.length by omega]
  unfold onto
  generalize prs w (22 - acc.length) (x.drop ((acc.length + 1) * (w + 1))) = r
  by_cases hr : r.2.2 = 0
  · simp [hr, Nat.add_mul]
    omega
  · simp [hr]
theorem LInv.long (h : LInv w x acc) (h1 : ¬ x.length - acc.length * (w + 1) < w + 1) (h2 : val ((x.drop (acc.length * (w + 1) + 1)).take w) ≠ 0) (h3 : x.getD (acc.length * (w + 1)) false = true) (h4 : acc.length = 22) :
    prs w 23 x = ([], 0, 2) := by
  obtain ⟨h0, h⟩ := h
  have e : (x.drop (acc.length * (w + 1))).getD 0 false = x.getD (acc.length * (w + 1)) false := by
    rw [List.getD_eq_getElem?_getD, List.getElem?_drop, Nat.add_zero, ← List.getD_eq_getElem?_getD]
  rw [← h, show 23 - acc.length = 0 + 1 by omega]
  conv => lhs; unfold prs
  rw [if_neg (by rw [List.length_drop]; exact h1), List.drop_drop, if_neg h2, e, h3]
  simp [prs, onto]
end
end Go.Proofs.Ytjonkpdjhjobfaa
namespace Go.Proofs.Ytjonkpdjhjobfaa
open Go.RowKit

end Go.Proofs.Ytjonkpdjhjobfaa
namespace Go.Proofs.Ytjonkpdjhjobfaa
open Go.RowKit

/-- an append, at a plain region's list, whose run is known -/
theorem wpList_run {P : Program} {ops : Array Oper} {rest : List Oper} {o : Oper} {a : Act} {w : World} {Q : Exit → Act → World → Prop} (hgd : o.guard = none) (s x : Operand) (t : TypeId)
    (ho : o.op = .call { callee := .builtin .append, args := #[s, x], argTypes := #[t, t] }) (v u : Value) (hs : a.eval s = v) (hx : a.eval x = u) {v' : Value} {w' : World}
    (hr : (Builtin.append_ #[t, t] o.type #[v, u]).run P w = .ok v' w') (h : wpList P ops Q rest (a.put o.dst v') w') : wpList P ops Q (o :: rest) a w :=
  wpList_plain hgd fun _ hK => by
    unfold Oper.wp execOp
    simp only [ho, resolve, invoke, builtin, Sem.run_bind, Sem.run_pure, Result.andThen_ok, List.map_toArray, List.map_cons, List.map_nil, hs, hx, hr]
    exact hK _ _ h

theorem Try.info3 : (Try.prog.info? 3).map (fun i => (i.zero, i.size, i.bytes)) = some (some (.int .i64 0), 1, 8) := by kernel_rfl
theorem Try.under49 : Try.prog.underlying 49 = some (.slice 3) := by kernel_rfl

theorem int_tail {B : Nat} {W : World} {v : Value} {n : Nat} {xs : List Value} (hown : W.ownsRow B 3 1 v n xs) (hB : B ≤ W.heap.size) (x : Int) (hn : n ≤ 1000000) :
    ∃ g cap W', (Builtin.append_ #[49, 49] 49 #[v, .slice (some ⟨W.heap.size, 0, none⟩) 1 1]).run Try.prog (W.alloc (.cells #[.int .i64 x] 3)) = .ok (.slice (some ⟨g, 0, none⟩) (n + 1) cap) W' ∧
      W'.ownsRow B 3 1 (.slice (some ⟨g, 0, none⟩) (n + 1) cap) (n + 1) (xs ++ [.int .i64 x]) ∧ Only (fun k => v.ownBlock = some k) W W' := by
  obtain ⟨i0, hi, hi0, hi1, hi2⟩ := info_parts Try.info3
  obtain ⟨g, cap, w3, hr3, h2, h3, _, _⟩ := run_append_lies (P := Try.prog) (W.alloc (.cells #[.int .i64 x] 3)) 49 49 B 3 i0 _ 1 8 Try.under49 hi hi0 hi1 hi2 rfl (by omega) v n xs (hown.alloc _) ⟨W.heap.size, 0, none⟩ 1 1 [.int .i64 x] rfl
    (World.news_of_block (cs := #[.int .i64 x]) (heap_alloc_new W _)) (by intro u hu; simp at hu; rw [hu]; rfl) (by omega) (by unfold maxLen; omega) (by omega) (by simp; omega) _ rfl
  exact ⟨g, cap, w3, hr3, h2, ((Only.refl _ W).alloc (.cells #[.int .i64 x] 3)).grown h3 (fun k hk => .inl hk)⟩

/-- a list of ints of its own, without room behind -/
def Ints (B : Nat) (w : World) (v : Value) (l : List Int) : Prop :=
  ∃ A, v = .slice A l.length l.length ∧ ((A = none ∧ l = []) ∨ ∃ g cs, A = some ⟨g, 0, none⟩ ∧ B ≤ g ∧ Row w g 3 cs ∧ ∀ (i : Nat) (x : Int), l[i]? = some x → cs[i]? = some (Value.int .i64 x))

section
variable {B : Nat} {w v : World} {u : Value} {l : List Int}
theorem Ints.later (h : Ints B w u l) (hb : Below w.heap.size w v) : Ints B v u l := by
  obtain ⟨A, h1, h2⟩ := h
  refine ⟨A, h1, ?_⟩
  rcases h2 with h2 | ⟨g, cs, h3, h4, h5, h6⟩
  · exact .inl h2
  · exact .inr ⟨g, cs, h3, h4, h5.later hb, h6⟩
theorem Ints.down {B' : Nat} (h : Ints B w u l) (hb : B' ≤ B) : Ints B' w u l := by
  obtain ⟨A, h1, h2⟩ := h
  refine ⟨A, h1, ?_⟩
  rcases h2 with h2 | ⟨g, cs, h3, h4, h5, h6⟩
  · exact .inl h2
  · exact .inr ⟨g, cs, h3, by omega, h5, h6⟩
theorem Ints.read (h : Ints B w u l) : ∃ A, u = .slice A l.length l.length ∧ ∀ (i : Nat) (x : Int), l[i]? = some x → ∃ g, A = some ⟨g, 0, none⟩ ∧ B ≤ g ∧ w.cell? ⟨g, i, none⟩ = some (Value.int .i64 x) := by
  obtain ⟨A, h1, h2⟩ := h
  refine ⟨A, h1, fun i x hx => ?_⟩
  rcases h2 with ⟨_, rfl⟩ | ⟨g, cs, h3, h4, h5, h6⟩
  · simp at hx
  · exact ⟨g, h3, h4, h5.read (h6 i x hx)⟩
end

end Go.Proofs.Ytjonkpdjhjobfaa
namespace Go.Proofs.Ytjonkpdjhjobfaa
open Go.RowKit

def sliceLen : Value → Nat
  | .slice _ n _ => n
  | _ => 0
/-- lengths as values -/
def insN (l : List Nat) : List Value := (l.map (fun n : Nat => (n : Int))).map (fun x => Value.int .i64 x)
theorem length_insN (l : List Nat) : (insN l).length = l.length := by simp [insN]

theorem bl_step' {B : Nat} {w a b : World} (h : Below B w a) (k : Below B a b) : Below B w b := h.trans k
section
variable {B wd p g : Nat} {bs acc : List Nat} {v : Value} {w w' w1 : World}
end
end Go.Proofs.Ytjonkpdjhjobfaa
namespace Go.Proofs.Ytjonkpdjhjobfaa
open Go.RowKit

/-- ints as values -/
def ins (l : List Int) : List Value := l.map (fun x => Value.int .i64 x)
theorem length_ins (l : List Int) : (ins l).length = l.length := by simp [ins]
theorem ins_at {l : List Int} {i : Nat} {x : Int} (h : l[i]? = some x) : (ins l)[i]? = some (.int .i64 x) := by simp [ins, h]
/-- may a length be? -/
def mayL (w : Nat) (x : Int) : Bool := decide (1 ≤ x) && decide (x < 2 ^ w)
/-- what is wrong with lengths -/
def faultF (l : List Int) (w : Nat) : Int := if l.length = 0 then 4 else if 23 < l.length then 2 else if l.all (mayL w) then 0 else 1

set_option maxHeartbeats 800000 in
theorem fault_11 {A : Option Addr} {l : List Int} (n cap : Nat) (w : World) (hn : l.length = n) (hm : n ≤ maxLen) (hs : Src w A (ins l)) :
    Calls Try.prog 220 #[.slice A n cap, .int .i64 11] w fun e w' => e = .returned (.int .i64 (faultF l 11)) ∧ w = w' := by
  have HM := Lib.hid (lmay_any 11 w)
  rw [show okW 11 = true from rfl] at HM
  have HG := Lib.hid (longest_ok (x := 11) rfl w)
  have HS := Lib.hid hs
  have HN := Lib.hid hn
  unfold maxLen at hm
  clear hs hn
  rcases Nat.eq_zero_or_pos n with h0 | h0
  · have HF := Lib.hid (show faultF l 11 = 4 by unfold faultF; rw [HN.out, if_pos h0])
    subst h0
    go_enter Try.func220, Try.ntmps220
    go_wp2_with (go_at_call 213; refine HM.out.mono ?_; rintro e w1 ⟨rfl, rfl⟩)
    go_ret
    exact ⟨by rw [HF.out]; rfl, rfl⟩
  · have hz : ((n : Int) == 0) = false := by simp; omega
    rcases Nat.lt_or_ge 23 n with h1 | h1
    · have HF := Lib.hid (show faultF l 11 = 2 by unfold faultF; rw [HN.out, if_neg (by omega), if_pos h1])
      have h1' : (23 : Int) < (n : Int) := by omega
      go_enter Try.func220, Try.ntmps220
      go_wp2_with (go_at_call 213; refine HM.out.mono ?_; rintro e w1 ⟨rfl, rfl⟩)
      go_ret
      exact ⟨by rw [HF.out]; rfl, rfl⟩
    · have h1' : ¬ (23 : Int) < (n : Int) := by omega
      have HF := Lib.hid (show faultF l 11 = if l.all (mayL 11) then 0 else 1 by unfold faultF; rw [HN.out, if_neg (by omega), if_neg (by omega)])
      go_enter Try.func220, Try.ntmps220
      go_wp2_with (go_at_call 213; refine HM.out.mono ?_; rintro e w1 ⟨rfl, rfl⟩)
      go_loopw [21] (fun i wr => ∃ k : Nat, k ≤ n ∧ i = .int .i64 k ∧ Hid ((l.take k).all (mayL 11) = true) ∧ w = wr) (fun i _ => n - (intOf i).toNat)
      case atStart => exact ⟨0, by omega, rfl, Lib.hid rfl, rfl⟩
      case round =>
        obtain ⟨k, hk, rfl, HK, rfl⟩ := hrel
        by_cases hlt : k < n
        · have hkl : k < l.length := by have := HN.out; omega
          have hx : l[k]? = some l[k] := List.getElem?_eq_getElem hkl
          obtain ⟨ad, rfl, hc⟩ := HS.out (by rw [length_ins]; omega)
          have hcell := hc _ _ (ins_at hx)
          have htk : (l.take (k + 1)).all (mayL 11) = mayL 11 l[k] := by
            rw [List.take_succ_eq_append_getElem hkl, List.all_append, HK.out]
            simp
          have hall : mayL 11 l[k] = false → l.all (mayL 11) = false := fun h => by
            rw [← Bool.not_eq_true, List.all_eq_true]
            intro hh
            rw [hh l[k] (List.getElem_mem hkl)] at h
            cases h
          generalize l[k] = x at *
          have HT := Lib.hid htk
          have HA := Lib.hid hall
          have hlt2 : (k : Int) < (n : Int) := by omega
          have hk0 : (0 : Int) ≤ (k : Int) := by omega
          clear hc hx htk hall
          by_cases h2 : x < 1
          · have HE := Lib.hid (HA.out (by unfold mayL; rw [decide_eq_false (by omega)]; rfl))
            go_wp2_with (go_at_call 227; refine HG.out.mono ?_; rintro e w1 ⟨rfl, rfl⟩)
            go_ret
            exact ⟨by rw [HF.out, HE.out]; rfl, rfl⟩
          · by_cases h3 : 2047 < x
            · have HE := Lib.hid (HA.out (by unfold mayL; rw [decide_eq_false (show ¬ x < 2 ^ 11 by simp only [show (2 : Int) ^ 11 = 2047 + 1 from rfl]; omega)]; simp))
              go_wp2_with (go_at_call 227; refine HG.out.mono ?_; rintro e w1 ⟨rfl, rfl⟩)
              go_ret
              exact ⟨by rw [HF.out, HE.out]; rfl, rfl⟩
            · have HE := Lib.hid (show mayL 11 x = true by unfold mayL; rw [decide_eq_true (show 1 ≤ x by omega), decide_eq_true (show x < 2 ^ 11 by simp only [show (2 : Int) ^ 11 = 2047 + 1 from rfl]; omega)]; rfl)
              go_wp2_with (go_at_call 227; refine HG.out.mono ?_; rintro e w1 ⟨rfl, rfl⟩)
              go_roundw
              case rel => exact ⟨k + 1, by omega, by go_num, Lib.hid (by rw [HT.out, HE.out]), trivial⟩
              case measure => simp [intOf]; omega
        · obtain rfl : k = n := by omega
          have HK2 := Lib.hid (show l.all (mayL 11) = true by have := HK.out; rwa [← HN.out, List.take_length] at this)
          go_wp2
          go_ret
          exact ⟨by rw [HF.out, HK2.out]; rfl, rfl⟩

set_option maxHeartbeats 800000 in
theorem fault_15 {A : Option Addr} {l : List Int} (n cap : Nat) (w : World) (hn : l.length = n) (hm : n ≤ maxLen) (hs : Src w A (ins l)) :
    Calls Try.prog 220 #[.slice A n cap, .int .i64 15] w fun e w' => e = .returned (.int .i64 (faultF l 15)) ∧ w = w' := by
  have HM := Lib.hid (lmay_any 15 w)
  rw [show okW 15 = true from rfl] at HM
  have HG := Lib.hid (longest_ok (x := 15) rfl w)
  have HS := Lib.hid hs
  have HN := Lib.hid hn
  unfold maxLen at hm
  clear hs hn
  rcases Nat.eq_zero_or_pos n with h0 | h0
  · have HF := Lib.hid (show faultF l 15 = 4 by unfold faultF; rw [HN.out, if_pos h0])
    subst h0
    go_enter Try.func220, Try.ntmps220
    go_wp2_with (go_at_call 213; refine HM.out.mono ?_; rintro e w1 ⟨rfl, rfl⟩)
    go_ret
    exact ⟨by rw [HF.out]; rfl, rfl⟩
  · have hz : ((n : Int) == 0) = false := by simp; omega
    rcases Nat.lt_or_ge 23 n with h1 | h1
    · have HF := Lib.hid (show faultF l 15 = 2 by unfold faultF; rw [HN.out, if_neg (by omega), if_pos h1])
      have h1' : (23 : Int) < (n : Int) := by omega
      go_enter Try.func220, Try.ntmps220
      go_wp2_with (go_at_call 213; refine HM.out.mono ?_; rintro e w1 ⟨rfl, rfl⟩)
      go_ret
      exact ⟨by rw [HF.out]; rfl, rfl⟩
    · have h1' : ¬ (23 : Int) < (n : Int) := by omega
      have HF := Lib.hid (show faultF l 15 = if l.all (mayL 15) then 0 else 1 by unfold faultF; rw [HN.out, if_neg (by omega), if_neg (by omega)])
      go_enter Try.func220, Try.ntmps220
      go_wp2_with (go_at_call 213; refine HM.out.mono ?_; rintro e w1 ⟨rfl, rfl⟩)
      go_loopw [21] (fun i wr => ∃ k : Nat, k ≤ n ∧ i = .int .i64 k ∧ Hid ((l.take k).all (mayL 15) = true) ∧ w = wr) (fun i _ => n - (intOf i).toNat)
      case atStart => exact ⟨0, by omega, rfl, Lib.hid rfl, rfl⟩
      case round =>
        obtain ⟨k, hk, rfl, HK, rfl⟩ := hrel
        by_cases hlt : k < n
        · have hkl : k < l.length := by have := HN.out; omega
          have hx : l[k]? = some l[k] := List.getElem?_eq_getElem hkl
          obtain ⟨ad, rfl, hc⟩ := HS.out (by rw [length_ins]; omega)
          have hcell := hc _ _ (ins_at hx)
          have htk : (l.take (k + 1)).all (mayL 15) = mayL 15 l[k] := by
            rw [List.take_succ_eq_append_getElem hkl, List.all_append, HK.out]
            simp
          have hall : mayL 15 l[k] = false → l.all (mayL 15) = false := fun h => by
            rw [← Bool.not_eq_true, List.all_eq_true]
            intro hh
            rw [hh l[k] (List.getElem_mem hkl)] at h
            cases h
          generalize l[k] = x at *
          have HT := Lib.hid htk
          have HA := Lib.hid hall
          have hlt2 : (k : Int) < (n : Int) := by omega
          have hk0 : (0 : Int) ≤ (k : Int) := by omega
          clear hc hx htk hall
          by_cases h2 : x < 1
          · have HE := Lib.hid (HA.out (by unfold mayL; rw [decide_eq_false (by omega)]; rfl))
            go_wp2_with (go_at_call 227; refine HG.out.mono ?_; rintro e w1 ⟨rfl, rfl⟩)
            go_ret
            exact ⟨by rw [HF.out, HE.out]; rfl, rfl⟩
          · by_cases h3 : 32767 < x
            · have HE := Lib.hid (HA.out (by unfold mayL; rw [decide_eq_false (show ¬ x < 2 ^ 15 by simp only [show (2 : Int) ^ 15 = 32767 + 1 from rfl]; omega)]; simp))
              go_wp2_with (go_at_call 227; refine HG.out.mono ?_; rintro e w1 ⟨rfl, rfl⟩)
              go_ret
              exact ⟨by rw [HF.out, HE.out]; rfl, rfl⟩
            · have HE := Lib.hid (show mayL 15 x = true by unfold mayL; rw [decide_eq_true (show 1 ≤ x by omega), decide_eq_true (show x < 2 ^ 15 by simp only [show (2 : Int) ^ 15 = 32767 + 1 from rfl]; omega)]; rfl)
              go_wp2_with (go_at_call 227; refine HG.out.mono ?_; rintro e w1 ⟨rfl, rfl⟩)
              go_roundw
              case rel => exact ⟨k + 1, by omega, by go_num, Lib.hid (by rw [HT.out, HE.out]), trivial⟩
              case measure => simp [intOf]; omega
        · obtain rfl : k = n := by omega
          have HK2 := Lib.hid (show l.all (mayL 15) = true by have := HK.out; rwa [← HN.out, List.take_length] at this)
          go_wp2
          go_ret
          exact ⟨by rw [HF.out, HK2.out]; rfl, rfl⟩
end Go.Proofs.Ytjonkpdjhjobfaa
