/-
  What a reader does: Get. What the small functions of lens answer: which widths may be, how great a length may be, how many bytes lengths have. Fields' lengths: which may be, how many bytes they are: plain lists. What a reader does: Rest. Bytes of memory as a text. BitsBack: what was put, one behind the other, and what is then read: plain lists.
-/
import Derived.Test.YtbcjfdhphpckfaaJCutBuilds05
import Derived.Laws.BytesString
import Derived.Laws.IdiomStrings
namespace Go.Proofs.Ytbcjfdhphpckfaa
open Go.RowKit

/-- m bits from bit i on -/
def seg (bs : List Nat) (i m : Nat) : List Bool := ((bitsOf bs).drop i).take m
theorem length_seg {bs : List Nat} {i m : Nat} (h : i + m ≤ 8 * bs.length) : (seg bs i m).length = m := by
  unfold seg
  rw [List.length_take, List.length_drop, length_bitsOf]
  omega
theorem seg_zero (bs : List Nat) (i : Nat) : seg bs i 0 = [] := by simp [seg]
theorem seg_succ {bs : List Nat} {i m : Nat} (h : i + m < 8 * bs.length) : seg bs i (m + 1) = seg bs i m ++ [bitAt bs (i + m)] := by
  unfold seg bitAt
  have hl : i + m < (bitsOf bs).length := by rw [length_bitsOf]; exact h
  have hd : m < ((bitsOf bs).drop i).length := by rw [List.length_drop]; omega
  rw [List.take_succ_eq_append_getElem hd, List.getElem_drop, List.getD_eq_getElem?_getD, List.getElem?_eq_getElem hl]
  rfl
theorem val_seg_succ {bs : List Nat} {i m : Nat} (h : i + m < 8 * bs.length) : val (seg bs i (m + 1)) = 2 * val (seg bs i m) + (bitAt bs (i + m)).toNat := by
  rw [seg_succ h, val_snoc]

set_option maxHeartbeats 400000 in
theorem get_nil (n : Int) (w : World) : Calls Try.prog 231 #[.pointer none, .int .i64 n] w fun e w' => e = .returned (.tuple #[.int .u64 0, .int .i64 6]) ∧ w = w' := by
  go_enter Try.func231, Try.ntmps231
  go_wp2
  go_step3
  go_wp2
  rw [Exit.noGoto_ret]
  go_ret2
  exact ⟨rfl, rfl⟩
set_option maxHeartbeats 400000 in
theorem get_arg (p : Nat) (n : Int) (w : World) (h : mayB n = false) : Calls Try.prog 231 #[.pointer (some ⟨p, 0, none⟩), .int .i64 n] w fun e w' => e = .returned (.tuple #[.int .u64 0, .int .i64 1]) ∧ w = w' := by
  have H := Lib.hid h
  clear h
  go_enter Try.func231, Try.ntmps231
  go_wp2
  go_step3
  go_wp2_with (go_at_call 241; refine (mayBe_any _ _).mono ?_; rintro e w1 ⟨rfl, rfl⟩; rw [H.out])
  rw [Exit.noGoto_ret]
  go_ret2
  exact ⟨rfl, rfl⟩
set_option maxHeartbeats 400000 in
theorem get_short {p g : Nat} {bs : List Nat} {i : Nat} (n : Nat) (w : World) (hr : RRep w p g bs i) (hn : n ≤ 64) (h : 8 * bs.length - i < n) :
    Calls Try.prog 231 #[.pointer (some ⟨p, 0, none⟩), .int .i64 n] w fun e w' => e = .returned (.tuple #[.int .u64 0, .int .i64 8]) ∧ Below w.heap.size w w' := by
  have HR := Lib.hid hr
  clear hr
  go_enter Try.func231, Try.ntmps231
  go_wp2
  go_step3
  go_wp2_with (first
    | (go_at_call 241; refine (mayBe_yes _ _ (by omega) (by omega)).mono ?_; rintro e w1 ⟨rfl, rfl⟩)
    | (go_at_call 261; refine (left_any HR.out).mono ?_; rintro e w2 ⟨rfl, hb⟩))
  rw [Exit.noGoto_ret]
  go_ret2
  exact ⟨rfl, hb⟩

/-- a reader has got the first m bits -/
def Getting (w : World) (p g : Nat) (bs : List Nat) (i m : Nat) (w' : World) : Prop := RRep w' p g bs (i + m) ∧ Only (fun k => k = p) w w'

theorem or_u64 (V : Nat) (hV : V < 9223372036854775808) (bit : Bool) : bits .or .u64 (IntKind.u64.wrap ((V : Int) * 2)) (IntKind.u64.wrap (bit.toNat : Int)) = ((2 * V + bit.toNat : Nat) : Int) := by
  have h1 : IntKind.u64.wrap ((V : Int) * 2) = ((2 * V : Nat) : Int) := by
    rw [IntKind.wrap_u64]
    omega
  have h2 : bit.toNat < 2 := by cases bit <;> decide
  have h4 : IntKind.u64.wrap (bit.toNat : Int) = (bit.toNat : Int) := by
    rw [IntKind.wrap_u64]
    omega
  rw [h1, h4, u64_or_nat _ _ (by omega) (by omega)]
  have h3 := Nat.two_pow_add_eq_or_of_lt (i := 1) (b := bit.toNat) (by simpa using h2) V
  simp only [Nat.pow_one] at h3
  rw [← h3]
theorem or_u64_0 (bit : Bool) : bits .or .u64 0 (IntKind.u64.wrap (bit.toNat : Int)) = (bit.toNat : Int) := by
  have h := or_u64 0 (by omega) bit
  rw [show IntKind.u64.wrap (((0 : Nat) : Int) * 2) = 0 from rfl] at h
  rw [h]
  simp
theorem val_one {bs : List Nat} {i : Nat} (h : i < 8 * bs.length) : val (seg bs i 1) = (bitAt bs i).toNat := by
  have h1 := val_seg_succ (bs := bs) (i := i) (m := 0) (by omega)
  rw [seg_zero] at h1
  simpa [val_nil] using h1
theorem val_small {l : List Bool} (h : l.length ≤ 63) : val l < 9223372036854775808 :=
  Nat.lt_of_lt_of_le (val_lt l) (Nat.le_trans (Nat.pow_le_pow_right (by omega) h) (by decide))

set_option maxRecDepth 100000 in
set_option maxHeartbeats 1600000 in
theorem get_any {p g : Nat} {bs : List Nat} {i : Nat} (n : Nat) (w : World) (hr : RRep w p g bs i) (hn : n ≤ 64) (h : i + n ≤ 8 * bs.length) :
    Calls Try.prog 231 #[.pointer (some ⟨p, 0, none⟩), .int .i64 n] w fun e w' => e = .returned (.tuple #[.int .u64 (val (seg bs i n)), .int .i64 0]) ∧ Getting w p g bs i n w' := by
  have HR := Lib.hid hr
  have hle : 8 * bs.length ≤ 65536 := by have := hr.2.2.2.1; omega
  have hin : n ≤ 8 * bs.length - i := by omega
  clear hr
  go_enter Try.func231, Try.ntmps231
  go_wp2
  refine wp_scope_jumps 0 (fun a' w' => ∃ k : Nat, k ≤ n ∧ Fr [some (.pointer (some ⟨p, 0, none⟩)), some (.int .i64 k), none, none, none, none, some (.int .u64 (val (seg bs i (n - k)))), none, none, none, none, none, none, none, none, none, none, none, none, none, none, none, none, none, none, none, none, none, none, none, none, none, none, none, none, none, none, none, none, none, none] a' ∧ Getting w p g bs i (n - k) w') (fun a' _ => (intOf (a'.tmps.getD 1 undef)).toNat) rfl ?_ ?_
  · rcases Nat.eq_zero_or_pos n with hk0 | hk0
    · subst hk0
      go_wp2_with (first
        | (go_at_call 241; refine (mayBe_yes _ _ (by omega) (by omega)).mono ?_; rintro e w1 ⟨rfl, rfl⟩)
        | (go_at_call 261; refine (left_any HR.out).mono ?_; rintro e w2 ⟨rfl, hb⟩))
      go_step3
      go_wp2
      simp only [Exit.jump]
      go_ret2
      exact ⟨rfl, HR.out.later hb, .of_below hb⟩
    · go_wp2_with (first
        | (go_at_call 241; refine (mayBe_yes _ _ (by omega) (by omega)).mono ?_; rintro e w1 ⟨rfl, rfl⟩)
        | (go_at_call 261; refine (left_any HR.out).mono ?_; rintro e w2 ⟨rfl, hb⟩))
      go_step3
      have hrr := HR.out.later hb
      have hc1 : w2.cell? ⟨p, 1, none⟩ = some (.int .i64 i) := hrr.1.read rfl
      have hf1 := hrr.1.free 1
      have HRR := Lib.hid hrr
      have HO := Lib.hid (Only.of_below (S := fun k => k = p) hb)
      obtain ⟨j, rfl⟩ : ∃ j, n = j + 1 := ⟨n - 1, by omega⟩
      have hq : i < 8 * bs.length := by omega
      have hstep := Lib.hid (val_one hq)
      clear hb hrr
      go_wp2_with (go_at_call 262; refine (bit_any HRR.out hq).mono ?_; rintro e w1 ⟨rfl, rfl⟩)
      go_step3
      rw [or_u64_0, ← hstep.out]
      have e1 : j + 1 - j = 1 := by omega
      refine ⟨rfl, j, by omega, ?_, ?_, ?_⟩
      · rw [e1]
        simp only [Fr, Holes]
        repeat apply Exists.intro
        rfl
      · rw [e1]
        obtain ⟨h1, h2, h3, h4, h5⟩ := HRR.out
        exact ⟨h1.written 1 _, h2.elsewhere (p := ⟨p, 1, none⟩) (RRep.ne HRR.out) _, by omega, h4, h5⟩
      · exact HO.out.set (p := ⟨p, 1, none⟩) (.inl rfl) _
  · rintro a' w' ⟨k, hk, hfr, hget⟩
    simp only [Fr, Holes] at hfr
    repeat (obtain ⟨_, hfr⟩ := hfr)
    obtain ⟨hrr, ho⟩ := hget
    have hc1 : w'.cell? ⟨p, 1, none⟩ = some (.int .i64 ((i + (n - k) : Nat) : Int)) := hrr.1.read rfl
    have hf1 := hrr.1.free 1
    rcases Nat.eq_zero_or_pos k with hk0 | hk0
    · subst hk0
      clear hc1 hf1
      go_wp2
      simp only [Exit.jump]
      go_ret2
      exact ⟨rfl, hrr, ho⟩
    · obtain ⟨j, rfl⟩ : ∃ j, k = j + 1 := ⟨k - 1, by omega⟩
      have hstep := Lib.hid (val_seg_succ (bs := bs) (i := i) (m := n - (j + 1)) (by omega))
      have hV := Lib.hid (val_small (l := seg bs i (n - (j + 1))) (by rw [length_seg (by omega)]; omega))
      have e1 : n - (j + 1) + 1 = n - j := by omega
      rw [e1] at hstep
      have hq : i + (n - (j + 1)) < 8 * bs.length := by omega
      have hq2 : i + (n - j) = i + (n - (j + 1)) + 1 := by omega
      generalize val (seg bs i (n - (j + 1))) = V at *
      generalize i + (n - (j + 1)) = q at *
      have HQ := Lib.hid hq2
      have HO := Lib.hid ho
      have HRR := Lib.hid hrr
      have hor := or_u64 V hV.out (bitAt bs q)
      have HOR := Lib.hid hor
      clear e1 hq2 ho hrr hor
      go_wp2_with (go_at_call 262; refine (bit_any HRR.out hq).mono ?_; rintro e w1 ⟨rfl, rfl⟩)
      go_step3
      rw [HOR.out, ← hstep.out]
      refine ⟨rfl, ⟨j, by omega, ?_, ?_, ?_⟩, ?_⟩
      · simp only [Fr, Holes]
        repeat apply Exists.intro
        rfl
      · rw [HQ.out]
        obtain ⟨h1, h2, h3, h4, h5⟩ := HRR.out
        exact ⟨h1.written 1 _, h2.elsewhere (p := ⟨p, 1, none⟩) (RRep.ne HRR.out) _, by omega, h4, h5⟩
      · exact HO.out.set (p := ⟨p, 1, none⟩) (.inl rfl) _
      · simp [intOf]
end Go.Proofs.Ytbcjfdhphpckfaa
namespace Go.Proofs.Ytbcjfdhphpckfaa
open Go.RowKit

def okW (w : Int) : Bool := (w == 11) || (w == 15)
theorem okW_nat {w : Int} (h : okW w = true) : w = 11 ∨ w = 15 := by simpa [okW] using h
theorem okW_not {w : Int} (h : okW w = false) : w ≠ 11 ∧ w ≠ 15 := by simpa [okW] using h
/-- how many bytes n lengths have -/
def sizeF (n w : Int) : Int := if okW w && (decide (1 ≤ n) && decide (n ≤ 23)) then (n * (1 + w) + 7) / 8 else 0

set_option maxHeartbeats 400000 in
theorem lmay_any (x : Int) (w : World) : Calls Try.prog 183 #[.int .i64 x] w fun e w' => e = .returned (.bool (okW x)) ∧ w = w' := by
  by_cases h1 : x = 11
  · subst h1
    go_enter Try.func183, Try.ntmps183
    go_wp2
    go_ret
    exact ⟨rfl, rfl⟩
  · by_cases h2 : x = 15
    · subst h2
      go_enter Try.func183, Try.ntmps183
      go_wp2
      go_ret
      exact ⟨rfl, rfl⟩
    · have h1' : (x == 11) = false := by simpa using h1
      have h2' : (x == 15) = false := by simpa using h2
      have HX := Lib.hid (show okW x = false by simp [okW, h1, h2])
      clear h1 h2
      go_enter Try.func183, Try.ntmps183
      go_wp2
      go_ret
      exact ⟨by rw [HX.out]; rfl, rfl⟩

theorem longest_ok {x : Int} (h : okW x = true) (w : World) : Calls Try.prog 279 #[.int .i64 x] w fun e w' => e = .returned (.int .i64 (2 ^ x.toNat - 1)) ∧ w = w' := by
  rcases okW_nat h with rfl | rfl
  · go_enter Try.func279, Try.ntmps279
    go_wp2
    go_ret
    exact ⟨rfl, rfl⟩
  · go_enter Try.func279, Try.ntmps279
    go_wp2
    go_ret
    exact ⟨rfl, rfl⟩

set_option maxHeartbeats 400000 in
theorem follows_any (b : Bool) (w : World) : Calls Try.prog 272 #[.bool b] w fun e w' => e = .returned (.int .u64 b.toNat) ∧ w = w' := by
  cases b
  · go_enter Try.func272, Try.ntmps272
    go_wp2
    go_ret
    exact ⟨rfl, rfl⟩
  · go_enter Try.func272, Try.ntmps272
    go_wp2
    go_ret
    exact ⟨rfl, rfl⟩

set_option maxHeartbeats 800000 in
theorem size_any (n x : Int) (w : World) : Calls Try.prog 121 #[.int .i64 n, .int .i64 x] w fun e w' => e = .returned (.int .i64 (sizeF n x)) ∧ w = w' := by
  cases hx : okW x
  · have HF := Lib.hid (show sizeF n x = 0 by simp [sizeF, hx])
    have HM := Lib.hid (lmay_any x w)
    rw [hx] at HM
    clear hx
    go_enter Try.func121, Try.ntmps121
    go_wp2_with (go_at_call 183; refine HM.out.mono ?_; rintro e w1 ⟨rfl, rfl⟩)
    go_ret
    exact ⟨by rw [HF.out]; rfl, rfl⟩
  · have HM := Lib.hid (lmay_any x w)
    rw [hx] at HM
    by_cases h1 : 1 ≤ n
    · by_cases h2 : n ≤ 23
      · have HF := Lib.hid (show sizeF n x = (n * (1 + x) + 7) / 8 by simp [sizeF, hx, h1, h2])
        have h1' : ¬ n < 1 := by omega
        have h2' : ¬ 23 < n := by omega
        rcases okW_nat hx with rfl | rfl
        all_goals
          clear hx
          go_enter Try.func121, Try.ntmps121
          go_wp2_with (go_at_call 183; refine HM.out.mono ?_; rintro e w1 ⟨rfl, rfl⟩)
          go_ret
          refine ⟨?_, rfl⟩
          rw [HF.out]
          first | rfl | go_num
      · have HF := Lib.hid (show sizeF n x = 0 by simp [sizeF, h2])
        have h1' : ¬ n < 1 := by omega
        have h2' : 23 < n := by omega
        clear hx
        go_enter Try.func121, Try.ntmps121
        go_wp2_with (go_at_call 183; refine HM.out.mono ?_; rintro e w1 ⟨rfl, rfl⟩)
        go_ret
        exact ⟨by rw [HF.out]; rfl, rfl⟩
    · have HF := Lib.hid (show sizeF n x = 0 by simp [sizeF, h1])
      have h1' : n < 1 := by omega
      clear hx
      go_enter Try.func121, Try.ntmps121
      go_wp2_with (go_at_call 183; refine HM.out.mono ?_; rintro e w1 ⟨rfl, rfl⟩)
      go_ret
      exact ⟨by rw [HF.out]; rfl, rfl⟩

set_option maxHeartbeats 800000 in
theorem top_ok (x : Nat) (hx : x ≤ 15) (w : World) : Calls Try.prog 247 #[.int .i64 x] w fun e w' => e = .returned (.int .i64 ((2 ^ x : Nat) : Int)) ∧ w = w' := by
  have hp : ∀ k, k ≤ x → 2 ^ k ≤ 32768 := fun k hk => Nat.le_trans (Nat.pow_le_pow_right (by omega) (show k ≤ 15 by omega)) (by decide)
  go_enter Try.func247, Try.ntmps247
  go_wp2
  go_loopw [3, 4] (fun v i wr => ∃ k q : Nat, k ≤ x ∧ q ≤ 32768 ∧ v = .int .i64 q ∧ i = .int .i64 k ∧ Hid (q = 2 ^ k) ∧ w = wr) (fun _ i _ => x - (intOf i).toNat)
  case atStart => exact ⟨0, 1, by omega, by omega, rfl, rfl, Lib.hid rfl, rfl⟩
  case round =>
    obtain ⟨k, q, hk, hq, rfl, rfl, HQ, rfl⟩ := hrel
    by_cases hlt : k < x
    · have h2 := hp (k + 1) (by omega)
      have HP := Lib.hid (show 2 * q = 2 ^ (k + 1) by rw [HQ.out, Nat.pow_succ, Nat.mul_comm])
      have h3 : 2 * q ≤ 32768 := by rw [HP.out]; exact h2
      clear h2 hp
      go_wp2
      go_roundw
      case rel => exact ⟨k + 1, 2 * q, by omega, h3, by go_num, by go_num, HP, trivial⟩
      case measure => simp [intOf]; omega
    · obtain rfl : k = x := by omega
      go_wp2
      go_ret
      exact ⟨by rw [HQ.out]; rfl, rfl⟩

set_option maxHeartbeats 1600000 in
theorem refsize_any (n x : Int) (w : World) : Calls Try.prog 118 #[.int .i64 n, .int .i64 x] w fun e w' => e = .returned (.int .i64 (sizeF n x)) ∧ w = w' := by
  cases hx : okW x
  · have HF := Lib.hid (show sizeF n x = 0 by simp [sizeF, hx])
    obtain ⟨h1, h2⟩ := okW_not hx
    have h1 : ¬ x = 11 := h1
    have h2 : ¬ x = 15 := h2
    clear hx
    go_enter Try.func118, Try.ntmps118
    go_wp2
    go_ret
    exact ⟨by rw [HF.out]; rfl, rfl⟩
  · by_cases h1 : 1 ≤ n
    · by_cases h2 : n ≤ 23
      · have HF := Lib.hid (show sizeF n x = (n * (1 + x) + 7) / 8 by simp [sizeF, hx, h1, h2])
        have h1' : ¬ n < 1 := by omega
        have h2' : ¬ 23 < n := by omega
        rcases okW_nat hx with rfl | rfl
        · clear hx
          go_enter Try.func118, Try.ntmps118
          go_wp2
          go_loopw [5] (fun v wr => ∃ k : Nat, k ≤ 46 ∧ v = .int .i64 k ∧ Hid ((k : Int) ≤ sizeF n 11) ∧ w = wr) (fun v _ => 46 - (intOf v).toNat)
          case atStart => exact ⟨0, by omega, rfl, Lib.hid (by rw [HF.out]; omega), rfl⟩
          case round =>
            obtain ⟨k, hk, rfl, HK, rfl⟩ := hrel
            have hks := HK.out
            rw [HF.out] at hks
            by_cases hlt : 8 * (k : Int) < n * 12
            · go_wp2
              go_roundw
              case rel => exact ⟨k + 1, by omega, by go_num, Lib.hid (by rw [HF.out]; omega), trivial⟩
              case measure => simp [intOf]; omega
            · go_wp2
              go_ret
              exact ⟨ret_int (by rw [HF.out]; omega), rfl⟩
        · clear hx
          go_enter Try.func118, Try.ntmps118
          go_wp2
          go_loopw [5] (fun v wr => ∃ k : Nat, k ≤ 46 ∧ v = .int .i64 k ∧ Hid ((k : Int) ≤ sizeF n 15) ∧ w = wr) (fun v _ => 46 - (intOf v).toNat)
          case atStart => exact ⟨0, by omega, rfl, Lib.hid (by rw [HF.out]; omega), rfl⟩
          case round =>
            obtain ⟨k, hk, rfl, HK, rfl⟩ := hrel
            have hks := HK.out
            rw [HF.out] at hks
            by_cases hlt : 8 * (k : Int) < n * 16
            · go_wp2
              go_roundw
              case rel => exact ⟨k + 1, by omega, by go_num, Lib.hid (by rw [HF.out]; omega), trivial⟩
              case measure => simp [intOf]; omega
            · go_wp2
              go_ret
              exact ⟨ret_int (by rw [HF.out]; omega), rfl⟩
      · have HF := Lib.hid (show sizeF n x = 0 by simp [sizeF, h2])
        have h1' : ¬ n < 1 := by omega
        have h2' : 23 < n := by omega
        rcases okW_nat hx with rfl | rfl
        all_goals
          clear hx
          go_enter Try.func118, Try.ntmps118
          go_wp2
          go_ret
          exact ⟨by rw [HF.out]; rfl, rfl⟩
    · have HF := Lib.hid (show sizeF n x = 0 by simp [sizeF, h1])
      have h1' : n < 1 := by omega
      rcases okW_nat hx with rfl | rfl
      all_goals
        clear hx
        go_enter Try.func118, Try.ntmps118
        go_wp2
        go_ret
        exact ⟨by rw [HF.out]; rfl, rfl⟩
end Go.Proofs.Ytbcjfdhphpckfaa
namespace Go.Proofs.Ytbcjfdhphpckfaa


def okAt (n k m : Nat) : Bool := decide (1 ≤ m) && decide (m ≤ if k + 1 = n then 4000 else 2047)
/-- the first k of these lengths may be -/
def okTo (ls : List Nat) (k : Nat) : Bool := (List.range k).all fun j => okAt ls.length j (ls.getD j 0)
theorem okTo_zero (ls : List Nat) : okTo ls 0 = true := rfl
theorem okTo_succ (ls : List Nat) (k : Nat) : okTo ls (k + 1) = (okTo ls k && okAt ls.length k (ls.getD k 0)) := by
  unfold okTo
  rw [List.range_succ, List.all_append]
  simp
theorem okTo_at {ls : List Nat} {k m : Nat} (h : ls[k]? = some m) (h0 : okTo ls k = true) : okTo ls (k + 1) = okAt ls.length k m := by
  rw [okTo_succ, h0, List.getD_eq_getElem?_getD, h]
  rfl
theorem okTo_later {ls : List Nat} {k n : Nat} (h : okTo ls k = false) (hk : k ≤ n) : okTo ls n = false := by
  rw [← Bool.not_eq_true] at h ⊢
  intro h1
  apply h
  unfold okTo at *
  rw [List.all_eq_true] at *
  intro j hj
  exact h1 j (by rw [List.mem_range] at *; omega)
theorem okAt_small {n k m : Nat} (h : okAt n k m = true) : 1 ≤ m ∧ m ≤ 4000 ∧ (k + 1 ≠ n → m ≤ 2047) := by
  unfold okAt at h
  rw [Bool.and_eq_true, decide_eq_true_iff, decide_eq_true_iff] at h
  obtain ⟨h1, h2⟩ := h
  by_cases hk : k + 1 = n
  · rw [if_pos hk] at h2
    exact ⟨h1, h2, fun h => absurd hk h⟩
  · rw [if_neg hk] at h2
    exact ⟨h1, by omega, fun _ => h2⟩
theorem okTo_small {ls : List Nat} (h : okTo ls ls.length = true) {k m : Nat} (hm : ls[k]? = some m) : 1 ≤ m ∧ m ≤ 4000 ∧ (k + 1 ≠ ls.length → m ≤ 2047) := by
  have hk : k < ls.length := (List.getElem?_eq_some_iff.1 hm).1
  unfold okTo at h
  rw [List.all_eq_true] at h
  have h1 := h k (by rw [List.mem_range]; exact hk)
  rw [List.getD_eq_getElem?_getD, hm] at h1
  exact okAt_small h1
def sumTo (ls : List Nat) (k : Nat) : Nat := (ls.take k).sum
theorem sumTo_zero (ls : List Nat) : sumTo ls 0 = 0 := by simp [sumTo]
theorem sumTo_all (ls : List Nat) : sumTo ls ls.length = ls.sum := by simp [sumTo]
theorem sumTo_succ {ls : List Nat} {k m : Nat} (h : ls[k]? = some m) : sumTo ls (k + 1) = sumTo ls k + m := by
  obtain ⟨hk, rfl⟩ := List.getElem?_eq_some_iff.1 h
  unfold sumTo
  rw [List.take_succ_eq_append_getElem hk, List.sum_append]
  simp
theorem sumTo_le (ls : List Nat) (k : Nat) : sumTo ls k ≤ ls.sum := by
  have h := List.take_append_drop k ls
  have h1 : ls.sum = (ls.take k).sum + (ls.drop k).sum := by rw [← List.sum_append, h]
  unfold sumTo
  omega
theorem sumTo_bound {ls : List Nat} {k : Nat} (h : okTo ls k = true) (hk : k ≤ ls.length) : sumTo ls k ≤ 4000 * k := by
  induction k with
  | zero => simp [sumTo]
  | succ k ih =>
    have hm : ls[k]? = some ls[k] := List.getElem?_eq_getElem (by omega)
    rw [okTo_succ, Bool.and_eq_true, List.getD_eq_getElem?_getD, hm] at h
    have h1 := okAt_small h.2
    have h2 := ih h.1 (by omega)
    rw [sumTo_succ hm]
    simp only [Option.getD_some] at h1
    omega

/-- how many bytes fields have, with their lengths; 0: they may not be -/
def szF (ls : List Nat) (wd : Int) : Int := if 1 ≤ ls.length ∧ ls.length ≤ 24 ∧ okTo ls ls.length = true then sizeF ((ls.length : Int) - 1) wd + ls.sum else 0
/-- .. behind a head, at most 4000 in all -/
def fieldsF (ls : List Nat) (head wd : Int) : Int := if 1 ≤ ls.length ∧ ls.length ≤ 24 ∧ okTo ls ls.length = true ∧ head + sizeF ((ls.length : Int) - 1) wd + ls.sum ≤ 4000 then head + sizeF ((ls.length : Int) - 1) wd + ls.sum else 0
theorem sizeF_nonneg (n x : Int) : 0 ≤ sizeF n x ∧ sizeF n x ≤ 46 := by
  unfold sizeF
  split
  · rename_i h
    rw [Bool.and_eq_true, Bool.and_eq_true, decide_eq_true_iff, decide_eq_true_iff] at h
    obtain ⟨h1, h2, h3⟩ := h
    rcases okW_nat h1 with rfl | rfl <;> omega
  · omega
theorem szF_pos {ls : List Nat} {wd : Int} : (szF ls wd = 0 ∧ ¬ (1 ≤ ls.length ∧ ls.length ≤ 24 ∧ okTo ls ls.length = true)) ∨ (szF ls wd = sizeF ((ls.length : Int) - 1) wd + ls.sum ∧ 1 ≤ szF ls wd ∧ szF ls wd ≤ 100000 ∧ 1 ≤ ls.length ∧ ls.length ≤ 24 ∧ okTo ls ls.length = true) := by
  unfold szF
  split
  · rename_i h
    right
    obtain ⟨h1, h2, h3⟩ := h
    have h4 := sumTo_bound h3 (Nat.le_refl _)
    rw [sumTo_all] at h4
    have h5 := sizeF_nonneg ((ls.length : Int) - 1) wd
    have h6 : 1 ≤ ls.sum := by
      have hm : ls[0]? = some ls[0] := List.getElem?_eq_getElem (by omega)
      have h7 := okTo_small h3 hm
      have h8 := sumTo_succ hm
      have h9 := sumTo_le ls (0 + 1)
      omega
    exact ⟨rfl, by omega, by omega, h1, h2, h3⟩
  · exact .inl ⟨rfl, by assumption⟩
/-- the code's way to it -/
theorem fieldsF_code (ls : List Nat) (head wd : Int) : fieldsF ls head wd = if szF ls wd = 0 ∨ 4000 < head + szF ls wd then 0 else head + szF ls wd := by
  rcases szF_pos (ls := ls) (wd := wd) with ⟨h1, h2⟩ | ⟨h1, h2, h3, h4, h5, h6⟩
  · rw [if_pos (.inl h1)]
    unfold fieldsF
    rw [if_neg (fun h => h2 ⟨h.1, h.2.1, h.2.2.1⟩)]
  · unfold fieldsF
    by_cases h7 : 4000 < head + szF ls wd
    · rw [if_neg (fun h => by omega), if_pos (.inr h7)]
    · rw [if_pos ⟨h4, h5, h6, by omega⟩, if_neg (by omega)]
      omega
end Go.Proofs.Ytbcjfdhphpckfaa
namespace Go.Proofs.Ytbcjfdhphpckfaa
open Go.RowKit

set_option maxHeartbeats 400000 in
theorem rest_nil (w : World) : Calls Try.prog 239 #[.pointer none] w fun e w' => e = .returned (.tuple #[.slice none 0 0, .int .i64 6]) ∧ w = w' := by
  go_enter Try.func239, Try.ntmps239
  go_wp2
  go_step3
  go_wp2
  rw [Exit.noGoto_ret]
  exact bodyPost_ret (v := .tuple #[.slice none 0 0, .int .i64 6]) (by simp [results, Try.results239, go_sem]) rfl ⟨rfl, rfl⟩

/-- how many bytes are begun -/
def up (i : Nat) : Nat := (i + 7) / 8

def RestOk (w : World) (p g : Nat) (bs : List Nat) (i : Nat) (e : Ending) (w' : World) : Prop :=
  ∃ g', e = .returned (.tuple #[.slice (some ⟨g', 0, none⟩) (bs.length - up i) (bs.length - up i), .int .i64 0]) ∧ w.heap.size ≤ g' ∧ Row w' g' 5 (bts (bs.drop (up i))).toArray ∧ RRep w' p g bs (8 * bs.length) ∧ Only (fun k => k = p) w w'

theorem rest_end {p g m : Nat} {bs : List Nat} {i : Nat} {w w2 : World} (hr : RRep w p g bs i) (hm : m = up i) {g' : Nat} {n n' : Nat} (hn : n = bs.length - m) (hn' : n' = n)
    (hg : (w.setCell ⟨p, 1, none⟩ (.int .i64 (8 * (bs.length : Int)))).heap.size ≤ g') (hrow : Row w2 g' 5 (bts (bs.drop m)).toArray) (hb : Below (w.setCell ⟨p, 1, none⟩ (.int .i64 (8 * (bs.length : Int)))).heap.size (w.setCell ⟨p, 1, none⟩ (.int .i64 (8 * (bs.length : Int)))) w2) :
    RestOk w p g bs i (.returned (.tuple #[.slice (some ⟨g', 0, none⟩) n n', .int .i64 0])) w2 := by
  subst hm
  subst hn'
  subst hn
  have hsz : (w.setCell ⟨p, 1, none⟩ (.int .i64 (8 * (bs.length : Int)))).heap.size = w.heap.size := by simp [World.setCell]
  rw [hsz] at hg
  obtain ⟨h1, h2, h3, h4, h5⟩ := hr
  have hne := h2.apart h1 (by decide)
  have e8 : ((8 * bs.length : Nat) : Int) = 8 * (bs.length : Int) := by omega
  refine ⟨g', rfl, hg, hrow, ⟨by rw [e8]; exact (h1.written 1 _).later hb, (h2.elsewhere (p := ⟨p, 1, none⟩) hne _).later hb, Nat.le_refl _, h4, h5⟩, ?_⟩
  exact ((Only.refl (fun k => k = p) w).set (p := ⟨p, 1, none⟩) (.inl rfl) _).andThen (T := fun _ => False) (.of_below hb) fun _ _ h => h.elim

theorem bts_drop (l : List Nat) (m : Nat) : bts (l.drop m) = (bts l).drop m := by simp [bts, List.map_drop]
theorem src_drop {w : World} {g m : Nat} {xs : List Value} (h : Row w g 5 xs.toArray) : Src w (some ⟨g, m, none⟩) (xs.drop m) := by
  intro _
  refine ⟨_, rfl, fun j u hu => ?_⟩
  have e : (⟨g, m, none⟩ : Addr).add j = ⟨g, m + j, none⟩ := by
    unfold Addr.add
    split
    · rename_i h0
      rw [h0]
      rfl
    · rfl
  rw [e]
  rw [List.getElem?_drop] at hu
  exact h.read (by simpa using hu)

set_option maxRecDepth 100000 in
set_option maxHeartbeats 1600000 in
theorem rest_ok {p g : Nat} {bs : List Nat} {i : Nat} (w : World) (hr : RRep w p g bs i) (h : ∀ k, i ≤ k → k < 8 * up i → bitAt bs k = false) :
    Calls Try.prog 239 #[.pointer (some ⟨p, 0, none⟩)] w (RestOk w p g bs i) := by
  have hi := hr.2.2.1
  have hn := hr.2.2.2.1
  have hup : up i ≤ bs.length := by unfold up; omega
  have hc0 : w.cell? ⟨p, 0, none⟩ = some (.slice (some ⟨g, 0, none⟩) bs.length bs.length) := hr.1.read rfl
  have hc1 : w.cell? ⟨p, 1, none⟩ = some (.int .i64 i) := hr.1.read rfl
  have hf1 := hr.1.free 1
  have HR := Lib.hid hr
  have HH := Lib.hid h
  clear hr h
  go_enter Try.func239, Try.ntmps239
  go_wp2
  refine wp_scope_jumps 0 (fun a' w' => ∃ k : Nat, i ≤ k ∧ k ≤ 8 * up i ∧ Fr [some (.pointer (some ⟨p, 0, none⟩)), none, none, none, some (.int .i64 k), none, none, none, none, none, none, none, none, none, none, none, none, none, none, none, none, none, none, none, none, none, none, none, none, none, none, none, none, none, none, none, none] a' ∧ w' = w) (fun a' _ => 8 * up i - (intOf (a'.tmps.getD 4 undef)).toNat) rfl ?_ ?_
  · go_wp2
    go_step3
    obtain ⟨k, hki⟩ : ∃ k, k = i := ⟨i, rfl⟩
    have hk0 : i ≤ k := by omega
    have hk1 : k ≤ 8 * up i := by unfold up; omega
    subst hki
    clear hc1
    have hc1 : w.cell? ⟨p, 1, none⟩ = some (.int .i64 k) := HR.out.1.read rfl
    by_cases h8 : k % 8 = 0
    · have hku : k / 8 = up k := by unfold up at *; omega
      have hb8 : ((k : Int) % 8 != 0) = false := by simp; omega
      obtain ⟨m, rfl⟩ : ∃ m, k = 8 * m := ⟨k / 8, by omega⟩
      have hmu : m = up (8 * m) := by omega
      have hrow := HR.out.2.1
      have hne := HR.out.ne
      have HE := Lib.hid (fun g' (w2 : World) n => rest_end (w2 := w2) HR.out hmu (g' := g') (n := n) (n' := n))
      have hlen : (bs.drop m).length = bs.length - m := by rw [List.length_drop]
      have HC := Lib.hid (fun A' cap' W h => copied_any A' cap' (bs.drop m) W (by rw [hlen]; omega) h)
      rw [hlen] at HC
      have HS := Lib.hid (src_drop (m := m) (hrow.elsewhere (p := ⟨p, 1, none⟩) hne (.int .i64 (8 * (bs.length : Int)))))
      have HZ := Lib.hid hmu
      clear h8 hku hrow hlen hmu
      rcases Nat.lt_or_ge m bs.length with hml | hml
      · generalize hN : bs.length = N at *
        have HN := Lib.hid hN
        clear hN
        rw [← bts_drop] at HS
        go_wp2_with (go_at_call 245; refine (HC.out _ _ _ ?_).mono ?_; exact HS.out; rintro e w2 ⟨g', rfl, hg, hrow, hb⟩)
        simp only [Exit.jump]
        refine bodyPost_ret (v := .tuple #[.slice (some ⟨g', 0, none⟩) (N - m) (N - m), .int .i64 0]) (by simp [results, Try.results239, go_sem]) rfl ?_
        exact HE.out g' w2 (N - m) rfl trivial hg hrow hb
      · have hmn : bs.length = m := by omega
        have hd : bs.drop m = [] := by rw [List.drop_eq_nil_iff]; omega
        have HD := Lib.hid hd
        have HC0 := Lib.hid (fun A' cap' W h => copied_any A' cap' [] W (by simp) h)
        rw [hmn] at hc0 HE
        have HMN := Lib.hid hmn
        clear hd HC HS hmn
        go_wp2_with (go_at_call 245; refine (HC0.out _ _ _ ?_).mono ?_; intro h0; simp [bts] at h0; rintro e w2 ⟨g', rfl, hg, hrow, hb⟩)
        simp only [Exit.jump]
        refine bodyPost_ret (v := .tuple #[.slice (some ⟨g', 0, none⟩) 0 0, .int .i64 0]) (by simp [results, Try.results239, go_sem]) rfl ?_
        exact HE.out g' w2 0 (by omega) trivial hg (by rw [HD.out]; exact hrow) hb
    · have hb8 : ((k : Int) % 8 != 0) = true := by simp; omega
      have hklt : k < 8 * up k := by unfold up at *; omega
      have hbit := HH.out k hk0 hklt
      have hkl : k < 8 * bs.length := by omega
      go_wp2_with (go_at_call 262; refine (bit_any HR.out hkl).mono ?_; rintro e w1 ⟨rfl, rfl⟩; rw [hbit])
      go_step3
      refine ⟨rfl, k + 1, by omega, by omega, ?_, rfl⟩
      simp only [Fr, Holes]
      repeat apply Exists.intro
      rfl
  · rintro a' w' ⟨k, hk0, hk1, hfr, rfl⟩
    simp only [Fr, Holes] at hfr
    repeat (obtain ⟨_, hfr⟩ := hfr)
    by_cases h8 : k % 8 = 0
    · have hku : k / 8 = up i := by unfold up at *; omega
      have hb8 : ((k : Int) % 8 != 0) = false := by simp; omega
      obtain ⟨m, rfl⟩ : ∃ m, k = 8 * m := ⟨k / 8, by omega⟩
      have hmu : m = up i := by omega
      have hrow := HR.out.2.1
      have hne := HR.out.ne
      have HE := Lib.hid (fun g' (w2 : World) n => rest_end (w2 := w2) HR.out hmu (g' := g') (n := n) (n' := n))
      have hlen : (bs.drop m).length = bs.length - m := by rw [List.length_drop]
      have HC := Lib.hid (fun A' cap' W h => copied_any A' cap' (bs.drop m) W (by rw [hlen]; omega) h)
      rw [hlen] at HC
      have HS := Lib.hid (src_drop (m := m) (hrow.elsewhere (p := ⟨p, 1, none⟩) hne (.int .i64 (8 * (bs.length : Int)))))
      have HZ := Lib.hid hmu
      clear h8 hku hrow hlen hmu
      rcases Nat.lt_or_ge m bs.length with hml | hml
      · generalize hN : bs.length = N at *
        have HN := Lib.hid hN
        clear hN
        rw [← bts_drop] at HS
        go_wp2_with (go_at_call 245; refine (HC.out _ _ _ ?_).mono ?_; exact HS.out; rintro e w2 ⟨g', rfl, hg, hrow, hb⟩)
        simp only [Exit.jump]
        refine bodyPost_ret (v := .tuple #[.slice (some ⟨g', 0, none⟩) (N - m) (N - m), .int .i64 0]) (by simp [results, Try.results239, go_sem]) rfl ?_
        exact HE.out g' w2 (N - m) rfl trivial hg hrow hb
      · have hmn : bs.length = m := by omega
        have hd : bs.drop m = [] := by rw [List.drop_eq_nil_iff]; omega
        have HD := Lib.hid hd
        have HC0 := Lib.hid (fun A' cap' W h => copied_any A' cap' [] W (by simp) h)
        rw [hmn] at hc0 HE
        have HMN := Lib.hid hmn
        clear hd HC HS hmn
        go_wp2_with (go_at_call 245; refine (HC0.out _ _ _ ?_).mono ?_; intro h0; simp [bts] at h0; rintro e w2 ⟨g', rfl, hg, hrow, hb⟩)
        simp only [Exit.jump]
        refine bodyPost_ret (v := .tuple #[.slice (some ⟨g', 0, none⟩) 0 0, .int .i64 0]) (by simp [results, Try.results239, go_sem]) rfl ?_
        exact HE.out g' w2 0 (by omega) trivial hg (by rw [HD.out]; exact hrow) hb
    · have hb8 : ((k : Int) % 8 != 0) = true := by simp; omega
      have hklt : k < 8 * up i := by unfold up at *; omega
      have hbit := HH.out k hk0 hklt
      have hkl : k < 8 * bs.length := by omega
      go_wp2_with (go_at_call 262; refine (bit_any HR.out hkl).mono ?_; rintro e w1 ⟨rfl, rfl⟩; rw [hbit])
      go_step3
      refine ⟨rfl, ⟨k + 1, by omega, by omega, ?_, rfl⟩, ?_⟩
      · simp only [Fr, Holes]
        repeat apply Exists.intro
        rfl
      · simp [intOf]
        omega
end Go.Proofs.Ytbcjfdhphpckfaa
namespace Go.Proofs.Ytbcjfdhphpckfaa
open Go.RowKit

/-- bytes as a text -/
def strOf (l : List Nat) : ByteArray := ⟨(l.map UInt8.ofNat).toArray⟩

theorem conv_str {w : World} {g c : Nat} {l : List Nat} (h : Row w g 5 (bts l).toArray) (hb : ∀ b ∈ l, b < 256) :
    (convert 34 9 (.slice (some ⟨g, 0, none⟩) l.length c)).run Try.prog w = .ok (.string (strOf l)) w := by
  have hx := run_convert_bytes_back (P := Try.prog) w 34 9 5 ⟨g, 0, none⟩ c (l.map UInt8.ofNat) Try.underlying34 Try.underlying5 Try.underlying9 (fun j hj => by
    have hj' : j < l.length := by simpa using hj
    rw [add_zero_addr]
    have h1 : (bts l)[j]? = some (.int .u8 (l[j] : Nat)) := bts_at (List.getElem?_eq_getElem hj')
    have h2 := h.read (i := j) (x := .int .u8 (l[j] : Nat)) (by simpa using h1)
    rw [h2, List.getElem_map]
    have h3 : (UInt8.ofNat l[j]).toNat = l[j] := UInt8.toNat_ofNat_of_lt' (hb _ (List.getElem_mem hj'))
    rw [h3])
  rw [List.length_map] at hx
  exact hx

theorem wrote_below {B : Nat} {w w' : World} {p : Nat} {sv : Value} {bl : List Bool} (hr : WRep B w p sv bl) (h : Only (fun k => k = p ∨ sv.ownBlock = some k) w w') : Below B w w' :=
  h.below (by have := hr.1; have := hr.2.1.inside; omega) (fun k hk hS => by
    rcases hS with h1 | h1
    · have := hr.1; omega
    · have := (hr.2.2.lt k h1).1; omega)
theorem get_below {B p : Nat} {w w' : World} (h : Only (fun k => k = p) w w') (hp : B ≤ p) (hB : B ≤ w.heap.size) : Below B w w' :=
  h.below hB (fun k hk hS => by omega)
end Go.Proofs.Ytbcjfdhphpckfaa
namespace Go.Proofs.Ytbcjfdhphpckfaa
open Go.RowKit

def bitsP (kp : List (Nat × Nat)) : List Bool := kp.flatMap fun x => unval x.1 x.2
def cellsP (kp : List (Nat × Nat)) : List Value := kp.flatMap fun x => [.int .u64 x.1, .int .i64 x.2]
theorem bitsP_snoc (kp : List (Nat × Nat)) (v n : Nat) : bitsP (kp ++ [(v, n)]) = bitsP kp ++ unval v n := by simp [bitsP]
theorem cellsP_snoc (kp : List (Nat × Nat)) (v n : Nat) : cellsP (kp ++ [(v, n)]) = cellsP kp ++ [.int .u64 v, .int .i64 n] := by simp [cellsP]
theorem length_cellsP (kp : List (Nat × Nat)) : (cellsP kp).length = kp.length * 2 := by
  induction kp with
  | nil => rfl
  | cons x kp ih =>
    have : cellsP (x :: kp) = [.int .u64 x.1, .int .i64 x.2] ++ cellsP kp := rfl
    rw [this, List.length_append, ih, List.length_cons]
    simp
    omega
theorem length_bitsP {kp : List (Nat × Nat)} (h : ∀ x ∈ kp, x.2 ≤ 64 ∧ x.1 < 2 ^ x.2) : (bitsP kp).length ≤ 64 * kp.length := by
  induction kp with
  | nil => simp [bitsP]
  | cons x kp ih =>
    have e : bitsP (x :: kp) = unval x.1 x.2 ++ bitsP kp := rfl
    have h1 := h x (List.mem_cons_self ..)
    have h2 := ih fun y hy => h y (List.mem_cons_of_mem _ hy)
    rw [e, List.length_append, length_unval, List.length_cons]
    omega
theorem bitsP_append (a b : List (Nat × Nat)) : bitsP (a ++ b) = bitsP a ++ bitsP b := by simp [bitsP]
theorem bitsP_split {kp : List (Nat × Nat)} {k : Nat} (h : k < kp.length) : bitsP kp = bitsP (kp.take k) ++ (unval kp[k].1 kp[k].2 ++ bitsP (kp.drop (k + 1))) := by
  have h1 : kp = kp.take k ++ (kp[k] :: kp.drop (k + 1)) := by simp
  have h2 : bitsP (kp[k] :: kp.drop (k + 1)) = unval kp[k].1 kp[k].2 ++ bitsP (kp.drop (k + 1)) := rfl
  rw [← h2, ← bitsP_append, ← h1]
theorem bitsP_take {kp : List (Nat × Nat)} {k : Nat} (h : k < kp.length) : (bitsP (kp.take (k + 1))).length = (bitsP (kp.take k)).length + kp[k].2 := by
  rw [List.take_succ_eq_append_getElem h, bitsP_append, List.length_append]
  simp [bitsP, length_unval]
theorem cellsP_at {kp : List (Nat × Nat)} {k : Nat} (h : k < kp.length) : (cellsP kp)[k * 2]? = some (.int .u64 kp[k].1) ∧ (cellsP kp)[k * 2 + 1]? = some (.int .i64 kp[k].2) := by
  have h1 : kp = kp.take k ++ (kp[k] :: kp.drop (k + 1)) := by simp
  have h2 : cellsP kp = cellsP (kp.take k) ++ ([.int .u64 kp[k].1, .int .i64 kp[k].2] ++ cellsP (kp.drop (k + 1))) := by
    have h3 : cellsP (kp[k] :: kp.drop (k + 1)) = [.int .u64 kp[k].1, .int .i64 kp[k].2] ++ cellsP (kp.drop (k + 1)) := rfl
    have h4 : ∀ a b, cellsP (a ++ b) = cellsP a ++ cellsP b := fun a b => by simp [cellsP]
    rw [← h3, ← h4, ← h1]
  have hl : (cellsP (kp.take k)).length = k * 2 := by rw [length_cellsP, List.length_take]; omega
  rw [h2]
  constructor
  · rw [List.getElem?_append_right (by omega), hl, Nat.sub_self]
    rfl
  · rw [List.getElem?_append_right (by omega), hl, show k * 2 + 1 - k * 2 = 1 by omega]
    rfl

/-- what is read is what was put -/
theorem seg_back {kp : List (Nat × Nat)} {k : Nat} (h : k < kp.length) (hv : kp[k].1 < 2 ^ kp[k].2) : val (seg (pack (bitsP kp)) (bitsP (kp.take k)).length kp[k].2) = kp[k].1 := by
  unfold seg
  rw [bitsOf_pack, bitsP_split h, List.append_assoc, List.drop_left, List.append_assoc, List.take_left' (length_unval _ _), val_unval]
  exact Nat.mod_eq_of_lt hv
theorem back_fits {kp : List (Nat × Nat)} {k : Nat} (h : k < kp.length) : (bitsP (kp.take k)).length + kp[k].2 ≤ 8 * (pack (bitsP kp)).length := by
  have h1 := congrArg List.length (bitsP_split h)
  rw [List.length_append, List.length_append, length_unval] at h1
  rw [length_pack]
  unfold packLen
  omega
theorem back_rest (bl : List Bool) : ∀ k, bl.length ≤ k → k < 8 * up bl.length → bitAt (pack bl) k = false := by
  intro k h1 h2
  unfold bitAt
  rw [bitsOf_pack, List.getD_eq_getElem?_getD, List.getElem?_append_right h1, List.getElem?_replicate]
  split <;> rfl
theorem pack_small (bl : List Bool) : ∀ b ∈ pack bl, b < 256 := by
  intro b hb
  unfold pack at hb
  simp only [List.mem_map] at hb
  obtain ⟨i, _, rfl⟩ := hb
  exact byteAt_lt _ _
end Go.Proofs.Ytbcjfdhphpckfaa
