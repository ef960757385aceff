/-
  What a reader does: Read, Left, a bit. What a reader does: Get. What the small functions of lens answer: which widths may be, how great a length may be, how many bytes lengths have. status: its small calls: mayBe, placeBits, ones, bit, last, end. What numbers of a space may be, as the code and the document say. status: a miss: its value; may its From and To be?.
-/
import Derived.Test.YtgdpjaojlhdhdaaJUmtxFits01
namespace Go.Proofs.Ytgdpjaojlhdhdaa
open Go.RowKit

theorem unval_at (v n j : Nat) (h : j < n) : (unval v n)[j]? = some (v / 2 ^ (n - 1 - j) % 2 == 1) := by
  induction n generalizing v with
  | zero => omega
  | succ n ih =>
    rw [unval]
    by_cases hj : j < n
    · rw [List.getElem?_append_left (by rw [length_unval]; exact hj), ih _ hj, Nat.div_div_eq_div_mul]
      have e : n + 1 - 1 - j = (n - 1 - j) + 1 := by omega
      rw [e, Nat.pow_succ, Nat.mul_comm 2]
    · have e : j = n := by omega
      subst e
      rw [List.getElem?_append_right (by rw [length_unval]; omega), length_unval, Nat.sub_self]
      simp

/-- bit i of bytes -/
def bitAt (bs : List Nat) (i : Nat) : Bool := (bitsOf bs).getD i false
theorem bitAt_eq {bs : List Nat} {i b : Nat} (h : bs[i / 8]? = some b) : bitAt bs i = (b / 2 ^ (7 - i % 8) % 2 == 1) := by
  unfold bitAt
  rw [List.getD_eq_getElem?_getD, bitsOf_at bs i b h, unval_at b 8 (i % 8) (Nat.mod_lt _ (by omega))]
  rfl

/-- a reader at block p, with its bytes in block g, stands at bit i -/
def RRep (w : World) (p g : Nat) (bs : List Nat) (i : Nat) : Prop :=
  Row w p 330 #[.slice (some ⟨g, 0, none⟩) bs.length bs.length, .int .i64 i] ∧ Row w g 5 (bts bs).toArray ∧ i ≤ 8 * bs.length ∧ bs.length ≤ 8192 ∧ ∀ b ∈ bs, b < 256
theorem RRep.only {w v : World} {p g : Nat} {bs : List Nat} {i : Nat} {S : Nat → Prop} (h : RRep w p g bs i) (ho : Only S w v) (h1 : ¬ S p) (h2 : ¬ S g) : RRep v p g bs i :=
  ⟨h.1.only ho h1, h.2.1.only ho h2, h.2.2⟩
theorem RRep.later {w v : World} {p g : Nat} {bs : List Nat} {i : Nat} (h : RRep w p g bs i) (hb : Below w.heap.size w v) : RRep v p g bs i :=
  h.only (S := fun _ => False) (.of_below hb) (fun h => h) (fun h => h)
theorem RRep.ne {w : World} {p g : Nat} {bs : List Nat} {i : Nat} (h : RRep w p g bs i) : g ≠ p := h.2.1.apart h.1 (by decide)

theorem add_zero_addr (g j : Nat) : (⟨g, 0, none⟩ : Addr).add j = ⟨g, j, none⟩ := by
  unfold Addr.add
  split
  · rename_i h
    rw [h]
  · simp
theorem row_src {w : World} {g : Nat} {t : TypeId} {xs : List Value} (h : Row w g t xs.toArray) : Src w (some ⟨g, 0, none⟩) xs := by
  intro _
  refine ⟨_, rfl, fun j u hu => ?_⟩
  rw [add_zero_addr]
  exact h.read (by simpa using hu)

set_option maxHeartbeats 800000 in
theorem read_any (A : Option Addr) (cap : Nat) (l : List Nat) (w : World) (hn : l.length ≤ 8192) (hc : l.length ≤ cap) (hs : Src w A (bts l)) (hb : ∀ b ∈ l, b < 256) :
    Calls Try.prog 161 #[.slice A l.length cap] w fun e w' => ∃ p g, e = .returned (.pointer (some ⟨p, 0, none⟩)) ∧ w.heap.size ≤ p ∧ w.heap.size ≤ g ∧ RRep w' p g l 0 ∧ Below w.heap.size w w' := by
  have hcop := fun A' cap' W h => copied_any A' cap' l W hn h
  have HC := Lib.hid hcop
  have HS := Lib.hid hs
  have HL := Lib.hid hb
  clear hcop hs hb
  generalize hnn : l.length = n at *
  go_enter Try.func161, Try.ntmps161
  go_wp2_with (go_at_call 273; refine (HC.out _ _ _ ?_).mono ?_; exact HS.out; rintro e w1 ⟨g, rfl, hg, hrow, hb⟩)
  go_ret
  have hp := hb.size
  refine ⟨w1.heap.size, g, rfl, hp, hg, ⟨?_, hrow.more _, by omega, by omega, HL.out⟩, bl_alloc hb _⟩
  rw [hnn]
  exact Row.made _ _ _

set_option maxHeartbeats 400000 in
theorem left_any {w : World} {p g : Nat} {bs : List Nat} {i : Nat} (h : RRep w p g bs i) :
    Calls Try.prog 275 #[.pointer (some ⟨p, 0, none⟩)] w fun e w' => e = .returned (.int .i64 ((8 * bs.length - i : Nat) : Int)) ∧ Below w.heap.size w w' := by
  have hc0 : w.cell? ⟨p, 0, none⟩ = some (.slice (some ⟨g, 0, none⟩) bs.length bs.length) := h.1.read rfl
  have hc1 : w.cell? ⟨p, 1, none⟩ = some (.int .i64 i) := h.1.read rfl
  have hi := h.2.2.1
  have hn := h.2.2.2.1
  clear h
  generalize bs.length = n at *
  go_enter Try.func275, Try.ntmps275
  go_wp2
  go_quiet (fail)
  go_wp2
  go_ret
  exact ⟨ret_int (by first | rfl | omega), below_drewN (Below.refl _ _) _⟩
set_option maxHeartbeats 400000 in
theorem left_nil (w : World) : Calls Try.prog 275 #[.pointer none] w fun e w' => e = .returned (.int .i64 0) ∧ w = w' := by
  go_enter Try.func275, Try.ntmps275
  go_wp2
  go_ret
  exact ⟨rfl, rfl⟩

theorem bit_u8 (b k : Nat) (hb : b < 256) : bits .and .u8 ((b : Int) / 2 ^ k) 1 = ((b / 2 ^ k % 2 == 1).toNat : Int) := by
  rw [cast_div_pow]
  have h1 : b / 2 ^ k ≤ b := Nat.div_le_self _ _
  generalize b / 2 ^ k = q at *
  have h2 := u8_and_nat q 1 (by omega) (by omega)
  rw [Nat.and_one_is_mod] at h2
  rw [show (1 : Int) = ((1 : Nat) : Int) from rfl, h2]
  rcases Nat.mod_two_eq_zero_or_one q with h | h <;> rw [h] <;> rfl

set_option maxHeartbeats 400000 in
theorem bit_any {w : World} {p g : Nat} {bs : List Nat} {i k : Nat} (h : RRep w p g bs k) (hi : i < 8 * bs.length) :
    Calls Try.prog 276 #[.pointer (some ⟨p, 0, none⟩), .int .i64 i] w fun e w' => e = .returned (.int .u8 (bitAt bs i).toNat) ∧ w = w' := by
  have hc0 : w.cell? ⟨p, 0, none⟩ = some (.slice (some ⟨g, 0, none⟩) bs.length bs.length) := h.1.read rfl
  have hn := h.2.2.2.1
  have hlt : i / 8 < bs.length := by omega
  have hat : bs[i / 8]? = some bs[i / 8] := List.getElem?_eq_getElem hlt
  have hc1 : w.cell? ⟨g, i / 8, none⟩ = some (.int .u8 bs[i / 8]) := h.2.1.read (by simpa using bts_at hat)
  have hb := h.2.2.2.2 _ (List.getElem_mem hlt)
  have hv := bitAt_eq hat
  generalize bs[i / 8] = b at *
  generalize bs.length = n at *
  have HV := Lib.hid hv
  have HB := Lib.hid hb
  clear h hat hv hb
  go_enter Try.func276, Try.ntmps276
  go_wp2
  go_ret
  refine ⟨ret_int ?_, rfl⟩
  rw [HV.out]
  exact bit_u8 b _ HB.out
end Go.Proofs.Ytgdpjaojlhdhdaa
namespace Go.Proofs.Ytgdpjaojlhdhdaa
open Go.RowKit

/-- m bits from bit i on -/
def seg (bs : List Nat) (i m : Nat) : List Bool := ((bitsOf bs).drop i).take m
theorem length_seg {bs : List Nat} {i m : Nat} (h : i + m ≤ 8 * bs.length) : (seg bs i m).length = m := by
  unfold seg
  rw [List.length_take, List.length_drop, length_bitsOf]
  omega
theorem seg_zero (bs : List Nat) (i : Nat) : seg bs i 0 = [] := by simp [seg]
theorem seg_succ {bs : List Nat} {i m : Nat} (h : i + m < 8 * bs.length) : seg bs i (m + 1) = seg bs i m ++ [bitAt bs (i + m)] := by
  unfold seg bitAt
  have hl : i + m < (bitsOf bs).length := by rw [length_bitsOf]; exact h
  have hd : m < ((bitsOf bs).drop i).length := by rw [List.length_drop]; omega
  rw [List.take_succ_eq_append_getElem hd, List.getElem_drop, List.getD_eq_getElem?_getD, List.getElem?_eq_getElem hl]
  rfl
theorem val_seg_succ {bs : List Nat} {i m : Nat} (h : i + m < 8 * bs.length) : val (seg bs i (m + 1)) = 2 * val (seg bs i m) + (bitAt bs (i + m)).toNat := by
  rw [seg_succ h, val_snoc]

set_option maxHeartbeats 400000 in
theorem get_nil (n : Int) (w : World) : Calls Try.prog 163 #[.pointer none, .int .i64 n] w fun e w' => e = .returned (.tuple #[.int .u64 0, .int .i64 6]) ∧ w = w' := by
  go_enter Try.func163, Try.ntmps163
  go_wp2
  go_step3
  go_wp2
  rw [Exit.noGoto_ret]
  go_ret2
  exact ⟨rfl, rfl⟩
set_option maxHeartbeats 400000 in
theorem get_arg (p : Nat) (n : Int) (w : World) (h : mayB n = false) : Calls Try.prog 163 #[.pointer (some ⟨p, 0, none⟩), .int .i64 n] w fun e w' => e = .returned (.tuple #[.int .u64 0, .int .i64 1]) ∧ w = w' := by
  have H := Lib.hid h
  clear h
  go_enter Try.func163, Try.ntmps163
  go_wp2
  go_step3
  go_wp2_with (go_at_call 274; refine (mayBe_any _ _).mono ?_; rintro e w1 ⟨rfl, rfl⟩; rw [H.out])
  rw [Exit.noGoto_ret]
  go_ret2
  exact ⟨rfl, rfl⟩
set_option maxHeartbeats 400000 in
theorem get_short {p g : Nat} {bs : List Nat} {i : Nat} (n : Nat) (w : World) (hr : RRep w p g bs i) (hn : n ≤ 64) (h : 8 * bs.length - i < n) :
    Calls Try.prog 163 #[.pointer (some ⟨p, 0, none⟩), .int .i64 n] w fun e w' => e = .returned (.tuple #[.int .u64 0, .int .i64 8]) ∧ Below w.heap.size w w' := by
  have HR := Lib.hid hr
  clear hr
  go_enter Try.func163, Try.ntmps163
  go_wp2
  go_step3
  go_wp2_with (first
    | (go_at_call 274; refine (mayBe_yes _ _ (by omega) (by omega)).mono ?_; rintro e w1 ⟨rfl, rfl⟩)
    | (go_at_call 275; refine (left_any HR.out).mono ?_; rintro e w2 ⟨rfl, hb⟩))
  rw [Exit.noGoto_ret]
  go_ret2
  exact ⟨rfl, hb⟩

/-- a reader has got the first m bits -/
def Getting (w : World) (p g : Nat) (bs : List Nat) (i m : Nat) (w' : World) : Prop := RRep w' p g bs (i + m) ∧ Only (fun k => k = p) w w'

theorem or_u64 (V : Nat) (hV : V < 9223372036854775808) (bit : Bool) : bits .or .u64 (IntKind.u64.wrap ((V : Int) * 2)) (IntKind.u64.wrap (bit.toNat : Int)) = ((2 * V + bit.toNat : Nat) : Int) := by
  have h1 : IntKind.u64.wrap ((V : Int) * 2) = ((2 * V : Nat) : Int) := by
    rw [IntKind.wrap_u64]
    omega
  have h2 : bit.toNat < 2 := by cases bit <;> decide
  have h4 : IntKind.u64.wrap (bit.toNat : Int) = (bit.toNat : Int) := by
    rw [IntKind.wrap_u64]
    omega
  rw [h1, h4, u64_or_nat _ _ (by omega) (by omega)]
  have h3 := Nat.two_pow_add_eq_or_of_lt (i := 1) (b := bit.toNat) (by simpa using h2) V
  simp only [Nat.pow_one] at h3
  rw [← h3]
theorem or_u64_0 (bit : Bool) : bits .or .u64 0 (IntKind.u64.wrap (bit.toNat : Int)) = (bit.toNat : Int) := by
  have h := or_u64 0 (by omega) bit
  rw [show IntKind.u64.wrap (((0 : Nat) : Int) * 2) = 0 from rfl] at h
  rw [h]
  simp
theorem val_one {bs : List Nat} {i : Nat} (h : i < 8 * bs.length) : val (seg bs i 1) = (bitAt bs i).toNat := by
  have h1 := val_seg_succ (bs := bs) (i := i) (m := 0) (by omega)
  rw [seg_zero] at h1
  simpa [val_nil] using h1
theorem val_small {l : List Bool} (h : l.length ≤ 63) : val l < 9223372036854775808 :=
  Nat.lt_of_lt_of_le (val_lt l) (Nat.le_trans (Nat.pow_le_pow_right (by omega) h) (by decide))

set_option maxRecDepth 100000 in
set_option maxHeartbeats 1600000 in
theorem get_any {p g : Nat} {bs : List Nat} {i : Nat} (n : Nat) (w : World) (hr : RRep w p g bs i) (hn : n ≤ 64) (h : i + n ≤ 8 * bs.length) :
    Calls Try.prog 163 #[.pointer (some ⟨p, 0, none⟩), .int .i64 n] w fun e w' => e = .returned (.tuple #[.int .u64 (val (seg bs i n)), .int .i64 0]) ∧ Getting w p g bs i n w' := by
  have HR := Lib.hid hr
  have hle : 8 * bs.length ≤ 65536 := by have := hr.2.2.2.1; omega
  have hin : n ≤ 8 * bs.length - i := by omega
  clear hr
  go_enter Try.func163, Try.ntmps163
  go_wp2
  refine wp_scope_jumps 0 (fun a' w' => ∃ k : Nat, k ≤ n ∧ Fr [some (.pointer (some ⟨p, 0, none⟩)), some (.int .i64 k), none, none, none, none, some (.int .u64 (val (seg bs i (n - k)))), none, none, none, none, none, none, none, none, none, none, none, none, none, none, none, none, none, none, none, none, none, none, none, none, none, none, none, none, none, none, none, none, none, none] a' ∧ Getting w p g bs i (n - k) w') (fun a' _ => (intOf (a'.tmps.getD 1 undef)).toNat) rfl ?_ ?_
  · rcases Nat.eq_zero_or_pos n with hk0 | hk0
    · subst hk0
      go_wp2_with (first
        | (go_at_call 274; refine (mayBe_yes _ _ (by omega) (by omega)).mono ?_; rintro e w1 ⟨rfl, rfl⟩)
        | (go_at_call 275; refine (left_any HR.out).mono ?_; rintro e w2 ⟨rfl, hb⟩))
      go_step3
      go_wp2
      simp only [Exit.jump]
      go_ret2
      exact ⟨rfl, HR.out.later hb, .of_below hb⟩
    · go_wp2_with (first
        | (go_at_call 274; refine (mayBe_yes _ _ (by omega) (by omega)).mono ?_; rintro e w1 ⟨rfl, rfl⟩)
        | (go_at_call 275; refine (left_any HR.out).mono ?_; rintro e w2 ⟨rfl, hb⟩))
      go_step3
      have hrr := HR.out.later hb
      have hc1 : w2.cell? ⟨p, 1, none⟩ = some (.int .i64 i) := hrr.1.read rfl
      have hf1 := hrr.1.free 1
      have HRR := Lib.hid hrr
      have HO := Lib.hid (Only.of_below (S := fun k => k = p) hb)
      obtain ⟨j, rfl⟩ : ∃ j, n = j + 1 := ⟨n - 1, by omega⟩
      have hq : i < 8 * bs.length := by omega
      have hstep := Lib.hid (val_one hq)
      clear hb hrr
      go_wp2_with (go_at_call 276; refine (bit_any HRR.out hq).mono ?_; rintro e w1 ⟨rfl, rfl⟩)
      go_step3
      rw [or_u64_0, ← hstep.out]
      have e1 : j + 1 - j = 1 := by omega
      refine ⟨rfl, j, by omega, ?_, ?_, ?_⟩
      · rw [e1]
        simp only [Fr, Holes]
        repeat apply Exists.intro
        rfl
      · rw [e1]
        obtain ⟨h1, h2, h3, h4, h5⟩ := HRR.out
        exact ⟨h1.written 1 _, h2.elsewhere (p := ⟨p, 1, none⟩) (RRep.ne HRR.out) _, by omega, h4, h5⟩
      · exact HO.out.set (p := ⟨p, 1, none⟩) (.inl rfl) _
  · rintro a' w' ⟨k, hk, hfr, hget⟩
    simp only [Fr, Holes] at hfr
    repeat (obtain ⟨_, hfr⟩ := hfr)
    obtain ⟨hrr, ho⟩ := hget
    have hc1 : w'.cell? ⟨p, 1, none⟩ = some (.int .i64 ((i + (n - k) : Nat) : Int)) := hrr.1.read rfl
    have hf1 := hrr.1.free 1
    rcases Nat.eq_zero_or_pos k with hk0 | hk0
    · subst hk0
      clear hc1 hf1
      go_wp2
      simp only [Exit.jump]
      go_ret2
      exact ⟨rfl, hrr, ho⟩
    · obtain ⟨j, rfl⟩ : ∃ j, k = j + 1 := ⟨k - 1, by omega⟩
      have hstep := Lib.hid (val_seg_succ (bs := bs) (i := i) (m := n - (j + 1)) (by omega))
      have hV := Lib.hid (val_small (l := seg bs i (n - (j + 1))) (by rw [length_seg (by omega)]; omega))
      have e1 : n - (j + 1) + 1 = n - j := by omega
      rw [e1] at hstep
      have hq : i + (n - (j + 1)) < 8 * bs.length := by omega
      have hq2 : i + (n - j) = i + (n - (j + 1)) + 1 := by omega
      generalize val (seg bs i (n - (j + 1))) = V at *
      generalize i + (n - (j + 1)) = q at *
      have HQ := Lib.hid hq2
      have HO := Lib.hid ho
      have HRR := Lib.hid hrr
      have hor := or_u64 V hV.out (bitAt bs q)
      have HOR := Lib.hid hor
      clear e1 hq2 ho hrr hor
      go_wp2_with (go_at_call 276; refine (bit_any HRR.out hq).mono ?_; rintro e w1 ⟨rfl, rfl⟩)
      go_step3
      rw [HOR.out, ← hstep.out]
      refine ⟨rfl, ⟨j, by omega, ?_, ?_, ?_⟩, ?_⟩
      · simp only [Fr, Holes]
        repeat apply Exists.intro
        rfl
      · rw [HQ.out]
        obtain ⟨h1, h2, h3, h4, h5⟩ := HRR.out
        exact ⟨h1.written 1 _, h2.elsewhere (p := ⟨p, 1, none⟩) (RRep.ne HRR.out) _, by omega, h4, h5⟩
      · exact HO.out.set (p := ⟨p, 1, none⟩) (.inl rfl) _
      · simp [intOf]
end Go.Proofs.Ytgdpjaojlhdhdaa
namespace Go.Proofs.Ytgdpjaojlhdhdaa
open Go.RowKit

def okW (w : Int) : Bool := (w == 11) || (w == 15)
theorem okW_nat {w : Int} (h : okW w = true) : w = 11 ∨ w = 15 := by simpa [okW] using h
theorem okW_not {w : Int} (h : okW w = false) : w ≠ 11 ∧ w ≠ 15 := by simpa [okW] using h
/-- how many bytes n lengths have -/
def sizeF (n w : Int) : Int := if okW w && (decide (1 ≤ n) && decide (n ≤ 23)) then (n * (1 + w) + 7) / 8 else 0

set_option maxHeartbeats 400000 in
theorem lmay_any (x : Int) (w : World) : Calls Try.prog 312 #[.int .i64 x] w fun e w' => e = .returned (.bool (okW x)) ∧ w = w' := by
  by_cases h1 : x = 11
  · subst h1
    go_enter Try.func312, Try.ntmps312
    go_wp2
    go_ret
    exact ⟨rfl, rfl⟩
  · by_cases h2 : x = 15
    · subst h2
      go_enter Try.func312, Try.ntmps312
      go_wp2
      go_ret
      exact ⟨rfl, rfl⟩
    · have h1' : (x == 11) = false := by simpa using h1
      have h2' : (x == 15) = false := by simpa using h2
      have HX := Lib.hid (show okW x = false by simp [okW, h1, h2])
      clear h1 h2
      go_enter Try.func312, Try.ntmps312
      go_wp2
      go_ret
      exact ⟨by rw [HX.out]; rfl, rfl⟩

theorem longest_ok {x : Int} (h : okW x = true) (w : World) : Calls Try.prog 342 #[.int .i64 x] w fun e w' => e = .returned (.int .i64 (2 ^ x.toNat - 1)) ∧ w = w' := by
  rcases okW_nat h with rfl | rfl
  · go_enter Try.func342, Try.ntmps342
    go_wp2
    go_ret
    exact ⟨rfl, rfl⟩
  · go_enter Try.func342, Try.ntmps342
    go_wp2
    go_ret
    exact ⟨rfl, rfl⟩

set_option maxHeartbeats 400000 in
theorem follows_any (b : Bool) (w : World) : Calls Try.prog 325 #[.bool b] w fun e w' => e = .returned (.int .u64 b.toNat) ∧ w = w' := by
  cases b
  · go_enter Try.func325, Try.ntmps325
    go_wp2
    go_ret
    exact ⟨rfl, rfl⟩
  · go_enter Try.func325, Try.ntmps325
    go_wp2
    go_ret
    exact ⟨rfl, rfl⟩

set_option maxHeartbeats 800000 in
theorem size_any (n x : Int) (w : World) : Calls Try.prog 250 #[.int .i64 n, .int .i64 x] w fun e w' => e = .returned (.int .i64 (sizeF n x)) ∧ w = w' := by
  cases hx : okW x
  · have HF := Lib.hid (show sizeF n x = 0 by simp [sizeF, hx])
    have HM := Lib.hid (lmay_any x w)
    rw [hx] at HM
    clear hx
    go_enter Try.func250, Try.ntmps250
    go_wp2_with (go_at_call 312; refine HM.out.mono ?_; rintro e w1 ⟨rfl, rfl⟩)
    go_ret
    exact ⟨by rw [HF.out]; rfl, rfl⟩
  · have HM := Lib.hid (lmay_any x w)
    rw [hx] at HM
    by_cases h1 : 1 ≤ n
    · by_cases h2 : n ≤ 23
      · have HF := Lib.hid (show sizeF n x = (n * (1 + x) + 7) / 8 by simp [sizeF, hx, h1, h2])
        have h1' : ¬ n < 1 := by omega
        have h2' : ¬ 23 < n := by omega
        rcases okW_nat hx with rfl | rfl
        all_goals
          clear hx
          go_enter Try.func250, Try.ntmps250
          go_wp2_with (go_at_call 312; refine HM.out.mono ?_; rintro e w1 ⟨rfl, rfl⟩)
          go_ret
          refine ⟨?_, rfl⟩
          rw [HF.out]
          first | rfl | go_num
      · have HF := Lib.hid (show sizeF n x = 0 by simp [sizeF, h2])
        have h1' : ¬ n < 1 := by omega
        have h2' : 23 < n := by omega
        clear hx
        go_enter Try.func250, Try.ntmps250
        go_wp2_with (go_at_call 312; refine HM.out.mono ?_; rintro e w1 ⟨rfl, rfl⟩)
        go_ret
        exact ⟨by rw [HF.out]; rfl, rfl⟩
    · have HF := Lib.hid (show sizeF n x = 0 by simp [sizeF, h1])
      have h1' : n < 1 := by omega
      clear hx
      go_enter Try.func250, Try.ntmps250
      go_wp2_with (go_at_call 312; refine HM.out.mono ?_; rintro e w1 ⟨rfl, rfl⟩)
      go_ret
      exact ⟨by rw [HF.out]; rfl, rfl⟩

set_option maxHeartbeats 800000 in
theorem top_ok (x : Nat) (hx : x ≤ 15) (w : World) : Calls Try.prog 328 #[.int .i64 x] w fun e w' => e = .returned (.int .i64 ((2 ^ x : Nat) : Int)) ∧ w = w' := by
  have hp : ∀ k, k ≤ x → 2 ^ k ≤ 32768 := fun k hk => Nat.le_trans (Nat.pow_le_pow_right (by omega) (show k ≤ 15 by omega)) (by decide)
  go_enter Try.func328, Try.ntmps328
  go_wp2
  go_loopw [3, 4] (fun v i wr => ∃ k q : Nat, k ≤ x ∧ q ≤ 32768 ∧ v = .int .i64 q ∧ i = .int .i64 k ∧ Hid (q = 2 ^ k) ∧ w = wr) (fun _ i _ => x - (intOf i).toNat)
  case atStart => exact ⟨0, 1, by omega, by omega, rfl, rfl, Lib.hid rfl, rfl⟩
  case round =>
    obtain ⟨k, q, hk, hq, rfl, rfl, HQ, rfl⟩ := hrel
    by_cases hlt : k < x
    · have h2 := hp (k + 1) (by omega)
      have HP := Lib.hid (show 2 * q = 2 ^ (k + 1) by rw [HQ.out, Nat.pow_succ, Nat.mul_comm])
      have h3 : 2 * q ≤ 32768 := by rw [HP.out]; exact h2
      clear h2 hp
      go_wp2
      go_roundw
      case rel => exact ⟨k + 1, 2 * q, by omega, h3, by go_num, by go_num, HP, trivial⟩
      case measure => simp [intOf]; omega
    · obtain rfl : k = x := by omega
      go_wp2
      go_ret
      exact ⟨by rw [HQ.out]; rfl, rfl⟩

set_option maxHeartbeats 1600000 in
theorem refsize_any (n x : Int) (w : World) : Calls Try.prog 247 #[.int .i64 n, .int .i64 x] w fun e w' => e = .returned (.int .i64 (sizeF n x)) ∧ w = w' := by
  cases hx : okW x
  · have HF := Lib.hid (show sizeF n x = 0 by simp [sizeF, hx])
    obtain ⟨h1, h2⟩ := okW_not hx
    have h1 : ¬ x = 11 := h1
    have h2 : ¬ x = 15 := h2
    clear hx
    go_enter Try.func247, Try.ntmps247
    go_wp2
    go_ret
    exact ⟨by rw [HF.out]; rfl, rfl⟩
  · by_cases h1 : 1 ≤ n
    · by_cases h2 : n ≤ 23
      · have HF := Lib.hid (show sizeF n x = (n * (1 + x) + 7) / 8 by simp [sizeF, hx, h1, h2])
        have h1' : ¬ n < 1 := by omega
        have h2' : ¬ 23 < n := by omega
        rcases okW_nat hx with rfl | rfl
        · clear hx
          go_enter Try.func247, Try.ntmps247
          go_wp2
          go_loopw [5] (fun v wr => ∃ k : Nat, k ≤ 46 ∧ v = .int .i64 k ∧ Hid ((k : Int) ≤ sizeF n 11) ∧ w = wr) (fun v _ => 46 - (intOf v).toNat)
          case atStart => exact ⟨0, by omega, rfl, Lib.hid (by rw [HF.out]; omega), rfl⟩
          case round =>
            obtain ⟨k, hk, rfl, HK, rfl⟩ := hrel
            have hks := HK.out
            rw [HF.out] at hks
            by_cases hlt : 8 * (k : Int) < n * 12
            · go_wp2
              go_roundw
              case rel => exact ⟨k + 1, by omega, by go_num, Lib.hid (by rw [HF.out]; omega), trivial⟩
              case measure => simp [intOf]; omega
            · go_wp2
              go_ret
              exact ⟨ret_int (by rw [HF.out]; omega), rfl⟩
        · clear hx
          go_enter Try.func247, Try.ntmps247
          go_wp2
          go_loopw [5] (fun v wr => ∃ k : Nat, k ≤ 46 ∧ v = .int .i64 k ∧ Hid ((k : Int) ≤ sizeF n 15) ∧ w = wr) (fun v _ => 46 - (intOf v).toNat)
          case atStart => exact ⟨0, by omega, rfl, Lib.hid (by rw [HF.out]; omega), rfl⟩
          case round =>
            obtain ⟨k, hk, rfl, HK, rfl⟩ := hrel
            have hks := HK.out
            rw [HF.out] at hks
            by_cases hlt : 8 * (k : Int) < n * 16
            · go_wp2
              go_roundw
              case rel => exact ⟨k + 1, by omega, by go_num, Lib.hid (by rw [HF.out]; omega), trivial⟩
              case measure => simp [intOf]; omega
            · go_wp2
              go_ret
              exact ⟨ret_int (by rw [HF.out]; omega), rfl⟩
      · have HF := Lib.hid (show sizeF n x = 0 by simp [sizeF, h2])
        have h1' : ¬ n < 1 := by omega
        have h2' : 23 < n := by omega
        rcases okW_nat hx with rfl | rfl
        all_goals
          clear hx
          go_enter Try.func247, Try.ntmps247
          go_wp2
          go_ret
          exact ⟨by rw [HF.out]; rfl, rfl⟩
    · have HF := Lib.hid (show sizeF n x = 0 by simp [sizeF, h1])
      have h1' : n < 1 := by omega
      rcases okW_nat hx with rfl | rfl
      all_goals
        clear hx
        go_enter Try.func247, Try.ntmps247
        go_wp2
        go_ret
        exact ⟨by rw [HF.out]; rfl, rfl⟩
end Go.Proofs.Ytgdpjaojlhdhdaa
namespace Go.Proofs.Ytgdpjaojlhdhdaa
open Go.RowKit

def okS (w : Int) : Bool := (w == 10) || (w == 16)
theorem okS_nat {w : Int} (h : okS w = true) : w = 10 ∨ w = 16 := by simpa [okS] using h
theorem okS_not {w : Int} (h : okS w = false) : w ≠ 10 ∧ w ≠ 16 := by simpa [okS] using h
/-- how many bits a place has -/
def pbF (w : Int) : Int := if w = 10 then 15 else 16
/-- a place whose bits are all ones -/
def onF (w : Int) : Int := if w = 10 then 32767 else 65535
set_option maxHeartbeats 400000 in
theorem smay_any (x : Int) (w : World) : Calls Try.prog 348 #[.int .i64 x] w fun e w' => e = .returned (.bool (okS x)) ∧ w = w' := by
  by_cases h1 : x = 10
  · subst h1
    go_enter Try.func348, Try.ntmps348
    go_wp2
    go_ret
    exact ⟨rfl, rfl⟩
  · by_cases h2 : x = 16
    · subst h2
      go_enter Try.func348, Try.ntmps348
      go_wp2
      go_ret
      exact ⟨rfl, rfl⟩
    · have h1' : (x == 10) = false := by simpa using h1
      have h2' : (x == 16) = false := by simpa using h2
      have HX := Lib.hid (show okS x = false by simp [okS, h1, h2])
      clear h1 h2
      go_enter Try.func348, Try.ntmps348
      go_wp2
      go_ret
      exact ⟨by rw [HX.out]; rfl, rfl⟩
set_option maxHeartbeats 400000 in
theorem splace_any (x : Int) (w : World) : Calls Try.prog 349 #[.int .i64 x] w fun e w' => e = .returned (.int .i64 (pbF x)) ∧ w = w' := by
  by_cases h1 : x = 10
  · subst h1
    go_enter Try.func349, Try.ntmps349
    go_wp2
    go_ret
    exact ⟨rfl, rfl⟩
  · have h1' : (x == 10) = false := by simpa using h1
    have HX := Lib.hid (show pbF x = 16 by simp [pbF, h1])
    clear h1
    go_enter Try.func349, Try.ntmps349
    go_wp2
    go_ret
    exact ⟨by rw [HX.out]; rfl, rfl⟩
set_option maxHeartbeats 400000 in
theorem sones_any (x : Int) (w : World) : Calls Try.prog 351 #[.int .i64 x] w fun e w' => e = .returned (.int .i64 (onF x)) ∧ w = w' := by
  have HP := Lib.hid (splace_any x w)
  by_cases h1 : x = 10
  · have HX := Lib.hid (show pbF x = 15 ∧ onF x = 32767 by simp [pbF, onF, h1])
    rw [HX.out.1] at HP
    rw [HX.out.2]
    clear h1
    go_enter Try.func351, Try.ntmps351
    go_wp2_with (go_at_call 349; refine HP.out.mono ?_; rintro e w1 ⟨rfl, rfl⟩)
    go_ret
    exact ⟨rfl, rfl⟩
  · have HX := Lib.hid (show pbF x = 16 ∧ onF x = 65535 by simp [pbF, onF, h1])
    rw [HX.out.1] at HP
    rw [HX.out.2]
    clear h1
    go_enter Try.func351, Try.ntmps351
    go_wp2_with (go_at_call 349; refine HP.out.mono ?_; rintro e w1 ⟨rfl, rfl⟩)
    go_ret
    exact ⟨rfl, rfl⟩
/-- the number that stands for a part's end -/
def lastF (to w : Int) : Int := if to = 0 then onF w else to - 1
/-- the end for which a number stands -/
def endF (l w : Int) : Int := if l = onF w then 0 else l + 1
set_option maxHeartbeats 400000 in
theorem send_any (l x : Int) (w : World) (h0 : 0 ≤ l) (h1 : l ≤ 65535) : Calls Try.prog 350 #[.int .i64 l, .int .i64 x] w fun e w' => e = .returned (.int .i64 (endF l x)) ∧ w = w' := by
  have HP := Lib.hid (sones_any x w)
  by_cases ht : l = onF x
  · have HX := Lib.hid (show endF l x = 0 by simp [endF, ht])
    have ht' : (l == onF x) = true := by simpa using ht
    generalize onF x = o at *
    clear ht
    go_enter Try.func350, Try.ntmps350
    go_wp2_with (go_at_call 351; refine HP.out.mono ?_; rintro e w1 ⟨rfl, rfl⟩)
    go_ret
    exact ⟨by rw [HX.out]; rfl, rfl⟩
  · have HX := Lib.hid (show endF l x = l + 1 by simp [endF, ht])
    have ht' : (l == onF x) = false := by simpa using ht
    generalize onF x = o at *
    clear ht
    go_enter Try.func350, Try.ntmps350
    go_wp2_with (go_at_call 351; refine HP.out.mono ?_; rintro e w1 ⟨rfl, rfl⟩)
    go_ret
    exact ⟨by rw [HX.out]; rfl, rfl⟩
end Go.Proofs.Ytgdpjaojlhdhdaa
namespace Go.Proofs.Ytgdpjaojlhdhdaa
open Go.RowKit

def rt (b : Int) : Bool := decide (1 ≤ b ∧ b ≤ 16)
def sz (b : Int) : Int := if rt b then 2 ^ b.toNat else 0
def okn (b n : Int) : Bool := decide (0 ≤ n ∧ n < sz b)

theorem rt_true {b : Int} (h : rt b = true) : 1 ≤ b ∧ b ≤ 16 := of_decide_eq_true h
theorem rt_false {b : Int} (h : rt b = false) : b < 1 ∨ 16 < b := by have := of_decide_eq_false h; omega
theorem rt_of {b : Int} (h1 : 1 ≤ b) (h2 : b ≤ 16) : rt b = true := decide_eq_true ⟨h1, h2⟩
theorem rt_not {b : Int} (h : b < 1 ∨ 16 < b) : rt b = false := decide_eq_false (by omega)
theorem sz_cases {b : Int} (h : rt b = true) : sz b = 2 ∨ sz b = 4 ∨ sz b = 8 ∨ sz b = 16 ∨ sz b = 32 ∨ sz b = 64 ∨ sz b = 128 ∨ sz b = 256 ∨ sz b = 512 ∨ sz b = 1024 ∨ sz b = 2048 ∨ sz b = 4096 ∨ sz b = 8192 ∨ sz b = 16384 ∨ sz b = 32768 ∨ sz b = 65536 := by
  obtain ⟨h1, h2⟩ := rt_true h
  unfold sz
  rw [if_pos h]
  obtain rfl | rfl | rfl | rfl | rfl | rfl | rfl | rfl | rfl | rfl | rfl | rfl | rfl | rfl | rfl | rfl : b = 1 ∨ b = 2 ∨ b = 3 ∨ b = 4 ∨ b = 5 ∨ b = 6 ∨ b = 7 ∨ b = 8 ∨ b = 9 ∨ b = 10 ∨ b = 11 ∨ b = 12 ∨ b = 13 ∨ b = 14 ∨ b = 15 ∨ b = 16 := by omega
  all_goals simp
theorem sz_zero {b : Int} (h : rt b = false) : sz b = 0 := by unfold sz; rw [h]; rfl


set_option maxHeartbeats 400000 in
theorem sqright_any (b : Int) (w : World) :
    Calls Try.prog 298 #[.agg #[.int .i64 b]] w fun e w' => e = .returned (.bool (rt b)) ∧ Below w.heap.size w w' := by
  go_enter Try.func298, Try.ntmps298
  go_wp2
  go_loop [4] (fun i => ∃ k : Nat, k ≤ 16 ∧ i = .int .i64 k ∧ (b < 1 ∨ k < b)) (fun i => 16 - (intOf i).toNat)
  case atStart => exact ⟨0, by omega, rfl, by omega⟩
  case round =>
    obtain ⟨k, hk, rfl, hb⟩ := hrel
    go_wp2
    · go_ret
      exact ⟨ret_bool (rt_of (by omega) (by omega)).symm, (Below.refl _ _).alloc (Nat.le_refl _) _⟩
    · go_round
      case rel => exact ⟨k + 1, by omega, by go_num, by omega⟩
      case measure => simp [intOf]; omega
    · go_ret
      exact ⟨ret_bool (rt_not (by omega)).symm, (Below.refl _ _).alloc (Nat.le_refl _) _⟩



set_option maxHeartbeats 400000 in
theorem sqsize_any (b : Int) (w : World) :
    Calls Try.prog 192 #[.agg #[.int .i64 b]] w fun e w' => e = .returned (.int .i64 (sz b)) ∧ Below w.heap.size w w' := by
  cases hr : rt b
  · rw [sz_zero hr]
    have H := Lib.hid hr
    clear hr
    go_enter Try.func192, Try.ntmps192
    go_wp2_with (go_at_call 298; refine (sqright_any _ _).mono ?_; rintro e w1 ⟨rfl, hb⟩; rw [H.out])
    go_ret
    exact ⟨rfl, ((Below.refl _ _).alloc (Nat.le_refl _) _).trans (hb.mono (by simp))⟩
  · have hs := sz_cases hr
    obtain ⟨h1, h2⟩ := rt_true hr
    have hs : sz b = 2 ^ b.toNat := by unfold sz; rw [if_pos hr]
    have Hs := Lib.hid hs
    have H := Lib.hid hr
    clear hr hs
    go_enter Try.func192, Try.ntmps192
    go_wp2_with (go_at_call 298; refine (sqright_any _ _).mono ?_; rintro e w1 ⟨rfl, hb⟩; obtain ⟨hc, hf⟩ := bcell hb; rw [H.out])
    go_ret
    have hw : wrap64 (2 ^ b.toNat) = 2 ^ b.toNat := by rw [← Hs.out]; exact IntWalk.wrap64_in _ ⟨by omega, by omega⟩
    exact ⟨ret_int (hw.trans Hs.out.symm), ((Below.refl _ _).alloc (Nat.le_refl _) _).trans (hb.mono (by simp))⟩

theorem sz_bd (b : Int) : 0 ≤ sz b ∧ sz b ≤ 65536 := by
  cases h : rt b
  · rw [sz_zero h]; omega
  · have := sz_cases h; omega

set_option maxHeartbeats 400000 in
theorem sqis_any (b n : Int) (w : World) :
    Calls Try.prog 185 #[.agg #[.int .i64 b], .int .i64 n] w fun e w' => e = .returned (.bool (okn b n)) ∧ Below w.heap.size w w' := by
  by_cases hn : 0 ≤ n
  · have ho : okn b n = decide (n < sz b) := by unfold okn; simp [hn]
    have H := Lib.hid ho
    clear ho
    go_enter Try.func185, Try.ntmps185
    go_wp2_with (go_at_call 192; refine (sqsize_any _ _).mono ?_; rintro e w1 ⟨rfl, hb⟩)
    go_ret
    exact ⟨ret_bool H.out.symm, ((Below.refl _ _).alloc (Nat.le_refl _) _).trans (hb.mono (by simp))⟩
  · have ho : okn b n = false := decide_eq_false (by omega)
    have H := Lib.hid ho
    clear ho
    go_enter Try.func185, Try.ntmps185
    go_wp2
    go_ret
    exact ⟨ret_bool H.out.symm, ((Below.refl _ _).alloc (Nat.le_refl _) _)⟩

set_option maxHeartbeats 400000 in
theorem rsize_any (b : Int) (w : World) :
    Calls Try.prog 59 #[.int .i64 b] w fun e w' => e = .returned (.int .i64 (sz b)) ∧ w = w' := by
  cases hr : rt b
  · rw [sz_zero hr]
    have hb := rt_false hr
    clear hr
    by_cases h1 : b < 1
    · go_enter Try.func59, Try.ntmps59
      go_wp2
      go_ret
      exact ⟨rfl, rfl⟩
    · have h2 : 16 < b := by omega
      go_enter Try.func59, Try.ntmps59
      go_wp2
      go_ret
      exact ⟨rfl, rfl⟩
  · obtain ⟨h1, h2⟩ := rt_true hr
    have hs : sz b = 2 ^ b.toNat := by unfold sz; rw [if_pos hr]
    have Hs := Lib.hid hs
    clear hr hs
    go_enter Try.func59, Try.ntmps59
    go_wp2
    go_loop [3, 4] (fun v i => ∃ k n : Nat, (k : Int) ≤ b ∧ i = .int .i64 k ∧ v = .int .i64 n ∧ Hid (n = 2 ^ k) ∧ n ≤ 65536) (fun _ i => (b - intOf i).toNat)
    case atStart => exact ⟨0, 1, by omega, rfl, rfl, Lib.hid rfl, by omega⟩
    case round =>
      obtain ⟨k, n, hk, rfl, rfl, hn, hnb⟩ := hrel
      by_cases hlt : (k : Int) < b
      · go_wp2
        go_round
        case rel =>
          have e := hn.out
          have h15 : n ≤ 2 ^ 15 := by rw [e]; exact Nat.pow_le_pow_right (by omega) (by omega)
          exact ⟨k + 1, 2 * n, by omega, by go_num, by go_num, Lib.hid (by rw [e, Nat.pow_succ]; omega), by omega⟩
        case measure => simp [intOf]; omega
      · go_wp2
        go_ret
        have hkb : b.toNat = k := by omega
        exact ⟨ret_int (by rw [Hs.out, hkb, hn.out]; simp), rfl⟩

set_option maxHeartbeats 400000 in
theorem ris_any (b n : Int) (w : World) :
    Calls Try.prog 180 #[.int .i64 b, .int .i64 n] w fun e w' => e = .returned (.bool (okn b n)) ∧ w = w' := by
  by_cases hn : 0 ≤ n
  · have ho : okn b n = decide (n < sz b) := by unfold okn; simp [hn]
    have H := Lib.hid ho
    clear ho
    go_enter Try.func180, Try.ntmps180
    go_wp2_with (go_at_call 59; refine (rsize_any _ _).mono ?_; rintro e w1 ⟨rfl, rfl⟩)
    go_ret
    exact ⟨ret_bool H.out.symm, rfl⟩
  · have ho : okn b n = false := decide_eq_false (by omega)
    have H := Lib.hid ho
    clear ho
    go_enter Try.func180, Try.ntmps180
    go_wp2
    go_ret
    exact ⟨ret_bool H.out.symm, rfl⟩

end Go.Proofs.Ytgdpjaojlhdhdaa
namespace Go.Proofs.Ytgdpjaojlhdhdaa
open Go.RowKit

structure MissM where
  sn : Int
  part : Bool
  fr : Int
  to : Int
def MissM.v (m : MissM) : Value := .agg #[.int .i64 m.sn, .bool m.part, .int .i64 m.fr, .int .i64 m.to]
def placedB (m : MissM) (w : Int) : Bool :=
  if m.part then (if m.to = 0 then decide (0 ≤ m.fr) && decide (m.fr ≤ onF w) else decide (0 ≤ m.fr) && decide (m.fr < m.to) && decide (m.to ≤ onF w)) else (m.fr == 0) && (m.to == 0)
set_option maxHeartbeats 400000 in
theorem splaced_no (sn fr to x : Int) (w : World) : Calls Try.prog 337 #[.agg #[.int .i64 sn, .bool false, .int .i64 fr, .int .i64 to], .int .i64 x] w fun e w' => e = .returned (.bool ((fr == 0) && (to == 0))) ∧ Below w.heap.size w w' := by
  go_enter Try.func337, Try.ntmps337
  go_wp2
  all_goals
    go_ret
    exact ⟨ret_bool (by simp [*]), bl_alloc (Below.refl _ _) _⟩
set_option maxHeartbeats 800000 in
theorem splaced_e0 (sn fr x : Int) (w : World) (g0 : decide (0 ≤ fr) = false) : Calls Try.prog 337 #[.agg #[.int .i64 sn, .bool true, .int .i64 fr, .int .i64 0], .int .i64 x] w fun e w' => e = .returned (.bool false) ∧ Below w.heap.size w w' := by
  have HP := Lib.hid (fun W => sones_any x W)
  have HB0 := Lib.hid (bl_alloc (Below.refl w.heap.size w) (.cells #[.int .i64 sn, .bool true, .int .i64 fr, .int .i64 0] 378))
  generalize onF x = o at *
  go_enter Try.func337, Try.ntmps337
  go_wp2_with fail
  go_quiet ((go_at_call 351; exact Calls.quiet_of_same ((HP.out _).mono fun e w' h => ⟨h.1, h.2.symm⟩)))
  go_wp2
  go_ret
  exact ⟨rfl, below_drewN HB0.out _⟩
set_option maxHeartbeats 800000 in
theorem splaced_e1 (sn fr x : Int) (w : World) (g0 : decide (0 ≤ fr) = true) (g1 : decide (fr ≤ onF x) = true) : Calls Try.prog 337 #[.agg #[.int .i64 sn, .bool true, .int .i64 fr, .int .i64 0], .int .i64 x] w fun e w' => e = .returned (.bool true) ∧ Below w.heap.size w w' := by
  have HP := Lib.hid (fun W => sones_any x W)
  have HB0 := Lib.hid (bl_alloc (Below.refl w.heap.size w) (.cells #[.int .i64 sn, .bool true, .int .i64 fr, .int .i64 0] 378))
  generalize onF x = o at *
  go_enter Try.func337, Try.ntmps337
  go_wp2_with fail
  go_quiet ((go_at_call 351; exact Calls.quiet_of_same ((HP.out _).mono fun e w' h => ⟨h.1, h.2.symm⟩)))
  go_wp2
  go_ret
  exact ⟨rfl, below_drewN HB0.out _⟩
set_option maxHeartbeats 800000 in
theorem splaced_e2 (sn fr x : Int) (w : World) (g0 : decide (0 ≤ fr) = true) (g1 : decide (fr ≤ onF x) = false) : Calls Try.prog 337 #[.agg #[.int .i64 sn, .bool true, .int .i64 fr, .int .i64 0], .int .i64 x] w fun e w' => e = .returned (.bool false) ∧ Below w.heap.size w w' := by
  have HP := Lib.hid (fun W => sones_any x W)
  have HB0 := Lib.hid (bl_alloc (Below.refl w.heap.size w) (.cells #[.int .i64 sn, .bool true, .int .i64 fr, .int .i64 0] 378))
  generalize onF x = o at *
  go_enter Try.func337, Try.ntmps337
  go_wp2_with fail
  go_quiet ((go_at_call 351; exact Calls.quiet_of_same ((HP.out _).mono fun e w' h => ⟨h.1, h.2.symm⟩)))
  go_wp2
  go_ret
  exact ⟨rfl, below_drewN HB0.out _⟩
set_option maxHeartbeats 800000 in
theorem splaced_m0 (sn fr to x : Int) (w : World) (hz : (to == 0) = false) (g0 : decide (0 ≤ fr) = false) : Calls Try.prog 337 #[.agg #[.int .i64 sn, .bool true, .int .i64 fr, .int .i64 to], .int .i64 x] w fun e w' => e = .returned (.bool false) ∧ Below w.heap.size w w' := by
  have HP := Lib.hid (fun W => sones_any x W)
  have HB0 := Lib.hid (bl_alloc (Below.refl w.heap.size w) (.cells #[.int .i64 sn, .bool true, .int .i64 fr, .int .i64 to] 378))
  generalize onF x = o at *
  go_enter Try.func337, Try.ntmps337
  go_wp2_with fail
  go_quiet ((go_at_call 351; exact Calls.quiet_of_same ((HP.out _).mono fun e w' h => ⟨h.1, h.2.symm⟩)))
  go_wp2
  go_ret
  exact ⟨rfl, below_drewN HB0.out _⟩
set_option maxHeartbeats 800000 in
theorem splaced_m1 (sn fr to x : Int) (w : World) (hz : (to == 0) = false) (g0 : decide (0 ≤ fr) = true) (g1 : decide (fr < to) = false) : Calls Try.prog 337 #[.agg #[.int .i64 sn, .bool true, .int .i64 fr, .int .i64 to], .int .i64 x] w fun e w' => e = .returned (.bool false) ∧ Below w.heap.size w w' := by
  have HP := Lib.hid (fun W => sones_any x W)
  have HB0 := Lib.hid (bl_alloc (Below.refl w.heap.size w) (.cells #[.int .i64 sn, .bool true, .int .i64 fr, .int .i64 to] 378))
  generalize onF x = o at *
  go_enter Try.func337, Try.ntmps337
  go_wp2_with fail
  go_quiet ((go_at_call 351; exact Calls.quiet_of_same ((HP.out _).mono fun e w' h => ⟨h.1, h.2.symm⟩)))
  go_wp2
  go_ret
  exact ⟨rfl, below_drewN HB0.out _⟩
set_option maxHeartbeats 800000 in
theorem splaced_m2 (sn fr to x : Int) (w : World) (hz : (to == 0) = false) (g0 : decide (0 ≤ fr) = true) (g1 : decide (fr < to) = true) (g2 : decide (to ≤ onF x) = true) : Calls Try.prog 337 #[.agg #[.int .i64 sn, .bool true, .int .i64 fr, .int .i64 to], .int .i64 x] w fun e w' => e = .returned (.bool true) ∧ Below w.heap.size w w' := by
  have HP := Lib.hid (fun W => sones_any x W)
  have HB0 := Lib.hid (bl_alloc (Below.refl w.heap.size w) (.cells #[.int .i64 sn, .bool true, .int .i64 fr, .int .i64 to] 378))
  generalize onF x = o at *
  go_enter Try.func337, Try.ntmps337
  go_wp2_with fail
  go_quiet ((go_at_call 351; exact Calls.quiet_of_same ((HP.out _).mono fun e w' h => ⟨h.1, h.2.symm⟩)))
  go_wp2
  go_ret
  exact ⟨rfl, below_drewN HB0.out _⟩
set_option maxHeartbeats 800000 in
theorem splaced_m3 (sn fr to x : Int) (w : World) (hz : (to == 0) = false) (g0 : decide (0 ≤ fr) = true) (g1 : decide (fr < to) = true) (g2 : decide (to ≤ onF x) = false) : Calls Try.prog 337 #[.agg #[.int .i64 sn, .bool true, .int .i64 fr, .int .i64 to], .int .i64 x] w fun e w' => e = .returned (.bool false) ∧ Below w.heap.size w w' := by
  have HP := Lib.hid (fun W => sones_any x W)
  have HB0 := Lib.hid (bl_alloc (Below.refl w.heap.size w) (.cells #[.int .i64 sn, .bool true, .int .i64 fr, .int .i64 to] 378))
  generalize onF x = o at *
  go_enter Try.func337, Try.ntmps337
  go_wp2_with fail
  go_quiet ((go_at_call 351; exact Calls.quiet_of_same ((HP.out _).mono fun e w' h => ⟨h.1, h.2.symm⟩)))
  go_wp2
  go_ret
  exact ⟨rfl, below_drewN HB0.out _⟩
theorem splaced_any (m : MissM) (x : Int) (w : World) : Calls Try.prog 337 #[m.v, .int .i64 x] w fun e w' => e = .returned (.bool (placedB m x)) ∧ Below w.heap.size w w' := by
  obtain ⟨sn, part, fr, to⟩ := m
  unfold MissM.v placedB
  cases part
  · exact splaced_no sn fr to x w
  · simp only [if_true]
    by_cases hz : to = 0
    · subst hz
      simp only [if_true]
      cases g0 : decide (0 ≤ fr)
      · exact splaced_e0 sn fr x w g0
      · cases g1 : decide (fr ≤ onF x)
        · exact splaced_e2 sn fr x w g0 g1
        · exact splaced_e1 sn fr x w g0 g1
    · rw [if_neg hz]
      have hz' : (to == 0) = false := by simpa using hz
      cases g0 : decide (0 ≤ fr)
      · exact splaced_m0 sn fr to x w hz' g0
      · cases g1 : decide (fr < to)
        · exact splaced_m1 sn fr to x w hz' g0 g1
        · cases g2 : decide (to ≤ onF x)
          · exact splaced_m3 sn fr to x w hz' g0 g1 g2
          · exact splaced_m2 sn fr to x w hz' g0 g1 g2
end Go.Proofs.Ytgdpjaojlhdhdaa
