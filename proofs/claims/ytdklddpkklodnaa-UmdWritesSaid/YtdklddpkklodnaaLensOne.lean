/-
  What one answers: the next length, and whether another one follows.
-/
import Derived.Test.YtdklddpkklodnaaLensOps
import Derived.Test.YtdklddpkklodnaaLensMath
import Derived.BigQuiet
import Derived.Laws.BitsAllLaws
namespace Go.Proofs.Ytdklddpkklodnaa
open Go.RowKit

theorem i64_and_nat (a b : Nat) (ha : a < 9223372036854775808) (hb : b < 9223372036854775808) : bits .and .i64 (a : Int) (b : Int) = ((a &&& b : Nat) : Int) := by
  have hx : a &&& b ≤ a := Nat.and_le_left
  show IntKind.i64.wrap ((BitVec.ofInt 64 (a : Int) &&& BitVec.ofInt 64 (b : Int)).toNat : Int) = _
  rw [BitVec.toNat_and, ofInt_u64 a (by omega), ofInt_u64 b (by omega), IntKind.wrap_i64]
  omega

theorem one_short_11 {p g : Nat} {bs : List Nat} {a : Nat} (w : World) (hr : RRep w p g bs a) (h : 8 * bs.length - a < 12) :
    Calls Try.prog 104 #[.pointer (some ⟨p, 0, none⟩), .int .i64 11] w fun e w' => e = .returned (.tuple #[.int .i64 0, .bool false, .int .i64 8]) ∧ Below w.heap.size w w' := by
  have HG := Lib.hid (show Calls Try.prog 55 #[.pointer (some ⟨p, 0, none⟩), .int .i64 12] w fun e w' => e = .returned (.tuple #[.int .u64 0, .int .i64 8]) ∧ Below w.heap.size w w' from get_short 12 w hr (by omega) h)
  clear hr h
  go_enter Try.func104, Try.ntmps104
  go_wp2_with (go_at_call 55; refine HG.out.mono ?_; rintro e w1 ⟨rfl, hb1⟩)
  exact bodyPost_ret (v := .tuple #[.int .i64 0, .bool false, .int .i64 8]) (by simp [results, Try.results104, go_sem]) rfl ⟨rfl, hb1⟩

set_option maxRecDepth 100000 in
set_option maxHeartbeats 800000 in
theorem one_ok_11 {p g : Nat} {bs : List Nat} {a : Nat} (w : World) (hr : RRep w p g bs a) (h : a + 12 ≤ 8 * bs.length) :
    Calls Try.prog 104 #[.pointer (some ⟨p, 0, none⟩), .int .i64 11] w fun e w' => e = .returned (if val (seg bs (a + 1) 11) = 0 then .tuple #[.int .i64 0, .bool false, .int .i64 3] else .tuple #[.int .i64 (val (seg bs (a + 1) 11)), .bool (bitAt bs a), .int .i64 0]) ∧ RRep w' p g bs (a + 12) ∧ Only (fun k => k = p) w w' := by
  have HG := Lib.hid (show Calls Try.prog 55 #[.pointer (some ⟨p, 0, none⟩), .int .i64 12] w fun e w' => e = .returned (.tuple #[.int .u64 (val (seg bs a 12)), .int .i64 0]) ∧ Getting w p g bs a 12 w' from get_any 12 w hr (by omega) h)
  have HL := fun W => longest_ok (x := 11) rfl W
  have hv : val (seg bs a 12) = (bitAt bs a).toNat * 2048 + val (seg bs (a + 1) 11) := by
    have h1 : seg bs a (1 + 11) = seg bs a 1 ++ seg bs (a + 1) 11 := by
      unfold seg
      rw [List.take_add, List.drop_drop]
    rw [show 12 = 1 + 11 from rfl, h1, val_append, val_one (by omega), length_seg (by omega)]
  have hn : val (seg bs (a + 1) 11) < 2048 := by
    have := val_lt (seg bs (a + 1) 11)
    rw [length_seg (by omega)] at this
    exact this
  generalize val (seg bs (a + 1) 11) = n at *
  generalize bitAt bs a = bit at *
  generalize val (seg bs a 12) = V at *
  have hV : V < 4096 := by cases bit <;> simp at hv <;> omega
  have hand : bits .and .i64 (V : Int) 2047 = (n : Int) := by
    have h1 := i64_and_nat V 2047 (by omega) (by omega)
    have h2 : V &&& 2047 = n := by
      rw [show 2047 = 2 ^ 11 - 1 from rfl, Nat.and_two_pow_sub_one_eq_mod]
      cases bit <;> simp at hv <;> omega
    rw [h2] at h1
    exact h1
  have hsh : ((V : Int) / 2048 == 1) = bit := by
    cases bit <;> simp at hv ⊢ <;> omega
  have HSH := Lib.hid hsh
  have hw1 : IntKind.i64.wrap (V : Int) = (V : Int) := by rw [IntKind.wrap_i64]; omega
  clear hr h hv hsh
  rcases Nat.eq_zero_or_pos n with h0 | h0
  · subst h0
    rw [if_pos rfl]
    go_enter Try.func104, Try.ntmps104
    go_wp2_with (first
      | (go_at_call 55; refine HG.out.mono ?_; rintro e w1 ⟨rfl, hr1, ho1⟩)
      | (go_at_call 107; refine (HL _).mono ?_; rintro e w2 ⟨rfl, rfl⟩))
    exact bodyPost_ret (v := .tuple #[.int .i64 0, .bool false, .int .i64 3]) (by simp [results, Try.results104, go_sem]) rfl ⟨rfl, hr1, ho1⟩
  · rw [if_neg (by omega)]
    have hn0 : ((n : Int) == 0) = false := by simp; omega
    go_enter Try.func104, Try.ntmps104
    go_wp2_with (first
      | (go_at_call 55; refine HG.out.mono ?_; rintro e w1 ⟨rfl, hr1, ho1⟩)
      | (go_at_call 107; refine (HL _).mono ?_; rintro e w2 ⟨rfl, rfl⟩))
    go_quiet (fail)
    go_wp2
    refine bodyPost_ret (v := .tuple #[.int .i64 n, .bool bit, .int .i64 0]) ?_ rfl ⟨rfl, hr1.later (below_drewN (Below.refl _ _) _), ho1.drewN _⟩
    rw [← HSH.out]
    simp [results, Try.results104, go_sem]

theorem one_short_15 {p g : Nat} {bs : List Nat} {a : Nat} (w : World) (hr : RRep w p g bs a) (h : 8 * bs.length - a < 16) :
    Calls Try.prog 104 #[.pointer (some ⟨p, 0, none⟩), .int .i64 15] w fun e w' => e = .returned (.tuple #[.int .i64 0, .bool false, .int .i64 8]) ∧ Below w.heap.size w w' := by
  have HG := Lib.hid (show Calls Try.prog 55 #[.pointer (some ⟨p, 0, none⟩), .int .i64 16] w fun e w' => e = .returned (.tuple #[.int .u64 0, .int .i64 8]) ∧ Below w.heap.size w w' from get_short 16 w hr (by omega) h)
  clear hr h
  go_enter Try.func104, Try.ntmps104
  go_wp2_with (go_at_call 55; refine HG.out.mono ?_; rintro e w1 ⟨rfl, hb1⟩)
  exact bodyPost_ret (v := .tuple #[.int .i64 0, .bool false, .int .i64 8]) (by simp [results, Try.results104, go_sem]) rfl ⟨rfl, hb1⟩

set_option maxRecDepth 100000 in
set_option maxHeartbeats 800000 in
theorem one_ok_15 {p g : Nat} {bs : List Nat} {a : Nat} (w : World) (hr : RRep w p g bs a) (h : a + 16 ≤ 8 * bs.length) :
    Calls Try.prog 104 #[.pointer (some ⟨p, 0, none⟩), .int .i64 15] w fun e w' => e = .returned (if val (seg bs (a + 1) 15) = 0 then .tuple #[.int .i64 0, .bool false, .int .i64 3] else .tuple #[.int .i64 (val (seg bs (a + 1) 15)), .bool (bitAt bs a), .int .i64 0]) ∧ RRep w' p g bs (a + 16) ∧ Only (fun k => k = p) w w' := by
  have HG := Lib.hid (show Calls Try.prog 55 #[.pointer (some ⟨p, 0, none⟩), .int .i64 16] w fun e w' => e = .returned (.tuple #[.int .u64 (val (seg bs a 16)), .int .i64 0]) ∧ Getting w p g bs a 16 w' from get_any 16 w hr (by omega) h)
  have HL := fun W => longest_ok (x := 15) rfl W
  have hv : val (seg bs a 16) = (bitAt bs a).toNat * 32768 + val (seg bs (a + 1) 15) := by
    have h1 : seg bs a (1 + 15) = seg bs a 1 ++ seg bs (a + 1) 15 := by
      unfold seg
      rw [List.take_add, List.drop_drop]
    rw [show 16 = 1 + 15 from rfl, h1, val_append, val_one (by omega), length_seg (by omega)]
  have hn : val (seg bs (a + 1) 15) < 32768 := by
    have := val_lt (seg bs (a + 1) 15)
    rw [length_seg (by omega)] at this
    exact this
  generalize val (seg bs (a + 1) 15) = n at *
  generalize bitAt bs a = bit at *
  generalize val (seg bs a 16) = V at *
  have hV : V < 65536 := by cases bit <;> simp at hv <;> omega
  have hand : bits .and .i64 (V : Int) 32767 = (n : Int) := by
    have h1 := i64_and_nat V 32767 (by omega) (by omega)
    have h2 : V &&& 32767 = n := by
      rw [show 32767 = 2 ^ 15 - 1 from rfl, Nat.and_two_pow_sub_one_eq_mod]
      cases bit <;> simp at hv <;> omega
    rw [h2] at h1
    exact h1
  have hsh : ((V : Int) / 32768 == 1) = bit := by
    cases bit <;> simp at hv ⊢ <;> omega
  have HSH := Lib.hid hsh
  have hw1 : IntKind.i64.wrap (V : Int) = (V : Int) := by rw [IntKind.wrap_i64]; omega
  clear hr h hv hsh
  rcases Nat.eq_zero_or_pos n with h0 | h0
  · subst h0
    rw [if_pos rfl]
    go_enter Try.func104, Try.ntmps104
    go_wp2_with (first
      | (go_at_call 55; refine HG.out.mono ?_; rintro e w1 ⟨rfl, hr1, ho1⟩)
      | (go_at_call 107; refine (HL _).mono ?_; rintro e w2 ⟨rfl, rfl⟩))
    exact bodyPost_ret (v := .tuple #[.int .i64 0, .bool false, .int .i64 3]) (by simp [results, Try.results104, go_sem]) rfl ⟨rfl, hr1, ho1⟩
  · rw [if_neg (by omega)]
    have hn0 : ((n : Int) == 0) = false := by simp; omega
    go_enter Try.func104, Try.ntmps104
    go_wp2_with (first
      | (go_at_call 55; refine HG.out.mono ?_; rintro e w1 ⟨rfl, hr1, ho1⟩)
      | (go_at_call 107; refine (HL _).mono ?_; rintro e w2 ⟨rfl, rfl⟩))
    go_quiet (fail)
    go_wp2
    refine bodyPost_ret (v := .tuple #[.int .i64 n, .bool bit, .int .i64 0]) ?_ rfl ⟨rfl, hr1.later (below_drewN (Below.refl _ _) _), ho1.drewN _⟩
    rw [← HSH.out]
    simp [results, Try.results104, go_sem]
end Go.Proofs.Ytdklddpkklodnaa
