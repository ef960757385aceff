/-
  What a reader does: Get.
-/
import Derived.Test.YtdklddpkklodnaaBitsRead
namespace Go.Proofs.Ytdklddpkklodnaa
open Go.RowKit

/-- m bits from bit i on -/
def seg (bs : List Nat) (i m : Nat) : List Bool := ((bitsOf bs).drop i).take m
theorem length_seg {bs : List Nat} {i m : Nat} (h : i + m ≤ 8 * bs.length) : (seg bs i m).length = m := by
  unfold seg
  rw [List.length_take, List.length_drop, length_bitsOf]
  omega
theorem seg_zero (bs : List Nat) (i : Nat) : seg bs i 0 = [] := by simp [seg]
theorem seg_succ {bs : List Nat} {i m : Nat} (h : i + m < 8 * bs.length) : seg bs i (m + 1) = seg bs i m ++ [bitAt bs (i + m)] := by
  unfold seg bitAt
  have hl : i + m < (bitsOf bs).length := by rw [length_bitsOf]; exact h
  have hd : m < ((bitsOf bs).drop i).length := by rw [List.length_drop]; omega
  rw [List.take_succ_eq_append_getElem hd, List.getElem_drop, List.getD_eq_getElem?_getD, List.getElem?_eq_getElem hl]
  rfl
theorem val_seg_succ {bs : List Nat} {i m : Nat} (h : i + m < 8 * bs.length) : val (seg bs i (m + 1)) = 2 * val (seg bs i m) + (bitAt bs (i + m)).toNat := by
  rw [seg_succ h, val_snoc]

set_option maxHeartbeats 400000 in
theorem get_nil (n : Int) (w : World) : Calls Try.prog 55 #[.pointer none, .int .i64 n] w fun e w' => e = .returned (.tuple #[.int .u64 0, .int .i64 6]) ∧ w = w' := by
  go_enter Try.func55, Try.ntmps55
  go_wp2
  go_step3
  go_wp2
  rw [Exit.noGoto_ret]
  go_ret2
  exact ⟨rfl, rfl⟩
set_option maxHeartbeats 400000 in
theorem get_arg (p : Nat) (n : Int) (w : World) (h : mayB n = false) : Calls Try.prog 55 #[.pointer (some ⟨p, 0, none⟩), .int .i64 n] w fun e w' => e = .returned (.tuple #[.int .u64 0, .int .i64 1]) ∧ w = w' := by
  have H := Lib.hid h
  clear h
  go_enter Try.func55, Try.ntmps55
  go_wp2
  go_step3
  go_wp2_with (go_at_call 71; refine (mayBe_any _ _).mono ?_; rintro e w1 ⟨rfl, rfl⟩; rw [H.out])
  rw [Exit.noGoto_ret]
  go_ret2
  exact ⟨rfl, rfl⟩
set_option maxHeartbeats 400000 in
theorem get_short {p g : Nat} {bs : List Nat} {i : Nat} (n : Nat) (w : World) (hr : RRep w p g bs i) (hn : n ≤ 64) (h : 8 * bs.length - i < n) :
    Calls Try.prog 55 #[.pointer (some ⟨p, 0, none⟩), .int .i64 n] w fun e w' => e = .returned (.tuple #[.int .u64 0, .int .i64 8]) ∧ Below w.heap.size w w' := by
  have HR := Lib.hid hr
  clear hr
  go_enter Try.func55, Try.ntmps55
  go_wp2
  go_step3
  go_wp2_with (first
    | (go_at_call 71; refine (mayBe_yes _ _ (by omega) (by omega)).mono ?_; rintro e w1 ⟨rfl, rfl⟩)
    | (go_at_call 86; refine (left_any HR.out).mono ?_; rintro e w2 ⟨rfl, hb⟩))
  rw [Exit.noGoto_ret]
  go_ret2
  exact ⟨rfl, hb⟩

/-- a reader has got the first m bits -/
def Getting (w : World) (p g : Nat) (bs : List Nat) (i m : Nat) (w' : World) : Prop := RRep w' p g bs (i + m) ∧ Only (fun k => k = p) w w'

theorem or_u64 (V : Nat) (hV : V < 9223372036854775808) (bit : Bool) : bits .or .u64 (IntKind.u64.wrap ((V : Int) * 2)) (IntKind.u64.wrap (bit.toNat : Int)) = ((2 * V + bit.toNat : Nat) : Int) := by
  have h1 : IntKind.u64.wrap ((V : Int) * 2) = ((2 * V : Nat) : Int) := by
    rw [IntKind.wrap_u64]
    omega
  have h2 : bit.toNat < 2 := by cases bit <;> decide
  have h4 : IntKind.u64.wrap (bit.toNat : Int) = (bit.toNat : Int) := by
    rw [IntKind.wrap_u64]
    omega
  rw [h1, h4, u64_or_nat _ _ (by omega) (by omega)]
  have h3 := Nat.two_pow_add_eq_or_of_lt (i := 1) (b := bit.toNat) (by simpa using h2) V
  simp only [Nat.pow_one] at h3
  rw [← h3]
theorem or_u64_0 (bit : Bool) : bits .or .u64 0 (IntKind.u64.wrap (bit.toNat : Int)) = (bit.toNat : Int) := by
  have h := or_u64 0 (by omega) bit
  rw [show IntKind.u64.wrap (((0 : Nat) : Int) * 2) = 0 from rfl] at h
  rw [h]
  simp
theorem val_one {bs : List Nat} {i : Nat} (h : i < 8 * bs.length) : val (seg bs i 1) = (bitAt bs i).toNat := by
  have h1 := val_seg_succ (bs := bs) (i := i) (m := 0) (by omega)
  rw [seg_zero] at h1
  simpa [val_nil] using h1
theorem val_small {l : List Bool} (h : l.length ≤ 63) : val l < 9223372036854775808 :=
  Nat.lt_of_lt_of_le (val_lt l) (Nat.le_trans (Nat.pow_le_pow_right (by omega) h) (by decide))

set_option maxRecDepth 100000 in
set_option maxHeartbeats 1600000 in
theorem get_any {p g : Nat} {bs : List Nat} {i : Nat} (n : Nat) (w : World) (hr : RRep w p g bs i) (hn : n ≤ 64) (h : i + n ≤ 8 * bs.length) :
    Calls Try.prog 55 #[.pointer (some ⟨p, 0, none⟩), .int .i64 n] w fun e w' => e = .returned (.tuple #[.int .u64 (val (seg bs i n)), .int .i64 0]) ∧ Getting w p g bs i n w' := by
  have HR := Lib.hid hr
  have hle : 8 * bs.length ≤ 65536 := by have := hr.2.2.2.1; omega
  have hin : n ≤ 8 * bs.length - i := by omega
  clear hr
  go_enter Try.func55, Try.ntmps55
  go_wp2
  refine wp_scope_jumps 0 (fun a' w' => ∃ k : Nat, k ≤ n ∧ Fr [some (.pointer (some ⟨p, 0, none⟩)), some (.int .i64 k), none, none, none, none, some (.int .u64 (val (seg bs i (n - k)))), none, none, none, none, none, none, none, none, none, none, none, none, none, none, none, none, none, none, none, none, none, none, none, none, none, none, none, none, none, none, none, none, none, none] a' ∧ Getting w p g bs i (n - k) w') (fun a' _ => (intOf (a'.tmps.getD 1 undef)).toNat) rfl ?_ ?_
  · rcases Nat.eq_zero_or_pos n with hk0 | hk0
    · subst hk0
      go_wp2_with (first
        | (go_at_call 71; refine (mayBe_yes _ _ (by omega) (by omega)).mono ?_; rintro e w1 ⟨rfl, rfl⟩)
        | (go_at_call 86; refine (left_any HR.out).mono ?_; rintro e w2 ⟨rfl, hb⟩))
      go_step3
      go_wp2
      simp only [Exit.jump]
      go_ret2
      exact ⟨rfl, HR.out.later hb, .of_below hb⟩
    · go_wp2_with (first
        | (go_at_call 71; refine (mayBe_yes _ _ (by omega) (by omega)).mono ?_; rintro e w1 ⟨rfl, rfl⟩)
        | (go_at_call 86; refine (left_any HR.out).mono ?_; rintro e w2 ⟨rfl, hb⟩))
      go_step3
      have hrr := HR.out.later hb
      have hc1 : w2.cell? ⟨p, 1, none⟩ = some (.int .i64 i) := hrr.1.read rfl
      have hf1 := hrr.1.free 1
      have HRR := Lib.hid hrr
      have HO := Lib.hid (Only.of_below (S := fun k => k = p) hb)
      obtain ⟨j, rfl⟩ : ∃ j, n = j + 1 := ⟨n - 1, by omega⟩
      have hq : i < 8 * bs.length := by omega
      have hstep := Lib.hid (val_one hq)
      clear hb hrr
      go_wp2_with (go_at_call 87; refine (bit_any HRR.out hq).mono ?_; rintro e w1 ⟨rfl, rfl⟩)
      go_step3
      rw [or_u64_0, ← hstep.out]
      have e1 : j + 1 - j = 1 := by omega
      refine ⟨rfl, j, by omega, ?_, ?_, ?_⟩
      · rw [e1]
        simp only [Fr, Holes]
        repeat apply Exists.intro
        rfl
      · rw [e1]
        obtain ⟨h1, h2, h3, h4, h5⟩ := HRR.out
        exact ⟨h1.written 1 _, h2.elsewhere (p := ⟨p, 1, none⟩) (RRep.ne HRR.out) _, by omega, h4, h5⟩
      · exact HO.out.set (p := ⟨p, 1, none⟩) (.inl rfl) _
  · rintro a' w' ⟨k, hk, hfr, hget⟩
    simp only [Fr, Holes] at hfr
    repeat (obtain ⟨_, hfr⟩ := hfr)
    obtain ⟨hrr, ho⟩ := hget
    have hc1 : w'.cell? ⟨p, 1, none⟩ = some (.int .i64 ((i + (n - k) : Nat) : Int)) := hrr.1.read rfl
    have hf1 := hrr.1.free 1
    rcases Nat.eq_zero_or_pos k with hk0 | hk0
    · subst hk0
      clear hc1 hf1
      go_wp2
      simp only [Exit.jump]
      go_ret2
      exact ⟨rfl, hrr, ho⟩
    · obtain ⟨j, rfl⟩ : ∃ j, k = j + 1 := ⟨k - 1, by omega⟩
      have hstep := Lib.hid (val_seg_succ (bs := bs) (i := i) (m := n - (j + 1)) (by omega))
      have hV := Lib.hid (val_small (l := seg bs i (n - (j + 1))) (by rw [length_seg (by omega)]; omega))
      have e1 : n - (j + 1) + 1 = n - j := by omega
      rw [e1] at hstep
      have hq : i + (n - (j + 1)) < 8 * bs.length := by omega
      have hq2 : i + (n - j) = i + (n - (j + 1)) + 1 := by omega
      generalize val (seg bs i (n - (j + 1))) = V at *
      generalize i + (n - (j + 1)) = q at *
      have HQ := Lib.hid hq2
      have HO := Lib.hid ho
      have HRR := Lib.hid hrr
      have hor := or_u64 V hV.out (bitAt bs q)
      have HOR := Lib.hid hor
      clear e1 hq2 ho hrr hor
      go_wp2_with (go_at_call 87; refine (bit_any HRR.out hq).mono ?_; rintro e w1 ⟨rfl, rfl⟩)
      go_step3
      rw [HOR.out, ← hstep.out]
      refine ⟨rfl, ⟨j, by omega, ?_, ?_, ?_⟩, ?_⟩
      · simp only [Fr, Holes]
        repeat apply Exists.intro
        rfl
      · rw [HQ.out]
        obtain ⟨h1, h2, h3, h4, h5⟩ := HRR.out
        exact ⟨h1.written 1 _, h2.elsewhere (p := ⟨p, 1, none⟩) (RRep.ne HRR.out) _, by omega, h4, h5⟩
      · exact HO.out.set (p := ⟨p, 1, none⟩) (.inl rfl) _
      · simp [intOf]
end Go.Proofs.Ytdklddpkklodnaa
