/-
  A bit added to a writer. Numbers put into a writer. What a reader does: Read, Left, a bit. What a reader does: Get. What the small functions of lens answer: which widths may be, how great a length may be, how many bytes lengths have. Fields' lengths: which may be, how many bytes they are: plain lists.
-/
import Derived.Test.YtbcjfdhphpckfaaJPlainLives03
import Derived.BigRegion
import Derived.Laws.BitsAllLaws
namespace Go.Proofs.Ytbcjfdhphpckfaa
open Go.RowKit

/-- what a call on a writer does: it has other bits behind; only its own blocks have changed -/
def Wrote (B : Nat) (w : World) (p : Nat) (sv : Value) (bl : List Bool) (e0 : Ending) (e : Ending) (w' : World) : Prop :=
  e = e0 ∧ ∃ sv', WRep B w' p sv' bl ∧ (sv'.ownBlock = sv.ownBlock ∨ ∃ k, sv'.ownBlock = some k ∧ w.heap.size ≤ k) ∧ Only (fun k => k = p ∨ sv.ownBlock = some k) w w'

theorem or_u8 (a : Nat) (ha : a < 256) (bit : Bool) (k : Nat) (hk : k ≤ 7) : bits .or .u8 (a : Int) ((bit.toNat : Int) * 2 ^ k % 256) = ((a ||| (bit.toNat <<< k) : Nat) : Int) := by
  have h2 : bit.toNat <<< k < 256 := by
    cases bit
    · simp
    · obtain rfl | rfl | rfl | rfl | rfl | rfl | rfl | rfl : k = 0 ∨ k = 1 ∨ k = 2 ∨ k = 3 ∨ k = 4 ∨ k = 5 ∨ k = 6 ∨ k = 7 := by omega
      all_goals decide
  have h3 : (bit.toNat : Int) * 2 ^ k % 256 = ((bit.toNat <<< k : Nat) : Int) := by
    rw [Nat.shiftLeft_eq] at *
    have h4 : (bit.toNat : Int) * 2 ^ k = ((bit.toNat * 2 ^ k : Nat) : Int) := by simp
    rw [h4]
    omega
  rw [h3]
  exact u8_or_nat a _ ha h2

theorem bts_set (l : List Nat) (i x : Nat) : bts (l.set i x) = (bts l).set i (.int .u8 x) := by simp [bts, List.map_set]
theorem bts_append (l k : List Nat) : bts (l ++ k) = bts l ++ bts k := by simp [bts]

/-- the last two stores of add -/
theorem add_done {B : Nat} {w W : World} {p : Nat} {sv : Value} {bl : List Bool} {bit : Bool} {g m cap n : Nat} (hln : bl.length = n) (hm : m = n / 8 + 1) (hB : B ≤ p)
    (hrow : Row W p 318 #[.slice (some ⟨g, 0, none⟩) m cap, .int .i64 n]) (hown : W.ownsRow B 5 1 (.slice (some ⟨g, 0, none⟩) m cap) m (bts (room bl)))
    (honly : Only (fun k => k = p ∨ sv.ownBlock = some k) w W) (hg : sv.ownBlock = some g ∨ w.heap.size ≤ g) (hgp : g ≠ p) :
    Wrote B w p sv (bl ++ [bit]) (.returned (.tuple #[])) (.returned (.tuple #[]))
      ((W.setCell ⟨g, n / 8, none⟩ (.int .u8 (bits .or .u8 (byteAt bl (n / 8)) ((bit.toNat : Int) * 2 ^ (7 - n % 8) % 256)))).setCell ⟨p, 1, none⟩ (.int .i64 ((n : Int) + 1))).drew := by
  rw [or_u8 _ (byteAt_lt _ _) _ _ (by omega)]
  have h1 := (hown.stored (n / 8) (.int .u8 ((byteAt bl (n / 8) ||| (bit.toNat <<< (7 - n % 8)) : Nat) : Int))).1
  refine ⟨rfl, .slice (some ⟨g, 0, none⟩) m cap, ⟨hB, ?_, ?_⟩, ?_, ?_⟩
  · have h2 := (hrow.elsewhere (p := ⟨g, n / 8, none⟩) (Ne.symm hgp) (.int .u8 ((byteAt bl (n / 8) ||| (bit.toNat <<< (7 - n % 8)) : Nat) : Int))).written 1 (.int .i64 ((n : Int) + 1))
    rw [List.length_append, hln]
    exact h2
  · have hl : packLen (bl ++ [bit]).length = m := by rw [List.length_append, List.length_singleton, hln, hm]; unfold packLen; omega
    have hp : bts (pack (bl ++ [bit])) = (bts (room bl)).set (n / 8) (.int .u8 ((byteAt bl (n / 8) ||| (bit.toNat <<< (7 - n % 8)) : Nat) : Int)) := by rw [pack_snoc, hln, bts_set]
    rw [hl, hp]
    exact own_only h1 (((Only.refl (fun k => k = p) _).set (p := ⟨p, 1, none⟩) (.inl rfl) _).drew) (fun k hk => by
      have e : g = k := by simpa [Value.ownBlock] using hk
      omega)
  · rcases hg with h | h
    · exact .inl h.symm
    · exact .inr ⟨g, rfl, h⟩
  · exact ((honly.set (p := ⟨g, n / 8, none⟩) (hg.imp .inr id) _).set (p := ⟨p, 1, none⟩) (.inl (.inl rfl)) _).drew

set_option maxRecDepth 100000 in
set_option maxHeartbeats 1600000 in
theorem add_any {B : Nat} {w : World} {p : Nat} {sv : Value} {bl : List Bool} (bit : Bool) (h : WRep B w p sv bl) (hn : bl.length < 65536) :
    Calls Try.prog 242 #[.pointer (some ⟨p, 0, none⟩), .int .u8 bit.toNat] w (Wrote B w p sv (bl ++ [bit]) (.returned (.tuple #[]))) := by
  obtain ⟨hB, hr, ho⟩ := h
  have hc0 : w.cell? ⟨p, 0, none⟩ = some sv := hr.read rfl
  have hc1 : w.cell? ⟨p, 1, none⟩ = some (.int .i64 bl.length) := hr.read rfl
  have hf0 := hr.free 0
  have hf1 := hr.free 1
  have hap := own_apart ho hr (by decide)
  obtain ⟨i0, hi, hi0, hi1, hi2⟩ := info5_parts
  by_cases h8 : bl.length % 8 = 0
  · have h8' : (((bl.length : Nat) : Int) % 8 == 0) = true := by simp; omega
    generalize hln : bl.length = n at *
    have HM := Lib.hid (show packLen n = n / 8 by unfold packLen; omega)
    have H8 := Lib.hid h8
    clear h8
    go_enter Try.func242, Try.ntmps242
    go_wp2_with (at_builtin; refine wpList_append_lies _ rfl _ _ _ (by rfl) B 5 i0 (.int .u8 0) 1 1 Try.underlying34 hi hi0 hi1 hi2 rfl (by omega) sv (packLen n) _ (by rfl) (ho.alloc _) ⟨w.heap.size, 0, none⟩ 1 1 [.int .u8 0] (by rfl) (by rfl) ?h1 ?h2 ?h3 ?h4 ?h5 ?h6 (w.heap.size + 1) ?h7 ?_)
    case h1 => exact cell_one_new _ _ _
    case h2 => intro u hu; simp at hu; subst hu; rfl
    case h3 => omega
    case h4 => unfold maxLen packLen; omega
    case h5 => unfold packLen; omega
    case h6 => have := hr.inside; simp; omega
    case h7 => simp
    intro g cap w2 hown hgrow hgg hg2
    have hgp : g ≠ p := by
      rcases hgg with h | h
      · intro e; subst e; exact hap h
      · have := hr.inside; omega
    have hr2 : Row w2 p 318 #[sv, .int .i64 n] := (hgrow.block p (by have := hr.inside; simp; omega) (fun e => hap e.symm)).trans (hr.more _)
    have c0 := hr2.read (i := 0) rfl
    have c1 := hr2.read (i := 1) rfl
    have f0 := hr2.free 0
    have f1 := hr2.free 1
    go_wp2
    have hrow := hr2.written 0 (.slice (some ⟨g, 0, none⟩) (packLen n + 1) cap)
    have hown2 := own_only (S := fun k => k = p) hown ((Only.refl (fun k => k = p) _).set (p := ⟨p, 0, none⟩) (.inl rfl) (.slice (some ⟨g, 0, none⟩) (packLen n + 1) cap)) (fun k hk => by
      have : g = k := by simpa [Value.ownBlock] using hk
      omega)
    have honly : Only (fun k => k = p ∨ sv.ownBlock = some k) w (w2.setCell ⟨p, 0, none⟩ (.slice (some ⟨g, 0, none⟩) (packLen n + 1) cap)) :=
      (((Only.refl (fun k => k = p ∨ sv.ownBlock = some k) w).alloc _).grown hgrow (fun k hk => .inl (.inr hk))).set (.inl (.inl rfl)) _
    generalize w2.setCell ⟨p, 0, none⟩ (.slice (some ⟨g, 0, none⟩) (packLen n + 1) cap) = W at *
    clear hown hgrow c0 c1 f0 f1 hr2 hc0 hc1 hf0 hf1 hg2
    have hm := HM.out
    have hroom : room bl = pack bl ++ [0] := by unfold room; rw [hln, if_pos H8.out]
    have hown3 : W.ownsRow B 5 1 (.slice (some ⟨g, 0, none⟩) (packLen n + 1) cap) (packLen n + 1) (bts (room bl)) := by rw [hroom, bts_append]; exact hown2
    have c0 : W.cell? ⟨p, 0, none⟩ = some (.slice (some ⟨g, 0, none⟩) (packLen n + 1) cap) := hrow.read rfl
    have c1 : W.cell? ⟨p, 1, none⟩ = some (.int .i64 n) := hrow.read rfl
    have f1 := hrow.free 1
    have cb := (hown3.cellAt (n / 8) (by omega)).trans (bts_at (room_at bl (by omega)))
    have fb := hown2.frozenAt (n / 8)
    have hb0 : (n / 8 : Nat) < packLen n + 1 := by omega
    have hg' : sv.ownBlock = some g ∨ w.heap.size ≤ g := hgg.imp id (fun e => by omega)
    have HF := Lib.hid (add_done (bit := bit) hln (by omega) hB hrow hown3 honly hg' hgp)
    clear hm hroom hown2 hown3 hrow honly hgg hg'
    go_region
    go_wp2
    go_end0
    exact HF.out
  · have h8' : (((bl.length : Nat) : Int) % 8 == 0) = false := by simp; omega
    have hlen : 0 < packLen bl.length := by unfold packLen; omega
    obtain ⟨g, cap, rfl, _, hg2⟩ := ho.form hlen
    generalize hln : bl.length = n at *
    have hm : packLen n = n / 8 + 1 := by unfold packLen; omega
    have hroom : room bl = pack bl := by unfold room; rw [hln, if_neg h8]
    have hown3 : w.ownsRow B 5 1 (.slice (some ⟨g, 0, none⟩) (packLen n) cap) (packLen n) (bts (room bl)) := by rw [hroom]; exact ho
    have hgp : g ≠ p := by intro e; subst e; exact hap rfl
    have cb := (hown3.cellAt (n / 8) (by omega)).trans (bts_at (room_at bl (by omega)))
    have fb := hown3.frozenAt (n / 8)
    have hb0 : (n / 8 : Nat) < packLen n := by omega
    have HF := Lib.hid (add_done (bit := bit) hln hm hB hr hown3 (Only.refl (fun k => k = p ∨ (Value.slice (some ⟨g, 0, none⟩) (packLen n) cap).ownBlock = some k) w) (.inl rfl) hgp)
    clear hm hroom hown3 hr ho hlen h8
    go_enter Try.func242, Try.ntmps242
    go_wp2
    go_region
    go_wp2
    go_end0
    exact HF.out
end Go.Proofs.Ytbcjfdhphpckfaa
namespace Go.Proofs.Ytbcjfdhphpckfaa
open Go.RowKit

set_option maxHeartbeats 400000 in
theorem put_nil (v n : Int) (w : World) : Calls Try.prog 198 #[.pointer none, .int .u64 v, .int .i64 n] w fun e w' => e = .returned (.int .i64 6) ∧ w = w' := by
  go_enter Try.func198, Try.ntmps198
  go_wp2
  go_step3
  go_wp2
  rw [Exit.noGoto_ret]
  go_ret
  exact ⟨rfl, rfl⟩

set_option maxHeartbeats 400000 in
theorem put_arg1 (p : Nat) (v n : Int) (w : World) (h : mayB n = false) : Calls Try.prog 198 #[.pointer (some ⟨p, 0, none⟩), .int .u64 v, .int .i64 n] w fun e w' => e = .returned (.int .i64 1) ∧ w = w' := by
  have H := Lib.hid h
  clear h
  go_enter Try.func198, Try.ntmps198
  go_wp2
  go_step3
  go_wp2_with (go_at_call 241; refine (mayBe_any _ _).mono ?_; rintro e w1 ⟨rfl, rfl⟩; rw [H.out])
  rw [Exit.noGoto_ret]
  go_ret
  exact ⟨rfl, rfl⟩

theorem cast_div_pow (v n : Nat) : (v : Int) / 2 ^ n = ((v / 2 ^ n : Nat) : Int) := by
  rw [Int.natCast_ediv, Int.natCast_pow]
  rfl
theorem div_ne {v n : Nat} (h : 2 ^ n ≤ v) : ((v : Int) / 2 ^ n != 0) = true := by
  rw [cast_div_pow]
  have h1 : 1 ≤ v / 2 ^ n := (Nat.one_le_div_iff (Nat.two_pow_pos n)).2 h
  generalize v / 2 ^ n = q at *
  simp
  omega
theorem div_eq {v n : Nat} (h : v < 2 ^ n) : ((v : Int) / 2 ^ n != 0) = false := by
  rw [cast_div_pow, Nat.div_eq_of_lt h]
  rfl

set_option maxHeartbeats 400000 in
theorem put_arg2 (p v n : Nat) (w : World) (hn : n ≤ 64) (h : 2 ^ n ≤ v) : Calls Try.prog 198 #[.pointer (some ⟨p, 0, none⟩), .int .u64 v, .int .i64 n] w fun e w' => e = .returned (.int .i64 1) ∧ w = w' := by
  have H := Lib.hid (mayB_of (n := n) (by omega) (by omega))
  have HH := div_ne h
  clear h
  go_enter Try.func198, Try.ntmps198
  go_wp2
  go_step3
  go_wp2_with (go_at_call 241; refine (mayBe_any _ _).mono ?_; rintro e w1 ⟨rfl, rfl⟩; rw [H.out])
  rw [Exit.noGoto_ret]
  go_ret
  exact ⟨rfl, rfl⟩

set_option maxHeartbeats 400000 in
theorem put_full {B : Nat} {p : Nat} {sv : Value} {bl : List Bool} (v n : Nat) (w : World) (hr : WRep B w p sv bl) (hn : n ≤ 64) (h : v < 2 ^ n) (hl : 65536 < bl.length + n) (hb : bl.length ≤ 65536) :
    Calls Try.prog 198 #[.pointer (some ⟨p, 0, none⟩), .int .u64 v, .int .i64 n] w fun e w' => e = .returned (.int .i64 5) ∧ w = w' := by
  have H := Lib.hid (mayB_of (n := n) (by omega) (by omega))
  have HH := div_eq h
  have hc : w.cell? ⟨p, 1, none⟩ = some (.int .i64 bl.length) := hr.2.1.read rfl
  clear h
  generalize bl.length = m at *
  go_enter Try.func198, Try.ntmps198
  go_wp2
  go_step3
  go_wp2_with (go_at_call 241; refine (mayBe_any _ _).mono ?_; rintro e w1 ⟨rfl, rfl⟩; rw [H.out])
  rw [Exit.noGoto_ret]
  go_ret
  exact ⟨rfl, rfl⟩

/-- what a writer has when all but k of a number's n bits are put -/
def Putting (B : Nat) (w : World) (p : Nat) (sv : Value) (bl : List Bool) (v n k : Nat) (w' : World) : Prop :=
  ∃ sv', WRep B w' p sv' (bl ++ unval (v / 2 ^ k) (n - k)) ∧ (sv'.ownBlock = sv.ownBlock ∨ ∃ g, sv'.ownBlock = some g ∧ w.heap.size ≤ g) ∧ Only (fun g => g = p ∨ sv.ownBlock = some g) w w'

theorem Putting.start {B : Nat} {w : World} {p : Nat} {sv : Value} {bl : List Bool} {v n : Nat} (h : WRep B w p sv bl) : Putting B w p sv bl v n n w :=
  ⟨sv, by rw [Nat.sub_self]; simpa [unval] using h, .inl rfl, Only.refl _ _⟩

theorem Putting.step {B : Nat} {w w1 w2 : World} {p : Nat} {sv sv1 : Value} {bl : List Bool} {v n k : Nat} {e e0 : Ending} (hk : k < n)
    (ho : sv1.ownBlock = sv.ownBlock ∨ ∃ g, sv1.ownBlock = some g ∧ w.heap.size ≤ g) (hy : Only (fun g => g = p ∨ sv.ownBlock = some g) w w1)
    (h2 : Wrote B w1 p sv1 ((bl ++ unval (v / 2 ^ (k + 1)) (n - (k + 1))) ++ [v / 2 ^ k % 2 == 1]) e0 e w2) : Putting B w p sv bl v n k w2 := by
  obtain ⟨_, sv2, hr2, ho2, hy2⟩ := h2
  refine ⟨sv2, ?_, ?_, ?_⟩
  · have e1 : n - k = n - (k + 1) + 1 := by omega
    rw [e1, unval, Nat.div_div_eq_div_mul, ← Nat.pow_succ, ← List.append_assoc]
    exact hr2
  · rcases ho2 with h3 | ⟨g, h3, h4⟩
    · rw [h3]; exact ho
    · exact .inr ⟨g, h3, by have := hy.size; omega⟩
  · refine hy.andThen hy2 fun g hg hS => ?_
    rcases hS with h3 | h3
    · exact .inl h3
    · rcases ho with h4 | ⟨g', h4, h5⟩
      · exact .inr (by rw [← h4]; exact h3)
      · rw [h4] at h3
        injection h3 with h3
        omega

theorem bit_arg (v j : Nat) (hv : v < 18446744073709551616) : bits .and .u64 ((v : Int) / 2 ^ j) 1 % 256 = ((v / 2 ^ j % 2 == 1).toNat : Int) := by
  rw [cast_div_pow]
  have h1 : v / 2 ^ j ≤ v := Nat.div_le_self _ _
  generalize v / 2 ^ j = q at *
  have h2 := u64_and_nat q 1 (by omega) (by omega)
  rw [Nat.and_one_is_mod] at h2
  rw [show (1 : Int) = ((1 : Nat) : Int) from rfl, h2]
  rcases Nat.mod_two_eq_zero_or_one q with h | h <;> rw [h] <;> rfl

theorem mayBe_yes (n : Int) (w : World) (h1 : 0 ≤ n) (h2 : n ≤ 64) : Calls Try.prog 241 #[.int .i64 n] w fun e w' => e = .returned (.bool true) ∧ w = w' := by
  have h := mayBe_any n w
  rw [mayB_of h1 h2] at h
  exact h

set_option maxRecDepth 100000 in
set_option maxHeartbeats 1600000 in
theorem put_any {B : Nat} {p : Nat} {sv : Value} {bl : List Bool} (v n : Nat) (w : World) (hr : WRep B w p sv bl) (hn : n ≤ 64) (h : v < 2 ^ n) (hl : bl.length + n ≤ 65536) (hv : v < 18446744073709551616) :
    Calls Try.prog 198 #[.pointer (some ⟨p, 0, none⟩), .int .u64 v, .int .i64 n] w (Wrote B w p sv (bl ++ unval v n) (.returned (.int .i64 0))) := by
  have HH := div_eq h
  have hc : w.cell? ⟨p, 1, none⟩ = some (.int .i64 bl.length) := hr.2.1.read rfl
  have HS := Lib.hid (Putting.start (v := v) (n := n) hr)
  have HV := Lib.hid hv
  clear h hr hv
  have hlen : bl.length ≤ 65536 := by omega
  go_enter Try.func198, Try.ntmps198
  go_wp2
  refine wp_scope_jumps 0 (fun a' w' => ∃ k : Nat, k ≤ n ∧ Fr [some (.pointer (some ⟨p, 0, none⟩)), some (.int .u64 v), some (.int .i64 k), none, none, none, none, none, none, none, none, none, none, none, none, none, none, none, none, none, none, none, none, none, none, none, none, none, none, none, none, none, none, none, none, none, none, none, none] a' ∧ Putting B w p sv bl v n k w') (fun a' _ => (intOf (a'.tmps.getD 2 undef)).toNat) rfl ?_ ?_
  · rcases Nat.eq_zero_or_pos n with hk0 | hk0
    · subst hk0
      go_wp2_with (go_at_call 241; refine (mayBe_yes _ _ (by omega) (by omega)).mono ?_; rintro e w1 ⟨rfl, rfl⟩)
      go_step3
      go_wp2
      simp only [Exit.jump]
      go_ret
      obtain ⟨sv1, hr1, ho1, hy1⟩ := HS.out
      exact ⟨rfl, sv1, by simpa using hr1, ho1, hy1⟩
    · go_wp2_with (go_at_call 241; refine (mayBe_yes _ _ (by omega) (by omega)).mono ?_; rintro e w1 ⟨rfl, rfl⟩)
      go_step3
      clear HH hc
      obtain ⟨j, rfl⟩ : ∃ j, n = j + 1 := ⟨n - 1, by omega⟩
      have hE := Lib.hid (bit_arg v j HV.out)
      obtain ⟨sv1, hr1, ho1, hy1⟩ := HS.out
      go_wp2_with (go_at_call 242; rw [hE.out]; refine (add_any _ hr1 ?_).mono ?_; simp [length_unval]; omega; rintro e w2 hw; have HW := Lib.hid hw; obtain ⟨rfl, _⟩ := hw)
      go_step3
      refine ⟨rfl, j, by omega, ?_, Putting.step (by omega) ho1 hy1 HW.out⟩
      simp only [Fr, Holes]
      repeat apply Exists.intro
      rfl
  · rintro a' w' ⟨k, hk, hfr, hput⟩
    simp only [Fr, Holes] at hfr
    repeat (obtain ⟨_, hfr⟩ := hfr)
    clear HS hc HH
    rcases Nat.eq_zero_or_pos k with hk0 | hk0
    · subst hk0
      go_wp2
      simp only [Exit.jump]
      go_ret
      obtain ⟨sv1, hr1, ho1, hy1⟩ := hput
      exact ⟨rfl, sv1, by simpa using hr1, ho1, hy1⟩
    · obtain ⟨j, rfl⟩ : ∃ j, k = j + 1 := ⟨k - 1, by omega⟩
      have hE := Lib.hid (bit_arg v j HV.out)
      obtain ⟨sv1, hr1, ho1, hy1⟩ := hput
      go_wp2_with (go_at_call 242; rw [hE.out]; refine (add_any _ hr1 ?_).mono ?_; simp [length_unval]; omega; rintro e w2 hw; have HW := Lib.hid hw; obtain ⟨rfl, _⟩ := hw)
      go_step3
      refine ⟨rfl, ⟨j, by omega, ?_, Putting.step (by omega) ho1 hy1 HW.out⟩, ?_⟩
      · simp only [Fr, Holes]
        repeat apply Exists.intro
        rfl
      · simp [intOf]
end Go.Proofs.Ytbcjfdhphpckfaa
namespace Go.Proofs.Ytbcjfdhphpckfaa
open Go.RowKit

theorem unval_at (v n j : Nat) (h : j < n) : (unval v n)[j]? = some (v / 2 ^ (n - 1 - j) % 2 == 1) := by
  induction n generalizing v with
  | zero => omega
  | succ n ih =>
    rw [unval]
    by_cases hj : j < n
    · rw [List.getElem?_append_left (by rw [length_unval]; exact hj), ih _ hj, Nat.div_div_eq_div_mul]
      have e : n + 1 - 1 - j = (n - 1 - j) + 1 := by omega
      rw [e, Nat.pow_succ, Nat.mul_comm 2]
    · have e : j = n := by omega
      subst e
      rw [List.getElem?_append_right (by rw [length_unval]; omega), length_unval, Nat.sub_self]
      simp

/-- bit i of bytes -/
def bitAt (bs : List Nat) (i : Nat) : Bool := (bitsOf bs).getD i false
theorem bitAt_eq {bs : List Nat} {i b : Nat} (h : bs[i / 8]? = some b) : bitAt bs i = (b / 2 ^ (7 - i % 8) % 2 == 1) := by
  unfold bitAt
  rw [List.getD_eq_getElem?_getD, bitsOf_at bs i b h, unval_at b 8 (i % 8) (Nat.mod_lt _ (by omega))]
  rfl

/-- a reader at block p, with its bytes in block g, stands at bit i -/
def RRep (w : World) (p g : Nat) (bs : List Nat) (i : Nat) : Prop :=
  Row w p 327 #[.slice (some ⟨g, 0, none⟩) bs.length bs.length, .int .i64 i] ∧ Row w g 5 (bts bs).toArray ∧ i ≤ 8 * bs.length ∧ bs.length ≤ 8192 ∧ ∀ b ∈ bs, b < 256
theorem RRep.only {w v : World} {p g : Nat} {bs : List Nat} {i : Nat} {S : Nat → Prop} (h : RRep w p g bs i) (ho : Only S w v) (h1 : ¬ S p) (h2 : ¬ S g) : RRep v p g bs i :=
  ⟨h.1.only ho h1, h.2.1.only ho h2, h.2.2⟩
theorem RRep.later {w v : World} {p g : Nat} {bs : List Nat} {i : Nat} (h : RRep w p g bs i) (hb : Below w.heap.size w v) : RRep v p g bs i :=
  h.only (S := fun _ => False) (.of_below hb) (fun h => h) (fun h => h)
theorem RRep.ne {w : World} {p g : Nat} {bs : List Nat} {i : Nat} (h : RRep w p g bs i) : g ≠ p := h.2.1.apart h.1 (by decide)

theorem add_zero_addr (g j : Nat) : (⟨g, 0, none⟩ : Addr).add j = ⟨g, j, none⟩ := by
  unfold Addr.add
  split
  · rename_i h
    rw [h]
  · simp
theorem row_src {w : World} {g : Nat} {t : TypeId} {xs : List Value} (h : Row w g t xs.toArray) : Src w (some ⟨g, 0, none⟩) xs := by
  intro _
  refine ⟨_, rfl, fun j u hu => ?_⟩
  rw [add_zero_addr]
  exact h.read (by simpa using hu)

set_option maxHeartbeats 800000 in
theorem read_any (A : Option Addr) (cap : Nat) (l : List Nat) (w : World) (hn : l.length ≤ 8192) (hc : l.length ≤ cap) (hs : Src w A (bts l)) (hb : ∀ b ∈ l, b < 256) :
    Calls Try.prog 229 #[.slice A l.length cap] w fun e w' => ∃ p g, e = .returned (.pointer (some ⟨p, 0, none⟩)) ∧ w.heap.size ≤ p ∧ w.heap.size ≤ g ∧ RRep w' p g l 0 ∧ Below w.heap.size w w' := by
  have hcop := fun A' cap' W h => copied_any A' cap' l W hn h
  have HC := Lib.hid hcop
  have HS := Lib.hid hs
  have HL := Lib.hid hb
  clear hcop hs hb
  generalize hnn : l.length = n at *
  go_enter Try.func229, Try.ntmps229
  go_wp2_with (go_at_call 245; refine (HC.out _ _ _ ?_).mono ?_; exact HS.out; rintro e w1 ⟨g, rfl, hg, hrow, hb⟩)
  go_ret
  have hp := hb.size
  refine ⟨w1.heap.size, g, rfl, hp, hg, ⟨?_, hrow.more _, by omega, by omega, HL.out⟩, bl_alloc hb _⟩
  rw [hnn]
  exact Row.made _ _ _

set_option maxHeartbeats 400000 in
theorem left_any {w : World} {p g : Nat} {bs : List Nat} {i : Nat} (h : RRep w p g bs i) :
    Calls Try.prog 261 #[.pointer (some ⟨p, 0, none⟩)] w fun e w' => e = .returned (.int .i64 ((8 * bs.length - i : Nat) : Int)) ∧ Below w.heap.size w w' := by
  have hc0 : w.cell? ⟨p, 0, none⟩ = some (.slice (some ⟨g, 0, none⟩) bs.length bs.length) := h.1.read rfl
  have hc1 : w.cell? ⟨p, 1, none⟩ = some (.int .i64 i) := h.1.read rfl
  have hi := h.2.2.1
  have hn := h.2.2.2.1
  clear h
  generalize bs.length = n at *
  go_enter Try.func261, Try.ntmps261
  go_wp2
  go_quiet (fail)
  go_wp2
  go_ret
  exact ⟨ret_int (by first | rfl | omega), below_drewN (Below.refl _ _) _⟩
set_option maxHeartbeats 400000 in
theorem left_nil (w : World) : Calls Try.prog 261 #[.pointer none] w fun e w' => e = .returned (.int .i64 0) ∧ w = w' := by
  go_enter Try.func261, Try.ntmps261
  go_wp2
  go_ret
  exact ⟨rfl, rfl⟩

theorem bit_u8 (b k : Nat) (hb : b < 256) : bits .and .u8 ((b : Int) / 2 ^ k) 1 = ((b / 2 ^ k % 2 == 1).toNat : Int) := by
  rw [cast_div_pow]
  have h1 : b / 2 ^ k ≤ b := Nat.div_le_self _ _
  generalize b / 2 ^ k = q at *
  have h2 := u8_and_nat q 1 (by omega) (by omega)
  rw [Nat.and_one_is_mod] at h2
  rw [show (1 : Int) = ((1 : Nat) : Int) from rfl, h2]
  rcases Nat.mod_two_eq_zero_or_one q with h | h <;> rw [h] <;> rfl

set_option maxHeartbeats 400000 in
theorem bit_any {w : World} {p g : Nat} {bs : List Nat} {i k : Nat} (h : RRep w p g bs k) (hi : i < 8 * bs.length) :
    Calls Try.prog 262 #[.pointer (some ⟨p, 0, none⟩), .int .i64 i] w fun e w' => e = .returned (.int .u8 (bitAt bs i).toNat) ∧ w = w' := by
  have hc0 : w.cell? ⟨p, 0, none⟩ = some (.slice (some ⟨g, 0, none⟩) bs.length bs.length) := h.1.read rfl
  have hn := h.2.2.2.1
  have hlt : i / 8 < bs.length := by omega
  have hat : bs[i / 8]? = some bs[i / 8] := List.getElem?_eq_getElem hlt
  have hc1 : w.cell? ⟨g, i / 8, none⟩ = some (.int .u8 bs[i / 8]) := h.2.1.read (by simpa using bts_at hat)
  have hb := h.2.2.2.2 _ (List.getElem_mem hlt)
  have hv := bitAt_eq hat
  generalize bs[i / 8] = b at *
  generalize bs.length = n at *
  have HV := Lib.hid hv
  have HB := Lib.hid hb
  clear h hat hv hb
  go_enter Try.func262, Try.ntmps262
  go_wp2
  go_ret
  refine ⟨ret_int ?_, rfl⟩
  rw [HV.out]
  exact bit_u8 b _ HB.out
end Go.Proofs.Ytbcjfdhphpckfaa
namespace Go.Proofs.Ytbcjfdhphpckfaa
open Go.RowKit

/-- m bits from bit i on -/
def seg (bs : List Nat) (i m : Nat) : List Bool := ((bitsOf bs).drop i).take m
theorem length_seg {bs : List Nat} {i m : Nat} (h : i + m ≤ 8 * bs.length) : (seg bs i m).length = m := by
  unfold seg
  rw [List.length_take, List.length_drop, length_bitsOf]
  omega
theorem seg_zero (bs : List Nat) (i : Nat) : seg bs i 0 = [] := by simp [seg]
theorem seg_succ {bs : List Nat} {i m : Nat} (h : i + m < 8 * bs.length) : seg bs i (m + 1) = seg bs i m ++ [bitAt bs (i + m)] := by
  unfold seg bitAt
  have hl : i + m < (bitsOf bs).length := by rw [length_bitsOf]; exact h
  have hd : m < ((bitsOf bs).drop i).length := by rw [List.length_drop]; omega
  rw [List.take_succ_eq_append_getElem hd, List.getElem_drop, List.getD_eq_getElem?_getD, List.getElem?_eq_getElem hl]
  rfl
theorem val_seg_succ {bs : List Nat} {i m : Nat} (h : i + m < 8 * bs.length) : val (seg bs i (m + 1)) = 2 * val (seg bs i m) + (bitAt bs (i + m)).toNat := by
  rw [seg_succ h, val_snoc]

set_option maxHeartbeats 400000 in
theorem get_nil (n : Int) (w : World) : Calls Try.prog 231 #[.pointer none, .int .i64 n] w fun e w' => e = .returned (.tuple #[.int .u64 0, .int .i64 6]) ∧ w = w' := by
  go_enter Try.func231, Try.ntmps231
  go_wp2
  go_step3
  go_wp2
  rw [Exit.noGoto_ret]
  go_ret2
  exact ⟨rfl, rfl⟩
set_option maxHeartbeats 400000 in
theorem get_arg (p : Nat) (n : Int) (w : World) (h : mayB n = false) : Calls Try.prog 231 #[.pointer (some ⟨p, 0, none⟩), .int .i64 n] w fun e w' => e = .returned (.tuple #[.int .u64 0, .int .i64 1]) ∧ w = w' := by
  have H := Lib.hid h
  clear h
  go_enter Try.func231, Try.ntmps231
  go_wp2
  go_step3
  go_wp2_with (go_at_call 241; refine (mayBe_any _ _).mono ?_; rintro e w1 ⟨rfl, rfl⟩; rw [H.out])
  rw [Exit.noGoto_ret]
  go_ret2
  exact ⟨rfl, rfl⟩
set_option maxHeartbeats 400000 in
theorem get_short {p g : Nat} {bs : List Nat} {i : Nat} (n : Nat) (w : World) (hr : RRep w p g bs i) (hn : n ≤ 64) (h : 8 * bs.length - i < n) :
    Calls Try.prog 231 #[.pointer (some ⟨p, 0, none⟩), .int .i64 n] w fun e w' => e = .returned (.tuple #[.int .u64 0, .int .i64 8]) ∧ Below w.heap.size w w' := by
  have HR := Lib.hid hr
  clear hr
  go_enter Try.func231, Try.ntmps231
  go_wp2
  go_step3
  go_wp2_with (first
    | (go_at_call 241; refine (mayBe_yes _ _ (by omega) (by omega)).mono ?_; rintro e w1 ⟨rfl, rfl⟩)
    | (go_at_call 261; refine (left_any HR.out).mono ?_; rintro e w2 ⟨rfl, hb⟩))
  rw [Exit.noGoto_ret]
  go_ret2
  exact ⟨rfl, hb⟩

/-- a reader has got the first m bits -/
def Getting (w : World) (p g : Nat) (bs : List Nat) (i m : Nat) (w' : World) : Prop := RRep w' p g bs (i + m) ∧ Only (fun k => k = p) w w'

theorem or_u64 (V : Nat) (hV : V < 9223372036854775808) (bit : Bool) : bits .or .u64 (IntKind.u64.wrap ((V : Int) * 2)) (IntKind.u64.wrap (bit.toNat : Int)) = ((2 * V + bit.toNat : Nat) : Int) := by
  have h1 : IntKind.u64.wrap ((V : Int) * 2) = ((2 * V : Nat) : Int) := by
    rw [IntKind.wrap_u64]
    omega
  have h2 : bit.toNat < 2 := by cases bit <;> decide
  have h4 : IntKind.u64.wrap (bit.toNat : Int) = (bit.toNat : Int) := by
    rw [IntKind.wrap_u64]
    omega
  rw [h1, h4, u64_or_nat _ _ (by omega) (by omega)]
  have h3 := Nat.two_pow_add_eq_or_of_lt (i := 1) (b := bit.toNat) (by simpa using h2) V
  simp only [Nat.pow_one] at h3
  rw [← h3]
theorem or_u64_0 (bit : Bool) : bits .or .u64 0 (IntKind.u64.wrap (bit.toNat : Int)) = (bit.toNat : Int) := by
  have h := or_u64 0 (by omega) bit
  rw [show IntKind.u64.wrap (((0 : Nat) : Int) * 2) = 0 from rfl] at h
  rw [h]
  simp
theorem val_one {bs : List Nat} {i : Nat} (h : i < 8 * bs.length) : val (seg bs i 1) = (bitAt bs i).toNat := by
  have h1 := val_seg_succ (bs := bs) (i := i) (m := 0) (by omega)
  rw [seg_zero] at h1
  simpa [val_nil] using h1
theorem val_small {l : List Bool} (h : l.length ≤ 63) : val l < 9223372036854775808 :=
  Nat.lt_of_lt_of_le (val_lt l) (Nat.le_trans (Nat.pow_le_pow_right (by omega) h) (by decide))

set_option maxRecDepth 100000 in
set_option maxHeartbeats 1600000 in
theorem get_any {p g : Nat} {bs : List Nat} {i : Nat} (n : Nat) (w : World) (hr : RRep w p g bs i) (hn : n ≤ 64) (h : i + n ≤ 8 * bs.length) :
    Calls Try.prog 231 #[.pointer (some ⟨p, 0, none⟩), .int .i64 n] w fun e w' => e = .returned (.tuple #[.int .u64 (val (seg bs i n)), .int .i64 0]) ∧ Getting w p g bs i n w' := by
  have HR := Lib.hid hr
  have hle : 8 * bs.length ≤ 65536 := by have := hr.2.2.2.1; omega
  have hin : n ≤ 8 * bs.length - i := by omega
  clear hr
  go_enter Try.func231, Try.ntmps231
  go_wp2
  refine wp_scope_jumps 0 (fun a' w' => ∃ k : Nat, k ≤ n ∧ Fr [some (.pointer (some ⟨p, 0, none⟩)), some (.int .i64 k), none, none, none, none, some (.int .u64 (val (seg bs i (n - k)))), none, none, none, none, none, none, none, none, none, none, none, none, none, none, none, none, none, none, none, none, none, none, none, none, none, none, none, none, none, none, none, none, none, none] a' ∧ Getting w p g bs i (n - k) w') (fun a' _ => (intOf (a'.tmps.getD 1 undef)).toNat) rfl ?_ ?_
  · rcases Nat.eq_zero_or_pos n with hk0 | hk0
    · subst hk0
      go_wp2_with (first
        | (go_at_call 241; refine (mayBe_yes _ _ (by omega) (by omega)).mono ?_; rintro e w1 ⟨rfl, rfl⟩)
        | (go_at_call 261; refine (left_any HR.out).mono ?_; rintro e w2 ⟨rfl, hb⟩))
      go_step3
      go_wp2
      simp only [Exit.jump]
      go_ret2
      exact ⟨rfl, HR.out.later hb, .of_below hb⟩
    · go_wp2_with (first
        | (go_at_call 241; refine (mayBe_yes _ _ (by omega) (by omega)).mono ?_; rintro e w1 ⟨rfl, rfl⟩)
        | (go_at_call 261; refine (left_any HR.out).mono ?_; rintro e w2 ⟨rfl, hb⟩))
      go_step3
      have hrr := HR.out.later hb
      have hc1 : w2.cell? ⟨p, 1, none⟩ = some (.int .i64 i) := hrr.1.read rfl
      have hf1 := hrr.1.free 1
      have HRR := Lib.hid hrr
      have HO := Lib.hid (Only.of_below (S := fun k => k = p) hb)
      obtain ⟨j, rfl⟩ : ∃ j, n = j + 1 := ⟨n - 1, by omega⟩
      have hq : i < 8 * bs.length := by omega
      have hstep := Lib.hid (val_one hq)
      clear hb hrr
      go_wp2_with (go_at_call 262; refine (bit_any HRR.out hq).mono ?_; rintro e w1 ⟨rfl, rfl⟩)
      go_step3
      rw [or_u64_0, ← hstep.out]
      have e1 : j + 1 - j = 1 := by omega
      refine ⟨rfl, j, by omega, ?_, ?_, ?_⟩
      · rw [e1]
        simp only [Fr, Holes]
        repeat apply Exists.intro
        rfl
      · rw [e1]
        obtain ⟨h1, h2, h3, h4, h5⟩ := HRR.out
        exact ⟨h1.written 1 _, h2.elsewhere (p := ⟨p, 1, none⟩) (RRep.ne HRR.out) _, by omega, h4, h5⟩
      · exact HO.out.set (p := ⟨p, 1, none⟩) (.inl rfl) _
  · rintro a' w' ⟨k, hk, hfr, hget⟩
    simp only [Fr, Holes] at hfr
    repeat (obtain ⟨_, hfr⟩ := hfr)
    obtain ⟨hrr, ho⟩ := hget
    have hc1 : w'.cell? ⟨p, 1, none⟩ = some (.int .i64 ((i + (n - k) : Nat) : Int)) := hrr.1.read rfl
    have hf1 := hrr.1.free 1
    rcases Nat.eq_zero_or_pos k with hk0 | hk0
    · subst hk0
      clear hc1 hf1
      go_wp2
      simp only [Exit.jump]
      go_ret2
      exact ⟨rfl, hrr, ho⟩
    · obtain ⟨j, rfl⟩ : ∃ j, k = j + 1 := ⟨k - 1, by omega⟩
      have hstep := Lib.hid (val_seg_succ (bs := bs) (i := i) (m := n - (j + 1)) (by omega))
      have hV := Lib.hid (val_small (l := seg bs i (n - (j + 1))) (by rw [length_seg (by omega)]; omega))
      have e1 : n - (j + 1) + 1 = n - j := by omega
      rw [e1] at hstep
      have hq : i + (n - (j + 1)) < 8 * bs.length := by omega
      have hq2 : i + (n - j) = i + (n - (j + 1)) + 1 := by omega
      generalize val (seg bs i (n - (j + 1))) = V at *
      generalize i + (n - (j + 1)) = q at *
      have HQ := Lib.hid hq2
      have HO := Lib.hid ho
      have HRR := Lib.hid hrr
      have hor := or_u64 V hV.out (bitAt bs q)
      have HOR := Lib.hid hor
      clear e1 hq2 ho hrr hor
      go_wp2_with (go_at_call 262; refine (bit_any HRR.out hq).mono ?_; rintro e w1 ⟨rfl, rfl⟩)
      go_step3
      rw [HOR.out, ← hstep.out]
      refine ⟨rfl, ⟨j, by omega, ?_, ?_, ?_⟩, ?_⟩
      · simp only [Fr, Holes]
        repeat apply Exists.intro
        rfl
      · rw [HQ.out]
        obtain ⟨h1, h2, h3, h4, h5⟩ := HRR.out
        exact ⟨h1.written 1 _, h2.elsewhere (p := ⟨p, 1, none⟩) (RRep.ne HRR.out) _, by omega, h4, h5⟩
      · exact HO.out.set (p := ⟨p, 1, none⟩) (.inl rfl) _
      · simp [intOf]
end Go.Proofs.Ytbcjfdhphpckfaa
namespace Go.Proofs.Ytbcjfdhphpckfaa
open Go.RowKit

def okW (w : Int) : Bool := (w == 11) || (w == 15)
theorem okW_nat {w : Int} (h : okW w = true) : w = 11 ∨ w = 15 := by simpa [okW] using h
theorem okW_not {w : Int} (h : okW w = false) : w ≠ 11 ∧ w ≠ 15 := by simpa [okW] using h
/-- how many bytes n lengths have -/
def sizeF (n w : Int) : Int := if okW w && (decide (1 ≤ n) && decide (n ≤ 23)) then (n * (1 + w) + 7) / 8 else 0

set_option maxHeartbeats 400000 in
theorem lmay_any (x : Int) (w : World) : Calls Try.prog 183 #[.int .i64 x] w fun e w' => e = .returned (.bool (okW x)) ∧ w = w' := by
  by_cases h1 : x = 11
  · subst h1
    go_enter Try.func183, Try.ntmps183
    go_wp2
    go_ret
    exact ⟨rfl, rfl⟩
  · by_cases h2 : x = 15
    · subst h2
      go_enter Try.func183, Try.ntmps183
      go_wp2
      go_ret
      exact ⟨rfl, rfl⟩
    · have h1' : (x == 11) = false := by simpa using h1
      have h2' : (x == 15) = false := by simpa using h2
      have HX := Lib.hid (show okW x = false by simp [okW, h1, h2])
      clear h1 h2
      go_enter Try.func183, Try.ntmps183
      go_wp2
      go_ret
      exact ⟨by rw [HX.out]; rfl, rfl⟩

theorem longest_ok {x : Int} (h : okW x = true) (w : World) : Calls Try.prog 279 #[.int .i64 x] w fun e w' => e = .returned (.int .i64 (2 ^ x.toNat - 1)) ∧ w = w' := by
  rcases okW_nat h with rfl | rfl
  · go_enter Try.func279, Try.ntmps279
    go_wp2
    go_ret
    exact ⟨rfl, rfl⟩
  · go_enter Try.func279, Try.ntmps279
    go_wp2
    go_ret
    exact ⟨rfl, rfl⟩

set_option maxHeartbeats 400000 in
theorem follows_any (b : Bool) (w : World) : Calls Try.prog 272 #[.bool b] w fun e w' => e = .returned (.int .u64 b.toNat) ∧ w = w' := by
  cases b
  · go_enter Try.func272, Try.ntmps272
    go_wp2
    go_ret
    exact ⟨rfl, rfl⟩
  · go_enter Try.func272, Try.ntmps272
    go_wp2
    go_ret
    exact ⟨rfl, rfl⟩

set_option maxHeartbeats 800000 in
theorem size_any (n x : Int) (w : World) : Calls Try.prog 121 #[.int .i64 n, .int .i64 x] w fun e w' => e = .returned (.int .i64 (sizeF n x)) ∧ w = w' := by
  cases hx : okW x
  · have HF := Lib.hid (show sizeF n x = 0 by simp [sizeF, hx])
    have HM := Lib.hid (lmay_any x w)
    rw [hx] at HM
    clear hx
    go_enter Try.func121, Try.ntmps121
    go_wp2_with (go_at_call 183; refine HM.out.mono ?_; rintro e w1 ⟨rfl, rfl⟩)
    go_ret
    exact ⟨by rw [HF.out]; rfl, rfl⟩
  · have HM := Lib.hid (lmay_any x w)
    rw [hx] at HM
    by_cases h1 : 1 ≤ n
    · by_cases h2 : n ≤ 23
      · have HF := Lib.hid (show sizeF n x = (n * (1 + x) + 7) / 8 by simp [sizeF, hx, h1, h2])
        have h1' : ¬ n < 1 := by omega
        have h2' : ¬ 23 < n := by omega
        rcases okW_nat hx with rfl | rfl
        all_goals
          clear hx
          go_enter Try.func121, Try.ntmps121
          go_wp2_with (go_at_call 183; refine HM.out.mono ?_; rintro e w1 ⟨rfl, rfl⟩)
          go_ret
          refine ⟨?_, rfl⟩
          rw [HF.out]
          first | rfl | go_num
      · have HF := Lib.hid (show sizeF n x = 0 by simp [sizeF, h2])
        have h1' : ¬ n < 1 := by omega
        have h2' : 23 < n := by omega
        clear hx
        go_enter Try.func121, Try.ntmps121
        go_wp2_with (go_at_call 183; refine HM.out.mono ?_; rintro e w1 ⟨rfl, rfl⟩)
        go_ret
        exact ⟨by rw [HF.out]; rfl, rfl⟩
    · have HF := Lib.hid (show sizeF n x = 0 by simp [sizeF, h1])
      have h1' : n < 1 := by omega
      clear hx
      go_enter Try.func121, Try.ntmps121
      go_wp2_with (go_at_call 183; refine HM.out.mono ?_; rintro e w1 ⟨rfl, rfl⟩)
      go_ret
      exact ⟨by rw [HF.out]; rfl, rfl⟩

set_option maxHeartbeats 800000 in
theorem top_ok (x : Nat) (hx : x ≤ 15) (w : World) : Calls Try.prog 247 #[.int .i64 x] w fun e w' => e = .returned (.int .i64 ((2 ^ x : Nat) : Int)) ∧ w = w' := by
  have hp : ∀ k, k ≤ x → 2 ^ k ≤ 32768 := fun k hk => Nat.le_trans (Nat.pow_le_pow_right (by omega) (show k ≤ 15 by omega)) (by decide)
  go_enter Try.func247, Try.ntmps247
  go_wp2
  go_loopw [3, 4] (fun v i wr => ∃ k q : Nat, k ≤ x ∧ q ≤ 32768 ∧ v = .int .i64 q ∧ i = .int .i64 k ∧ Hid (q = 2 ^ k) ∧ w = wr) (fun _ i _ => x - (intOf i).toNat)
  case atStart => exact ⟨0, 1, by omega, by omega, rfl, rfl, Lib.hid rfl, rfl⟩
  case round =>
    obtain ⟨k, q, hk, hq, rfl, rfl, HQ, rfl⟩ := hrel
    by_cases hlt : k < x
    · have h2 := hp (k + 1) (by omega)
      have HP := Lib.hid (show 2 * q = 2 ^ (k + 1) by rw [HQ.out, Nat.pow_succ, Nat.mul_comm])
      have h3 : 2 * q ≤ 32768 := by rw [HP.out]; exact h2
      clear h2 hp
      go_wp2
      go_roundw
      case rel => exact ⟨k + 1, 2 * q, by omega, h3, by go_num, by go_num, HP, trivial⟩
      case measure => simp [intOf]; omega
    · obtain rfl : k = x := by omega
      go_wp2
      go_ret
      exact ⟨by rw [HQ.out]; rfl, rfl⟩

set_option maxHeartbeats 1600000 in
theorem refsize_any (n x : Int) (w : World) : Calls Try.prog 118 #[.int .i64 n, .int .i64 x] w fun e w' => e = .returned (.int .i64 (sizeF n x)) ∧ w = w' := by
  cases hx : okW x
  · have HF := Lib.hid (show sizeF n x = 0 by simp [sizeF, hx])
    obtain ⟨h1, h2⟩ := okW_not hx
    have h1 : ¬ x = 11 := h1
    have h2 : ¬ x = 15 := h2
    clear hx
    go_enter Try.func118, Try.ntmps118
    go_wp2
    go_ret
    exact ⟨by rw [HF.out]; rfl, rfl⟩
  · by_cases h1 : 1 ≤ n
    · by_cases h2 : n ≤ 23
      · have HF := Lib.hid (show sizeF n x = (n * (1 + x) + 7) / 8 by simp [sizeF, hx, h1, h2])
        have h1' : ¬ n < 1 := by omega
        have h2' : ¬ 23 < n := by omega
        rcases okW_nat hx with rfl | rfl
        · clear hx
          go_enter Try.func118, Try.ntmps118
          go_wp2
          go_loopw [5] (fun v wr => ∃ k : Nat, k ≤ 46 ∧ v = .int .i64 k ∧ Hid ((k : Int) ≤ sizeF n 11) ∧ w = wr) (fun v _ => 46 - (intOf v).toNat)
          case atStart => exact ⟨0, by omega, rfl, Lib.hid (by rw [HF.out]; omega), rfl⟩
          case round =>
            obtain ⟨k, hk, rfl, HK, rfl⟩ := hrel
            have hks := HK.out
            rw [HF.out] at hks
            by_cases hlt : 8 * (k : Int) < n * 12
            · go_wp2
              go_roundw
              case rel => exact ⟨k + 1, by omega, by go_num, Lib.hid (by rw [HF.out]; omega), trivial⟩
              case measure => simp [intOf]; omega
            · go_wp2
              go_ret
              exact ⟨ret_int (by rw [HF.out]; omega), rfl⟩
        · clear hx
          go_enter Try.func118, Try.ntmps118
          go_wp2
          go_loopw [5] (fun v wr => ∃ k : Nat, k ≤ 46 ∧ v = .int .i64 k ∧ Hid ((k : Int) ≤ sizeF n 15) ∧ w = wr) (fun v _ => 46 - (intOf v).toNat)
          case atStart => exact ⟨0, by omega, rfl, Lib.hid (by rw [HF.out]; omega), rfl⟩
          case round =>
            obtain ⟨k, hk, rfl, HK, rfl⟩ := hrel
            have hks := HK.out
            rw [HF.out] at hks
            by_cases hlt : 8 * (k : Int) < n * 16
            · go_wp2
              go_roundw
              case rel => exact ⟨k + 1, by omega, by go_num, Lib.hid (by rw [HF.out]; omega), trivial⟩
              case measure => simp [intOf]; omega
            · go_wp2
              go_ret
              exact ⟨ret_int (by rw [HF.out]; omega), rfl⟩
      · have HF := Lib.hid (show sizeF n x = 0 by simp [sizeF, h2])
        have h1' : ¬ n < 1 := by omega
        have h2' : 23 < n := by omega
        rcases okW_nat hx with rfl | rfl
        all_goals
          clear hx
          go_enter Try.func118, Try.ntmps118
          go_wp2
          go_ret
          exact ⟨by rw [HF.out]; rfl, rfl⟩
    · have HF := Lib.hid (show sizeF n x = 0 by simp [sizeF, h1])
      have h1' : n < 1 := by omega
      rcases okW_nat hx with rfl | rfl
      all_goals
        clear hx
        go_enter Try.func118, Try.ntmps118
        go_wp2
        go_ret
        exact ⟨by rw [HF.out]; rfl, rfl⟩
end Go.Proofs.Ytbcjfdhphpckfaa
namespace Go.Proofs.Ytbcjfdhphpckfaa


def okAt (n k m : Nat) : Bool := decide (1 ≤ m) && decide (m ≤ if k + 1 = n then 4000 else 2047)
/-- the first k of these lengths may be -/
def okTo (ls : List Nat) (k : Nat) : Bool := (List.range k).all fun j => okAt ls.length j (ls.getD j 0)
theorem okTo_zero (ls : List Nat) : okTo ls 0 = true := rfl
theorem okTo_succ (ls : List Nat) (k : Nat) : okTo ls (k + 1) = (okTo ls k && okAt ls.length k (ls.getD k 0)) := by
  unfold okTo
  rw [List.range_succ, List.all_append]
  simp
theorem okTo_at {ls : List Nat} {k m : Nat} (h : ls[k]? = some m) (h0 : okTo ls k = true) : okTo ls (k + 1) = okAt ls.length k m := by
  rw [okTo_succ, h0, List.getD_eq_getElem?_getD, h]
  rfl
theorem okTo_later {ls : List Nat} {k n : Nat} (h : okTo ls k = false) (hk : k ≤ n) : okTo ls n = false := by
  rw [← Bool.not_eq_true] at h ⊢
  intro h1
  apply h
  unfold okTo at *
  rw [List.all_eq_true] at *
  intro j hj
  exact h1 j (by rw [List.mem_range] at *; omega)
theorem okAt_small {n k m : Nat} (h : okAt n k m = true) : 1 ≤ m ∧ m ≤ 4000 ∧ (k + 1 ≠ n → m ≤ 2047) := by
  unfold okAt at h
  rw [Bool.and_eq_true, decide_eq_true_iff, decide_eq_true_iff] at h
  obtain ⟨h1, h2⟩ := h
  by_cases hk : k + 1 = n
  · rw [if_pos hk] at h2
    exact ⟨h1, h2, fun h => absurd hk h⟩
  · rw [if_neg hk] at h2
    exact ⟨h1, by omega, fun _ => h2⟩
theorem okTo_small {ls : List Nat} (h : okTo ls ls.length = true) {k m : Nat} (hm : ls[k]? = some m) : 1 ≤ m ∧ m ≤ 4000 ∧ (k + 1 ≠ ls.length → m ≤ 2047) := by
  have hk : k < ls.length := (List.getElem?_eq_some_iff.1 hm).1
  unfold okTo at h
  rw [List.all_eq_true] at h
  have h1 := h k (by rw [List.mem_range]; exact hk)
  rw [List.getD_eq_getElem?_getD, hm] at h1
  exact okAt_small h1
def sumTo (ls : List Nat) (k : Nat) : Nat := (ls.take k).sum
theorem sumTo_zero (ls : List Nat) : sumTo ls 0 = 0 := by simp [sumTo]
theorem sumTo_all (ls : List Nat) : sumTo ls ls.length = ls.sum := by simp [sumTo]
theorem sumTo_succ {ls : List Nat} {k m : Nat} (h : ls[k]? = some m) : sumTo ls (k + 1) = sumTo ls k + m := by
  obtain ⟨hk, rfl⟩ := List.getElem?_eq_some_iff.1 h
  unfold sumTo
  rw [List.take_succ_eq_append_getElem hk, List.sum_append]
  simp
theorem sumTo_le (ls : List Nat) (k : Nat) : sumTo ls k ≤ ls.sum := by
  have h := List.take_append_drop k ls
  have h1 : ls.sum = (ls.take k).sum + (ls.drop k).sum := by rw [← List.sum_append, h]
  unfold sumTo
  omega
theorem sumTo_bound {ls : List Nat} {k : Nat} (h : okTo ls k = true) (hk : k ≤ ls.length) : sumTo ls k ≤ 4000 * k := by
  induction k with
  | zero => simp [sumTo]
  | succ k ih =>
    have hm : ls[k]? = some ls[k] := List.getElem?_eq_getElem (by omega)
    rw [okTo_succ, Bool.and_eq_true, List.getD_eq_getElem?_getD, hm] at h
    have h1 := okAt_small h.2
    have h2 := ih h.1 (by omega)
    rw [sumTo_succ hm]
    simp only [Option.getD_some] at h1
    omega

/-- how many bytes fields have, with their lengths; 0: they may not be -/
def szF (ls : List Nat) (wd : Int) : Int := if 1 ≤ ls.length ∧ ls.length ≤ 24 ∧ okTo ls ls.length = true then sizeF ((ls.length : Int) - 1) wd + ls.sum else 0
/-- .. behind a head, at most 4000 in all -/
def fieldsF (ls : List Nat) (head wd : Int) : Int := if 1 ≤ ls.length ∧ ls.length ≤ 24 ∧ okTo ls ls.length = true ∧ head + sizeF ((ls.length : Int) - 1) wd + ls.sum ≤ 4000 then head + sizeF ((ls.length : Int) - 1) wd + ls.sum else 0
theorem sizeF_nonneg (n x : Int) : 0 ≤ sizeF n x ∧ sizeF n x ≤ 46 := by
  unfold sizeF
  split
  · rename_i h
    rw [Bool.and_eq_true, Bool.and_eq_true, decide_eq_true_iff, decide_eq_true_iff] at h
    obtain ⟨h1, h2, h3⟩ := h
    rcases okW_nat h1 with rfl | rfl <;> omega
  · omega
theorem szF_pos {ls : List Nat} {wd : Int} : (szF ls wd = 0 ∧ ¬ (1 ≤ ls.length ∧ ls.length ≤ 24 ∧ okTo ls ls.length = true)) ∨ (szF ls wd = sizeF ((ls.length : Int) - 1) wd + ls.sum ∧ 1 ≤ szF ls wd ∧ szF ls wd ≤ 100000 ∧ 1 ≤ ls.length ∧ ls.length ≤ 24 ∧ okTo ls ls.length = true) := by
  unfold szF
  split
  · rename_i h
    right
    obtain ⟨h1, h2, h3⟩ := h
    have h4 := sumTo_bound h3 (Nat.le_refl _)
    rw [sumTo_all] at h4
    have h5 := sizeF_nonneg ((ls.length : Int) - 1) wd
    have h6 : 1 ≤ ls.sum := by
      have hm : ls[0]? = some ls[0] := List.getElem?_eq_getElem (by omega)
      have h7 := okTo_small h3 hm
      have h8 := sumTo_succ hm
      have h9 := sumTo_le ls (0 + 1)
      omega
    exact ⟨rfl, by omega, by omega, h1, h2, h3⟩
  · exact .inl ⟨rfl, by assumption⟩
/-- the code's way to it -/
theorem fieldsF_code (ls : List Nat) (head wd : Int) : fieldsF ls head wd = if szF ls wd = 0 ∨ 4000 < head + szF ls wd then 0 else head + szF ls wd := by
  rcases szF_pos (ls := ls) (wd := wd) with ⟨h1, h2⟩ | ⟨h1, h2, h3, h4, h5, h6⟩
  · rw [if_pos (.inl h1)]
    unfold fieldsF
    rw [if_neg (fun h => h2 ⟨h.1, h.2.1, h.2.2.1⟩)]
  · unfold fieldsF
    by_cases h7 : 4000 < head + szF ls wd
    · rw [if_neg (fun h => by omega), if_pos (.inr h7)]
    · rw [if_pos ⟨h4, h5, h6, by omega⟩, if_neg (by omega)]
      omega
end Go.Proofs.Ytbcjfdhphpckfaa
