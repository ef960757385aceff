/-
  CheckBursts: bits that are turned within 16 side by side, wherever in what is closed, are told: the law walked.
-/
import Derived.Test.YtcpjalkonfjgbaaCheckAlive
import Derived.Test.YtcpjalkonfjgbaaBurst
import Derived.Test.YtcpjalkonfjgbaaBitsPut
import Derived.StillTailTactics
namespace Go.Proofs.Ytcpjalkonfjgbaa
open Go.RowKit

theorem bit_go (p k : Nat) (hp : p < 65536) : (bits .and .u16 ((p : Int) / 2 ^ k) 1 == 1) = (p / 2 ^ k % 2 == 1) := by
  rw [cast_div_pow]
  have h1 : p / 2 ^ k ≤ p := Nat.div_le_self _ _
  generalize p / 2 ^ k = q at *
  have h2 := u16_and_nat q 1 (by omega) (by omega)
  rw [Nat.and_one_is_mod] at h2
  rw [show (1 : Int) = ((1 : Nat) : Int) from rfl, h2, Bool.eq_iff_iff, beq_iff_eq, beq_iff_eq]
  omega

/-- what is turned is not opened -/
theorem open_turned {w : World} {g : Nat} {c : List Nat} (n : Nat) (hn : c.length = n + 2) (hm : n ≤ 140737488351232) (h : Row w g 5 (bts c).toArray) (hb : ∀ b ∈ c, b < 256) (h0 : more 65535 c ≠ 0) :
    Calls Try.prog 11 #[.slice (some ⟨g, 0, none⟩) (n + 2 : Nat) (n + 2 : Nat)] w fun e w' => e = .returned (.tuple #[.slice none 0 0, .int .i64 13]) ∧ Below w.heap.size w w' := by
  have e : c = c.take n ++ [c[n], c[n + 1]] := by
    have h1 : c.drop n = [c[n], c[n + 1]] := by
      rw [List.drop_eq_getElem_cons (by omega), List.drop_eq_getElem_cons (by omega), List.drop_eq_nil_of_le (by omega)]
    rw [← h1, List.take_append_drop]
  have hl : ∀ b ∈ c.take n, b < 256 := fun b hx => hb b (List.mem_of_mem_take hx)
  have h1 := hb c[n] (List.getElem_mem _)
  have h2 := hb c[n + 1] (List.getElem_mem _)
  refine open_wrong (l := c.take n) n c[n] c[n + 1] (by rw [List.length_take]; omega) hm (Nat.le_refl _) w (by rw [← e]; exact row_src h) hl h1 h2 fun h3 => h0 ?_
  rw [e, more_append]
  exact (more_own_iff (more_lt (by omega) hl) h1 h2).2 h3

set_option maxRecDepth 100000 in
set_option maxHeartbeats 1600000 in
theorem bursts_guard (A : Option Addr) (l : List Nat) (n cap p : Nat) (a : Int) (w : World) (hn : l.length = n) (hm : n ≤ 140737488351232) (hs : Src w A (bts l)) (hb : ∀ b ∈ l, b < 256) (hp : p < 65536)
    (h : 3000 < n ∨ p = 0 ∨ a < 0 ∨ 8 * (n : Int) < a) :
    Calls Try.prog 5 #[.slice A n cap, .int .i64 a, .int .u16 p] w fun e w' => e = .returned (.bool true) ∧ Below w.heap.size w w' := by
  have HCL := Lib.hid (close_any (cap := cap) n hn hm w hs hb)
  clear hn hs hb
  rcases Nat.lt_or_ge 3000 n with h1 | h1
  · have h1' : (3000 : Int) < (n : Int) := by omega
    clear h
    go_enter Try.func5, Try.ntmps5
    go_wp2_with fail
    refine HCL.out.mono ?_
    rintro e w1 ⟨g1, rfl, hg1, hr1, hb1⟩
    go_wp2_with (go_at_call 10; refine (calive_any _).mono ?_; rintro e w2 ⟨rfl, hb2⟩)
    go_ret
    exact ⟨rfl, bl_step hb1 hb2⟩
  · have h1' : ¬ (3000 : Int) < (n : Int) := by omega
    by_cases h2 : p = 0
    · subst h2
      clear h
      go_enter Try.func5, Try.ntmps5
      go_wp2_with fail
      refine HCL.out.mono ?_
      rintro e w1 ⟨g1, rfl, hg1, hr1, hb1⟩
      go_wp2_with (go_at_call 10; refine (calive_any _).mono ?_; rintro e w2 ⟨rfl, hb2⟩)
      go_ret
      exact ⟨rfl, bl_step hb1 hb2⟩
    · have h2' : ((p : Int) == 0) = false := by simp; omega
      by_cases h3 : a < 0
      · clear h
        go_enter Try.func5, Try.ntmps5
        go_wp2_with fail
        refine HCL.out.mono ?_
        rintro e w1 ⟨g1, rfl, hg1, hr1, hb1⟩
        go_wp2_with (go_at_call 10; refine (calive_any _).mono ?_; rintro e w2 ⟨rfl, hb2⟩)
        go_ret
        exact ⟨rfl, bl_step hb1 hb2⟩
      · have h4 : 8 * ((n : Int) + 2) - 16 < a := by omega
        clear h
        go_enter Try.func5, Try.ntmps5
        go_wp2_with fail
        refine HCL.out.mono ?_
        rintro e w1 ⟨g1, rfl, hg1, hr1, hb1⟩
        go_wp2_with (go_at_call 10; refine (calive_any _).mono ?_; rintro e w2 ⟨rfl, hb2⟩)
        go_ret
        exact ⟨rfl, bl_step hb1 hb2⟩

set_option maxRecDepth 100000 in
set_option maxHeartbeats 3200000 in
theorem bursts_walk (A : Option Addr) (l : List Nat) (n cap p a : Nat) (w : World) (hn : l.length = n) (hm : n ≤ 3000) (hs : Src w A (bts l)) (hb : ∀ b ∈ l, b < 256) (hp : p < 65536) (h0 : p ≠ 0) (ha : a ≤ 8 * n) :
    Calls Try.prog 5 #[.slice A n cap, .int .i64 a, .int .u16 p] w fun e w' => e = .returned (.bool true) ∧ Below w.heap.size w w' := by
  have HCL := Lib.hid (close_any (cap := cap) n hn (by omega) w hs hb)
  have h1' : ¬ (3000 : Int) < (n : Int) := by omega
  have h2' : ((p : Int) == 0) = false := by simp; omega
  have h3' : ¬ (a : Int) < 0 := by omega
  have h4' : ¬ 8 * ((n : Int) + 2) - 16 < (a : Int) := by omega
  have HL := Lib.hid (show (closed l).length = n + 2 by rw [length_closed, hn])
  have HV := Lib.hid (closed_lt hb)
  have HM := Lib.hid (show more 65535 (closed l) = 0 by unfold closed; rw [more_append]; exact more_own (more_lt (by omega) hb))
  generalize closed l = c at *
  clear hn hs hb
  go_enter Try.func5, Try.ntmps5
  go_wp2_with fail
  refine HCL.out.mono ?_
  rintro e w1 ⟨g1, rfl, hg1, hr1, hb1⟩
  have HR1 := Lib.hid hr1
  have HB1 := Lib.hid hb1
  clear hr1 hb1 HCL
  go_wp2_with fail
  go_loopw [8] (fun i wr => ∃ k : Nat, k ≤ 16 ∧ i = .int .i64 k ∧ Row wr g1 5 (bts (turned c a p k)).toArray ∧ Below w.heap.size w wr) (fun i _ => 16 - (intOf i).toNat)
  case atStart => exact ⟨0, by omega, rfl, HR1.out, HB1.out⟩
  case round =>
    obtain ⟨k, hk, rfl, hrow, hbr⟩ := hrel
    have HB2 := Lib.hid hbr
    rcases Nat.lt_or_ge k 16 with hlt | hge
    · have hbit := bit_go p k hp
      have htl : (turned c a p k).length = n + 2 := by rw [length_turned, HL.out]
      by_cases hbt : p / 2 ^ k % 2 = 1
      · have hnx : turned c a p (k + 1) = flip (turned c a p k) (a + k) := by rw [turned, if_pos hbt]
        have hbt2 : (p / 2 ^ k % 2 == 1) = true := by simp [hbt]
        rw [hbt2] at hbit
        clear hbt hbt2 hbr
        go_wp2_with fail
        obtain ⟨q, hq⟩ : ∃ q, q = a + k := ⟨_, rfl⟩
        have hqq : (a : Int) + (k : Int) = (q : Int) := by omega
        have hq8 : q / 8 < n + 2 := by omega
        have hx : (turned c a p k)[q / 8]? = some (turned c a p k)[q / 8] := List.getElem?_eq_getElem (by omega)
        have hxb := turned_lt a p k HV.out _ (List.getElem_mem (show q / 8 < (turned c a p k).length by omega))
        have HFL := Lib.hid (show bts (flip (turned c a p k) q) = (bts (turned c a p k)).set (q / 8) (.int .u8 (((turned c a p k)[q / 8] ^^^ (128 / 2 ^ (q % 8)) : Nat) : Int)) by
          unfold flip
          rw [bts_set, List.getD_eq_getElem?_getD, hx]
          rfl)
        rw [← hq] at hnx
        have HNX := Lib.hid hnx
        have d0 : wr.cell? ⟨g1, q / 8, none⟩ = some (.int .u8 ((turned c a p k)[q / 8] : Nat)) := hrow.read (by simpa using bts_at hx)
        have hf0 := hrow.free (q / 8)
        generalize (turned c a p k)[q / 8] = x at *
        have HROW := Lib.hid hrow
        have hsm := bit_small (q % 8) (Nat.mod_lt _ (by omega))
        have HXO := Lib.hid (show bits .xor .u8 (x : Int) ((128 : Int) / 2 ^ (q % 8)) = ((x ^^^ (128 / 2 ^ (q % 8)) : Nat) : Int) by
          rw [show (128 : Int) / 2 ^ (q % 8) = ((128 / 2 ^ (q % 8) : Nat) : Int) from cast_div_pow 128 (q % 8)]
          exact u8_xor_nat _ _ hxb hsm.2.1)
        have hw1 : IntKind.i64.wrap (q : Int) = (q : Int) := by rw [IntKind.wrap_i64]; omega
        have hw2 : IntKind.i64.wrap ((q : Int) / 8) = (q : Int) / 8 := by rw [IntKind.wrap_i64]; omega
        have hw3 : ((q : Int) / 8).toNat = q / 8 := by omega
        obtain ⟨r, hr⟩ : ∃ r, q % 8 = r := ⟨_, rfl⟩
        have hr8 : r < 8 := by omega
        have htm : (q : Int).tmod 8 = (r : Int) := by rw [Int.tmod_eq_emod_of_nonneg (by omega)]; omega
        have hw4 : IntKind.i64.wrap (r : Int) = (r : Int) := by rw [IntKind.wrap_i64]; omega
        rw [hr] at HXO HFL
        have hi0 : (0 : Int) ≤ (q : Int) / 8 := by omega
        have hi1 : (q : Int) / 8 < (n : Int) + 2 := by omega
        clear hx hxb hnx hrow htl hsm hbit hq hr
        refine wp_region_still_tail 19 (by kernel_rfl) (by kernel_rfl) ?_
        change wpStill _ _ wr.drew (fun a' => wpList _ _ _ _ a' wr.drew) _ _
        have d1 : wr.drew.cell? ⟨g1, q / 8, none⟩ = some (.int .u8 (x : Nat)) := d0
        have hf1 : wr.drew.frozen? ⟨g1, q / 8, none⟩ = false := hf0
        have HR3 := Lib.hid (show Row wr.drew g1 5 (bts (turned c a p k)).toArray from HROW.out)
        have HB3 := Lib.hid (bl_drew HB2.out)
        clear d0 hf0 HROW HB2
        generalize wr.drew = w2 at *
        simp only [List.take_succ_cons, List.take_zero, List.drop_succ_cons, List.drop_zero]
        repeat still_step
        refine wpStill_nil ?_
        go_wp2
        refine ⟨⟨k + 1, by omega, by go_num, ?_, HB3.out.setCell hg1 _⟩, by simp [intOf]; omega⟩
        have h := HR3.out.written (q / 8) (.int .u8 (bits .xor .u8 (x : Int) ((128 : Int) / 2 ^ r)))
        rw [List.setIfInBounds_toArray] at h
        rw [HNX.out, HFL.out, ← HXO.out]
        exact h
      · have hnx : turned c a p (k + 1) = turned c a p k := by rw [turned, if_neg hbt]
        have hbt2 : (p / 2 ^ k % 2 == 1) = false := by simp; omega
        rw [hbt2] at hbit
        have HR2 := Lib.hid hrow
        have HX := Lib.hid hnx
        clear hbt hbt2 hbr hrow hnx
        go_wp2
        go_roundw
        case rel => exact ⟨k + 1, by omega, by go_num, by rw [HX.out]; exact HR2.out, HB2.out⟩
        case measure => simp [intOf]; omega
    · obtain rfl : k = 16 := by omega
      have HO := Lib.hid (open_turned n (by rw [length_turned, HL.out]) (by omega) hrow (turned_lt a p 16 HV.out) (burst (by omega) HV.out (by rw [HL.out]; omega) h0 hp HM.out))
      clear hrow hbr hge hk
      go_wp2_with (first
        | (go_at_call 11; refine HO.out.mono ?_; rintro e w3 ⟨rfl, hb3⟩)
        | (go_at_call 10; refine (calive_any _).mono ?_; rintro e w4 ⟨rfl, hb4⟩))
      go_ret
      exact ⟨rfl, bl_step (bl_step HB2.out hb3) hb4⟩

theorem bursts_all (A : Option Addr) (l : List Nat) (cap : Nat) (a p : Int) (w : World) (hm : l.length ≤ 140737488351232) (hs : Src w A (bts l)) (hb : ∀ b ∈ l, b < 256) (hp0 : 0 ≤ p) (hp : p < 65536) :
    Calls Try.prog 5 #[.slice A l.length cap, .int .i64 a, .int .u16 p] w fun e w' => e = .returned (.bool true) ∧ Below w.heap.size w w' := by
  obtain ⟨P, rfl⟩ : ∃ P : Nat, p = P := ⟨p.toNat, by omega⟩
  by_cases h : 3000 < l.length ∨ P = 0 ∨ a < 0 ∨ 8 * (l.length : Int) < a
  · exact bursts_guard A l l.length cap P a w rfl hm hs hb (by omega) h
  · obtain ⟨K, rfl⟩ : ∃ K : Nat, a = K := ⟨a.toNat, by omega⟩
    exact bursts_walk A l l.length cap P K w rfl (by omega) hs hb (by omega) (by omega) (by omega)
end Go.Proofs.Ytcpjalkonfjgbaa
