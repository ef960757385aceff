/-
  What shifted, More and Of answer: the sum as a number.
-/
import Derived.Test.YtcpjalkonfjgbaaBits
import Derived.Test.YtcpjalkonfjgbaaCrc
import Derived.Laws.BitsAllLaws
namespace Go.Proofs.Ytcpjalkonfjgbaa
open Go.RowKit

theorem T_go (s : Nat) (hs : s < 65536) : bits .xor .u16 (IntKind.u16.wrap ((s : Int) * 2)) ((s : Int) / 32768 * 4129) = ((T s : Nat) : Int) := by
  have h1 : IntKind.u16.wrap ((s : Int) * 2) = ((2 * s % 65536 : Nat) : Int) := by rw [IntKind.wrap_u16]; omega
  have h2 : (s : Int) / 32768 * 4129 = ((s / 32768 * 4129 : Nat) : Int) := by omega
  rw [h1, h2, u16_xor_nat _ _ (by omega) (by omega)]
  rfl

set_option maxRecDepth 100000 in
set_option maxHeartbeats 800000 in
theorem shifted_any (s : Nat) (hs : s < 65536) (w : World) : Calls Try.prog 26 #[.int .u16 s] w fun e w' => e = .returned (.int .u16 (Tn 8 s)) ∧ w = w' := by
  go_enter Try.func26, Try.ntmps26
  go_wp2
  refine wp_scope_jumps 0 (fun a' w' => ∃ k q : Nat, k ≤ 8 ∧ q < 65536 ∧ q = Tn (8 - k) s ∧ Fr [some (.int .u16 q), none, none, some (.int .i64 k), none, none, none, none, none, none, none, none, none, none, none] a' ∧ w' = w) (fun a' _ => (intOf (a'.tmps.getD 3 undef)).toNat) rfl ?_ ?_
  · have HT := Lib.hid (T_go s hs)
    go_wp2
    go_step3
    go_wp2
    go_step3
    rw [HT.out]
    refine ⟨rfl, 7, T s, by omega, T_lt hs, rfl, ?_, rfl⟩
    simp only [Fr, Holes]
    repeat apply Exists.intro
    rfl
  · rintro a' w' ⟨k, q, hk, hq, hqs, hfr, rfl⟩
    simp only [Fr, Holes] at hfr
    repeat (obtain ⟨_, hfr⟩ := hfr)
    have HQ := Lib.hid hqs
    clear hqs
    rcases Nat.eq_zero_or_pos k with hk0 | hk0
    · subst hk0
      go_wp2
      simp only [Exit.jump]
      go_ret
      exact ⟨by rw [HQ.out]; rfl, rfl⟩
    · obtain ⟨j, rfl⟩ : ∃ j, k = j + 1 := ⟨k - 1, by omega⟩
      have HT := Lib.hid (T_go q hq)
      go_wp2
      go_step3
      rw [HT.out]
      refine ⟨rfl, ⟨j, T q, by omega, T_lt hq, ?_, ?_, rfl⟩, ?_⟩
      · rw [HQ.out, show 8 - j = 8 - (j + 1) + 1 by omega]
        rfl
      · simp only [Fr, Holes]
        repeat apply Exists.intro
        rfl
      · simp [intOf]

theorem mb_go (s x : Nat) (hs : s < 65536) (hx : x < 256) : bits .xor .u16 (s : Int) ((x : Int) * 256) = ((s ^^^ 256 * x : Nat) : Int) := by
  have h1 : (x : Int) * 256 = ((256 * x : Nat) : Int) := by omega
  rw [h1, u16_xor_nat _ _ hs (by omega)]

theorem more_take_succ {s : Nat} {l : List Nat} {k : Nat} (h : k < l.length) : more s (l.take (k + 1)) = mb (more s (l.take k)) l[k] := by
  rw [List.take_succ_eq_append_getElem h, more_snoc]

set_option maxRecDepth 100000 in
set_option maxHeartbeats 800000 in
theorem more_any {A : Option Addr} {cap : Nat} {l : List Nat} (s n : Nat) (hn : l.length = n) (hs : s < 65536) (hm : n ≤ maxLen) (w : World) (hsrc : Src w A (bts l)) (hb : ∀ b ∈ l, b < 256) :
    Calls Try.prog 15 #[.int .u16 s, .slice A n cap] w fun e w' => e = .returned (.int .u16 (more s l)) ∧ w = w' := by
  have HN := Lib.hid hn
  have HS := Lib.hid hsrc
  have HB := Lib.hid hb
  clear hn hsrc hb
  unfold maxLen at hm
  go_enter Try.func15, Try.ntmps15
  go_wp2
  go_loopw [0, 9] (fun q i wr => ∃ k m : Nat, k ≤ n ∧ m < 65536 ∧ q = .int .u16 m ∧ i = .int .i64 k ∧ m = more s (l.take k) ∧ w = wr) (fun _ i _ => n - (intOf i).toNat)
  case atStart => exact ⟨0, s, by omega, hs, rfl, rfl, rfl, rfl⟩
  case round =>
    obtain ⟨k, m, hk, hm', rfl, rfl, hq, rfl⟩ := hrel
    have HQ := Lib.hid hq
    clear hq
    by_cases hlt : k < n
    · have hkl : k < l.length := by have := HN.out; omega
      have hx : l[k]? = some l[k] := List.getElem?_eq_getElem hkl
      obtain ⟨ad, rfl, hc⟩ := HS.out (by rw [length_bts]; omega)
      have hcell := hc _ _ (bts_at hx)
      have hxb := HB.out _ (List.getElem_mem hkl)
      have hst := more_take_succ (s := s) hkl
      generalize l[k] = x at *
      have HST := Lib.hid hst
      have HG := Lib.hid (mb_go m x hm' hxb)
      have hlt2 : (k : Int) < (n : Int) := by omega
      have hk0 : (0 : Int) ≤ (k : Int) := by omega
      have hxl : m ^^^ 256 * x < 65536 := xor_lt' hm' (by omega)
      clear hc hx hst
      go_wp2_with (go_at_call 26; rw [HG.out]; refine (shifted_any _ hxl _).mono ?_; rintro e w1 ⟨rfl, rfl⟩)
      go_roundw
      case rel => exact ⟨k + 1, mb m x, by omega, mb_lt hm' hxb, rfl, by go_num, by rw [HST.out, HQ.out], trivial⟩
      case measure => simp [intOf]; omega
    · obtain rfl : k = n := by omega
      have HQ2 := Lib.hid (show m = more s l by rw [HQ.out, ← HN.out, List.take_length])
      go_wp2
      go_ret
      exact ⟨by rw [HQ2.out]; rfl, rfl⟩

set_option maxHeartbeats 400000 in
theorem of_any {A : Option Addr} {cap : Nat} {l : List Nat} (n : Nat) (hn : l.length = n) (hm : n ≤ maxLen) (w : World) (hsrc : Src w A (bts l)) (hb : ∀ b ∈ l, b < 256) :
    Calls Try.prog 13 #[.slice A n cap] w fun e w' => e = .returned (.int .u16 (more 65535 l)) ∧ w = w' := by
  have HC := Lib.hid (more_any (cap := cap) 65535 n hn (by omega) hm w hsrc hb)
  clear hn hsrc hb hm
  go_enter Try.func13, Try.ntmps13
  go_wp2_with (go_at_call 15; refine HC.out.mono ?_; rintro e w1 ⟨rfl, rfl⟩)
  go_ret
  exact ⟨rfl, rfl⟩
end Go.Proofs.Ytcpjalkonfjgbaa
