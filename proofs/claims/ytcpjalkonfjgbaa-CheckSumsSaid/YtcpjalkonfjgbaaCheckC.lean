/-
  What Open does: the bytes ahead of their sum, or why there are none.
-/
import Derived.Test.YtcpjalkonfjgbaaCheckB
import Derived.StillTailTactics
namespace Go.Proofs.Ytcpjalkonfjgbaa
open Go.RowKit

set_option maxHeartbeats 400000 in
theorem open_short (A : Option Addr) (n cap : Nat) (hn : n < 2) (w : World) :
    Calls Try.prog 11 #[.slice A n cap] w fun e w' => e = .returned (.tuple #[.slice none 0 0, .int .i64 8]) ∧ w = w' := by
  go_enter Try.func11, Try.ntmps11
  go_wp2
  exact bodyPost_ret (v := .tuple #[.slice none 0 0, .int .i64 8]) (by simp [results, Try.results11, go_sem]) rfl ⟨rfl, rfl⟩

theorem or_go (hi lo : Nat) (hh : hi < 256) (hl : lo < 256) : bits .or .u16 ((hi : Int) * 256) (lo : Int) = ((256 * hi + lo : Nat) : Int) := by
  have h1 : (hi : Int) * 256 = ((2 ^ 8 * hi : Nat) : Int) := by omega
  rw [h1, u16_or_nat _ _ (by omega) (by omega), ← Nat.two_pow_add_eq_or_of_lt (i := 8) hl hi]

theorem src_two {w : World} {ad : Addr} {l : List Nat} {n hi lo : Nat} (hn : l.length = n) (hsrc : Src w (some ad) (bts (l ++ [hi, lo]))) :
    Src w (some ad) (bts l) ∧ w.cell? (ad.add n) = some (.int .u8 hi) ∧ w.cell? (ad.add (n + 1)) = some (.int .u8 lo) := by
  have h2 : (bts [hi, lo]).length = 2 := rfl
  have hcc : ∀ j u, (bts (l ++ [hi, lo]))[j]? = some u → w.cell? (ad.add j) = some u := by
    obtain ⟨ad', e0, hcc⟩ := hsrc (by rw [bts_append, List.length_append]; omega)
    injection e0 with e0
    subst e0
    exact hcc
  refine ⟨fun _ => ⟨ad, rfl, fun j u hu => hcc j u ?_⟩, hcc n _ ?_, hcc (n + 1) _ ?_⟩
  · rw [bts_append, List.getElem?_append_left (List.getElem?_eq_some_iff.1 hu).1]
    exact hu
  · rw [bts_append, List.getElem?_append_right (by rw [length_bts]; omega), length_bts, hn, Nat.sub_self]
    rfl
  · rw [bts_append, List.getElem?_append_right (by rw [length_bts]; omega), length_bts, hn, Nat.add_sub_cancel_left]
    rfl

set_option maxRecDepth 100000 in
set_option maxHeartbeats 1600000 in
theorem open_wrong {ad : Addr} {cap : Nat} {l : List Nat} (n hi lo : Nat) (hn : l.length = n) (hm : n ≤ 140737488351232) (hc : n + 2 ≤ cap) (w : World) (hsrc : Src w (some ad) (bts (l ++ [hi, lo]))) (hb : ∀ b ∈ l, b < 256) (hh : hi < 256) (hl : lo < 256)
    (hs : more 65535 l ≠ 256 * hi + lo) :
    Calls Try.prog 11 #[.slice (some ad) (n + 2 : Nat) cap] w fun e w' => e = .returned (.tuple #[.slice none 0 0, .int .i64 13]) ∧ Below w.heap.size w w' := by
  obtain ⟨hs1, c0, c1⟩ := src_two hn hsrc
  have hlt := more_lt (s := 65535) (by omega) hb
  have HC := fun W (h : Src W (some ad) (bts l)) => (of_any (cap := cap) n hn (by unfold maxLen; omega) W h hb)
  generalize more 65535 l = s at *
  have HCC := Lib.hid HC
  have HO := or_go hi lo hh hl
  have HNE := Lib.hid hs
  have hnc : n ≤ cap := by omega
  have hn0 : (0 : Int) ≤ (n : Int) := by omega
  have hn1 : (n : Int) < (n : Int) + 2 := by omega
  have hn2 : (n : Int) + 1 < (n : Int) + 2 := by omega
  have hn3 : (0 : Int) ≤ (n : Int) + 1 := by omega
  have hw1 : IntKind.i64.wrap ((n : Int) + 1) = (n : Int) + 1 := by rw [IntKind.wrap_i64]; omega
  have hw2 : IntKind.u16.wrap (hi : Int) = hi := by rw [IntKind.wrap_u16]; omega
  have hw3 : IntKind.u16.wrap ((hi : Int) * 256) = (hi : Int) * 256 := by rw [IntKind.wrap_u16]; omega
  have hw4 : IntKind.u16.wrap (lo : Int) = lo := by rw [IntKind.wrap_u16]; omega
  have hw5 : ((n : Int) + 1).toNat = n + 1 := by omega
  have hneq : ((s : Int) != 256 * (hi : Int) + lo) = true := by simp; omega
  clear hsrc hb hn hs HC
  go_enter Try.func11, Try.ntmps11
  go_wp2
  refine wp_region_still_lit (by kernel_rfl) (by kernel_rfl) ?_
  change wpStill _ _ w.drew (fun b => _) _ _
  have d0 : w.drew.cell? (ad.add n) = some (.int .u8 hi) := c0
  have d1 : w.drew.cell? ⟨ad.block, ad.off + (n + 1), none⟩ = some (.int .u8 lo) := c1
  have ds : Src w.drew (some ad) (bts l) := hs1
  have HDS := Lib.hid ds
  clear c0 c1 hs1 ds
  generalize w.drew = w9 at *
  repeat still_step
  still_call ((HCC.out w9 HDS.out).mono fun _ _ h => ⟨h.1, h.2.symm⟩)
  repeat still_step
  refine wpStill_nil ?_
  go_wp2
  exact bodyPost_ret (v := .tuple #[.slice none 0 0, .int .i64 13]) (by simp [results, Try.results11, go_sem]) rfl ⟨rfl, bl_drew (Below.refl _ _)⟩

set_option maxRecDepth 100000 in
set_option maxHeartbeats 1600000 in
theorem open_right {ad : Addr} {cap : Nat} {l : List Nat} (n hi lo : Nat) (hn : l.length = n) (hm : n ≤ 140737488351232) (hc : n + 2 ≤ cap) (w : World) (hsrc : Src w (some ad) (bts (l ++ [hi, lo]))) (hb : ∀ b ∈ l, b < 256) (hh : hi < 256) (hl : lo < 256)
    (hs : more 65535 l = 256 * hi + lo) :
    Calls Try.prog 11 #[.slice (some ad) (n + 2 : Nat) cap] w fun e w' => ∃ g, e = .returned (.tuple #[.slice (some ⟨g, 0, none⟩) n n, .int .i64 0]) ∧ w.heap.size ≤ g ∧ Row w' g 5 (bts l).toArray ∧ Below w.heap.size w w' := by
  obtain ⟨hs1, c0, c1⟩ := src_two hn hsrc
  have hlt := more_lt (s := 65535) (by omega) hb
  have HC := fun W (h : Src W (some ad) (bts l)) => (of_any (cap := cap) n hn (by unfold maxLen; omega) W h hb)
  generalize more 65535 l = s at *
  have HCC := Lib.hid HC
  have HO := or_go hi lo hh hl
  have hnc : n ≤ cap := by omega
  have hn0 : (0 : Int) ≤ (n : Int) := by omega
  have hn1 : (n : Int) < (n : Int) + 2 := by omega
  have hn2 : (n : Int) + 1 < (n : Int) + 2 := by omega
  have hn3 : (0 : Int) ≤ (n : Int) + 1 := by omega
  have hw1 : IntKind.i64.wrap ((n : Int) + 1) = (n : Int) + 1 := by rw [IntKind.wrap_i64]; omega
  have hw2 : IntKind.u16.wrap (hi : Int) = hi := by rw [IntKind.wrap_u16]; omega
  have hw3 : IntKind.u16.wrap ((hi : Int) * 256) = (hi : Int) * 256 := by rw [IntKind.wrap_u16]; omega
  have hw4 : IntKind.u16.wrap (lo : Int) = lo := by rw [IntKind.wrap_u16]; omega
  have hw5 : ((n : Int) + 1).toNat = n + 1 := by omega
  have hneq : ((s : Int) != 256 * (hi : Int) + lo) = false := by simp; omega
  have hmk := make_many n (by omega)
  have HL := Lib.hid (show (bts l).length = n by rw [length_bts]; exact hn)
  have HSW := Lib.hid hs1
  have hsz : (Try.prog.info? 5).map (·.size) = some 1 := by
    obtain ⟨i, hi, _, h1, _⟩ := info5_parts
    rw [hi]
    simp [h1]
  clear hsrc hb hn hs HC
  go_enter Try.func11, Try.ntmps11
  go_wp2
  refine wp_region_still_lit (by kernel_rfl) (by kernel_rfl) ?_
  change wpStill _ _ w.drew (fun b => _) _ _
  have d0 : w.drew.cell? (ad.add n) = some (.int .u8 hi) := c0
  have d1 : w.drew.cell? ⟨ad.block, ad.off + (n + 1), none⟩ = some (.int .u8 lo) := c1
  have ds : Src w.drew (some ad) (bts l) := hs1
  have HDS := Lib.hid ds
  clear c0 c1 hs1 ds
  generalize w.drew = w9 at *
  repeat still_step
  still_call ((HCC.out w9 HDS.out).mono fun _ _ h => ⟨h.1, h.2.symm⟩)
  repeat still_step
  refine wpStill_nil ?_
  clear d0 d1 HDS
  go_wp2_with (refine wpList_copy_splice rfl _ _ 23 23 rfl 5 Try.underlying23 hsz (some ⟨w.heap.size, 0, none⟩) (some ad) n n (n + 2) cap rfl rfl w.heap.size 0 (zeros n) 5 ?h1 (bts l) ?h2 ?h3 ?h4 ?h5 w.heap.size w ?h6 (Nat.le_refl _) ?_)
  case h1 => exact heap_alloc_new _ _
  case h2 => rw [HL.out]; exact (Nat.min_eq_right (by omega)).symm
  case h3 =>
    intro h0
    obtain ⟨ad', hA, hc⟩ := HSW.out h0
    injection hA with hA
    subst hA
    intro j v hv
    have hx := hc j v hv
    exact (World.cell?_alloc_some w.drew _ _ (by rw [show w.drew.cell? _ = w.cell? _ from rfl, hx]; rfl)).trans hx
  case h4 => rw [HL.out, length_zeros]; omega
  case h5 => exact bts_one l
  case h6 => exact bl_alloc (bl_drew (Below.refl _ _)) _
  intro w1 hrow hb
  have hr : Row w1 w.heap.size 5 (bts l).toArray := by
    have h := hrow.out
    rw [splice_all n _ HL.out] at h
    exact h
  have HB := Lib.hid hb
  clear hrow hb hmk
  go_wp2
  exact bodyPost_ret (v := .tuple #[.slice (some ⟨w.heap.size, 0, none⟩) n n, .int .i64 0]) (by simp [results, Try.results11, go_sem]) rfl ⟨_, rfl, Nat.le_refl _, hr, HB.out⟩
end Go.Proofs.Ytcpjalkonfjgbaa
