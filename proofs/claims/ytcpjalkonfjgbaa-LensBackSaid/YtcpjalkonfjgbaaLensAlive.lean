/-
  The fixed calls at the end of each statement of lens; equal lists.
-/
import Derived.Test.YtcpjalkonfjgbaaLensWrite
import Derived.StillTailTactics
namespace Go.Proofs.Ytcpjalkonfjgbaa
open Go.RowKit

/-- equal lists: told, when they are equal -/
theorem same_yes {A A' : Option Addr} {l : List Int} (n cap cap' : Nat) (w : World) (hn : l.length = n) (h1 : n ≤ 1000) (hs : Src w A (ins l)) (hs' : Src w A' (ins l)) :
    Calls Try.prog 25 #[.slice A n cap, .slice A' n cap'] w fun e w' => e = .returned (.bool true) ∧ Below w.heap.size w w' := by
  have HS := Lib.hid hs
  have HS' := Lib.hid hs'
  have HN := Lib.hid hn
  clear hs hs' hn
  go_enter Try.func25, Try.ntmps25
  go_wp2
  go_loopw [5] (fun i wr => ∃ k : Nat, k ≤ n ∧ i = .int .i64 k ∧ Hid (Below w.heap.size w wr)) (fun i _ => n - (intOf i).toNat)
  case atStart => exact ⟨0, by omega, rfl, Lib.hid (Below.refl _ _)⟩
  case round =>
    obtain ⟨k, hk, rfl, HB⟩ := hrel
    by_cases hlt : k < n
    · have hkl : k < l.length := by have := HN.out; omega
      have hx : l[k]? = some l[k] := List.getElem?_eq_getElem hkl
      obtain ⟨ad, rfl, hc⟩ := HS.out (by rw [length_ins]; omega)
      obtain ⟨ad', rfl, hc'⟩ := HS'.out (by rw [length_ins]; omega)
      have c0 := cell_below HB.out (hc _ _ (ins_at hx))
      have c1 := cell_below HB.out (hc' _ _ (ins_at hx))
      generalize l[k] = x at *
      have hlt2 : (k : Int) < (n : Int) := by omega
      have hk0 : (0 : Int) ≤ (k : Int) := by omega
      clear hc hc' hx
      go_wp2
      go_quiet (fail)
      go_wp2
      go_roundw
      case rel => exact ⟨k + 1, by omega, by go_num, Lib.hid (below_drewN HB.out _)⟩
      case measure => simp [intOf]; omega
    · obtain rfl : k = n := by omega
      go_wp2
      go_ret
      exact ⟨rfl, HB.out⟩

theorem la_one {w : World} {g : Nat} (h : Row w g 3 #[.int .i64 5]) :
    Calls Try.prog 19 #[.slice (some ⟨g, 0, none⟩) 1 1, .int .i64 11] w fun e w' => ∃ g', e = .returned (.tuple #[.slice (some ⟨g', 0, none⟩) 2 2, .int .i64 0]) ∧ Row w' g' 5 (bts [0, 80]).toArray ∧ Below w.heap.size w w' := by
  have h1 := write_ok_11 (L := [5]) 1 1 w rfl (by omega) (by omega) (by decide) (row_src (xs := insN [5]) h)
  rw [show pack (wbl 11 [5]) = [0, 80] by decide +kernel] at h1
  refine h1.mono ?_
  rintro e w' ⟨g', rfl, _, hr, hb⟩
  exact ⟨g', rfl, hr, hb⟩
theorem la_two {w : World} {g : Nat} (h : Row w g 5 (bts [128, 80, 7, 9]).toArray) :
    Calls Try.prog 23 #[.slice (some ⟨g, 0, none⟩) 4 4, .int .i64 11] w fun e w' => ∃ g', e = .returned (.tuple #[.slice (some ⟨g', 0, none⟩) 2 2, .int .i64 3, .int .i64 0]) ∧ w'.cell? ⟨g', 0, none⟩ = some (.int .i64 5) ∧ w'.cell? ⟨g', 1, none⟩ = some (.int .i64 7) ∧ Below w.heap.size w w' := by
  have h1 := read_11 (bs := [128, 80, 7, 9]) 4 4 w rfl (by omega) (by omega) (row_src h) (by decide)
  refine h1.mono ?_
  rintro e w' ⟨hr, hb⟩
  rw [show readF [128, 80, 7, 9] 11 = ([5, 7], 3, 0) by decide +kernel] at hr
  rcases hr with ⟨_, u, rfl, hu⟩ | ⟨h2, _⟩
  · obtain ⟨A, rfl, hc⟩ := hu.read
    obtain ⟨g', rfl, _, c0⟩ := hc 0 5 rfl
    obtain ⟨g2, e2, _, c1⟩ := hc 1 7 rfl
    injection e2 with e2
    injection e2 with e2 _ _
    subst e2
    exact ⟨g', rfl, c0, c1, hb⟩
  · exact absurd rfl h2
theorem la_three {w : World} {g : Nat} (h : Row w g 5 (bts [0, 81]).toArray) :
    Calls Try.prog 23 #[.slice (some ⟨g, 0, none⟩) 2 2, .int .i64 11] w fun e w' => e = .returned (.tuple #[.slice none 0 0, .int .i64 0, .int .i64 3]) ∧ Below w.heap.size w w' := by
  have h1 := read_11 (bs := [0, 81]) 2 2 w rfl (by omega) (by omega) (row_src h) (by decide)
  refine h1.mono ?_
  rintro e w' ⟨hr, hb⟩
  rw [show readF [0, 81] 11 = ([], 0, 3) by decide +kernel] at hr
  rcases hr with ⟨h2, _⟩ | ⟨_, rfl⟩
  · exact absurd h2 (by decide)
  · exact ⟨rfl, hb⟩
theorem la_four (v : Value) (w : World) : Calls Try.prog 19 #[v, .int .i64 12] w fun e w' => e = .returned (.tuple #[.slice none 0 0, .int .i64 9]) ∧ w = w' :=
  write_bad v 12 9 w (by decide) (fault_kind v w rfl)
theorem la_size (w : World) : Calls Try.prog 21 #[.int .i64 3, .int .i64 15] w fun e w' => e = .returned (.int .i64 6) ∧ w = w' := by
  have h := size_any 3 15 w
  rw [show sizeF 3 15 = 6 by decide +kernel] at h
  exact h

set_option maxRecDepth 100000 in
set_option maxHeartbeats 1600000 in
theorem lalive_any (w : World) : Calls Try.prog 18 #[] w fun e w' => e = .returned (.bool true) ∧ Below w.heap.size w w' := by
  go_enter Try.func18, Try.ntmps18
  go_wp2_with (first
    | (go_at_call 19; (with_reducible refine (la_one ?_).mono ?_); exact Row.made _ _ _; rintro e w1 ⟨g1, rfl, hr1, hb1⟩; have HR1 := Lib.hid hr1; have HB1 := Lib.hid (bl_step (bl_alloc (Below.refl w.heap.size w) _) hb1); clear hr1 hb1)
    | (go_at_call 23; (with_reducible refine (la_two ?_).mono ?_); exact Row.made _ _ _; rintro e w2 ⟨g2, rfl, c0, c1, hb2⟩; have HR2 := Lib.hid ((HR1.out.more _).later hb2); have HB2 := Lib.hid (bl_step (bl_alloc HB1.out _) hb2); have HC := Lib.hid (And.intro c0 c1); clear hb2 c0 c1)
    | (go_at_call 23; (with_reducible refine (la_three ?_).mono ?_); exact Row.made _ _ _; rintro e w3 ⟨rfl, hb3⟩; have HR3 := Lib.hid ((HR2.out.more _).later hb3); have HB3 := Lib.hid (bl_step (bl_alloc HB2.out _) hb3); have HC3 := Lib.hid (And.intro (cell_below (bl_step (bl_alloc (Below.refl w2.heap.size w2) _) hb3) HC.out.1) (cell_below (bl_step (bl_alloc (Below.refl w2.heap.size w2) _) hb3) HC.out.2)); clear hb3)
    | (go_at_call 19; (with_reducible refine (la_four _ _).mono ?_); rintro e w4 ⟨rfl, rfl⟩; have cv : (convert 23 9 (.slice (some ⟨g1, 0, none⟩) 2 2)).run Try.prog (w3.alloc (.cells #[.int .i64 5] 3)) = .ok (.string ⟨#[0, 80]⟩) (w3.alloc (.cells #[.int .i64 5] 3)) := conv_str (l := [0, 80]) (HR3.out.more _) (by decide); have e0 := cell_below (bl_alloc (Below.refl w3.heap.size w3) (.cells #[.int .i64 5] 3)) HC3.out.1; have e1 := cell_below (bl_alloc (Below.refl w3.heap.size w3) (.cells #[.int .i64 5] 3)) HC3.out.2)
    | (go_at_call 21; (with_reducible refine (la_size _).mono ?_); rintro e w5 ⟨rfl, rfl⟩))
  go_ret
  exact ⟨rfl, bl_alloc HB3.out _⟩
end Go.Proofs.Ytcpjalkonfjgbaa
