/-
  What the functions of package seqnum answer, call by call.
-/
import Derived.Test.YtjilmgbjbkidnaaKit
namespace Go.Proofs.Ytjilmgbjbkidnaa
open Go.RowKit

def rt (b : Int) : Bool := decide (1 ≤ b ∧ b ≤ 16)
def sz (b : Int) : Int := if rt b then 2 ^ b.toNat else 0
def okn (b n : Int) : Bool := decide (0 ≤ n ∧ n < sz b)

theorem rt_true {b : Int} (h : rt b = true) : 1 ≤ b ∧ b ≤ 16 := of_decide_eq_true h
theorem rt_false {b : Int} (h : rt b = false) : b < 1 ∨ 16 < b := by have := of_decide_eq_false h; omega
theorem rt_of {b : Int} (h1 : 1 ≤ b) (h2 : b ≤ 16) : rt b = true := decide_eq_true ⟨h1, h2⟩
theorem rt_not {b : Int} (h : b < 1 ∨ 16 < b) : rt b = false := decide_eq_false (by omega)
theorem sz_cases {b : Int} (h : rt b = true) : sz b = 2 ∨ sz b = 4 ∨ sz b = 8 ∨ sz b = 16 ∨ sz b = 32 ∨ sz b = 64 ∨ sz b = 128 ∨ sz b = 256 ∨ sz b = 512 ∨ sz b = 1024 ∨ sz b = 2048 ∨ sz b = 4096 ∨ sz b = 8192 ∨ sz b = 16384 ∨ sz b = 32768 ∨ sz b = 65536 := by
  obtain ⟨h1, h2⟩ := rt_true h
  unfold sz
  rw [if_pos h]
  obtain rfl | rfl | rfl | rfl | rfl | rfl | rfl | rfl | rfl | rfl | rfl | rfl | rfl | rfl | rfl | rfl : b = 1 ∨ b = 2 ∨ b = 3 ∨ b = 4 ∨ b = 5 ∨ b = 6 ∨ b = 7 ∨ b = 8 ∨ b = 9 ∨ b = 10 ∨ b = 11 ∨ b = 12 ∨ b = 13 ∨ b = 14 ∨ b = 15 ∨ b = 16 := by omega
  all_goals simp
theorem sz_zero {b : Int} (h : rt b = false) : sz b = 0 := by unfold sz; rw [h]; rfl


set_option maxHeartbeats 400000 in
theorem right_any (b : Int) (w : World) :
    Calls Try.prog 34 #[.agg #[.int .i64 b]] w fun e w' => e = .returned (.bool (rt b)) ∧ Below w.heap.size w w' := by
  go_enter Try.func34, Try.ntmps34
  go_wp2
  go_loop [4] (fun i => ∃ k : Nat, k ≤ 16 ∧ i = .int .i64 k ∧ (b < 1 ∨ k < b)) (fun i => 16 - (intOf i).toNat)
  case atStart => exact ⟨0, by omega, rfl, by omega⟩
  case round =>
    obtain ⟨k, hk, rfl, hb⟩ := hrel
    go_wp2
    · go_ret
      exact ⟨ret_bool (rt_of (by omega) (by omega)).symm, (Below.refl _ _).alloc (Nat.le_refl _) _⟩
    · go_round
      case rel => exact ⟨k + 1, by omega, by go_num, by omega⟩
      case measure => simp [intOf]; omega
    · go_ret
      exact ⟨ret_bool (rt_not (by omega)).symm, (Below.refl _ _).alloc (Nat.le_refl _) _⟩



set_option maxHeartbeats 400000 in
theorem size_any (b : Int) (w : World) :
    Calls Try.prog 35 #[.agg #[.int .i64 b]] w fun e w' => e = .returned (.int .i64 (sz b)) ∧ Below w.heap.size w w' := by
  cases hr : rt b
  · rw [sz_zero hr]
    have H := Lib.hid hr
    clear hr
    go_enter Try.func35, Try.ntmps35
    go_wp2_with (go_at_call 34; refine (right_any _ _).mono ?_; rintro e w1 ⟨rfl, hb⟩; rw [H.out])
    go_ret
    exact ⟨rfl, ((Below.refl _ _).alloc (Nat.le_refl _) _).trans (hb.mono (by simp))⟩
  · have hs := sz_cases hr
    obtain ⟨h1, h2⟩ := rt_true hr
    have hs : sz b = 2 ^ b.toNat := by unfold sz; rw [if_pos hr]
    have Hs := Lib.hid hs
    have H := Lib.hid hr
    clear hr hs
    go_enter Try.func35, Try.ntmps35
    go_wp2_with (go_at_call 34; refine (right_any _ _).mono ?_; rintro e w1 ⟨rfl, hb⟩; obtain ⟨hc, hf⟩ := bcell hb; rw [H.out])
    go_ret
    have hw : wrap64 (2 ^ b.toNat) = 2 ^ b.toNat := by rw [← Hs.out]; exact IntWalk.wrap64_in _ ⟨by omega, by omega⟩
    exact ⟨ret_int (hw.trans Hs.out.symm), ((Below.refl _ _).alloc (Nat.le_refl _) _).trans (hb.mono (by simp))⟩

theorem sz_bd (b : Int) : 0 ≤ sz b ∧ sz b ≤ 65536 := by
  cases h : rt b
  · rw [sz_zero h]; omega
  · have := sz_cases h; omega

set_option maxHeartbeats 400000 in
theorem is_any (b n : Int) (w : World) :
    Calls Try.prog 37 #[.agg #[.int .i64 b], .int .i64 n] w fun e w' => e = .returned (.bool (okn b n)) ∧ Below w.heap.size w w' := by
  by_cases hn : 0 ≤ n
  · have ho : okn b n = decide (n < sz b) := by unfold okn; simp [hn]
    have H := Lib.hid ho
    clear ho
    go_enter Try.func37, Try.ntmps37
    go_wp2_with (go_at_call 35; refine (size_any _ _).mono ?_; rintro e w1 ⟨rfl, hb⟩)
    go_ret
    exact ⟨ret_bool H.out.symm, ((Below.refl _ _).alloc (Nat.le_refl _) _).trans (hb.mono (by simp))⟩
  · have ho : okn b n = false := decide_eq_false (by omega)
    have H := Lib.hid ho
    clear ho
    go_enter Try.func37, Try.ntmps37
    go_wp2
    go_ret
    exact ⟨ret_bool H.out.symm, ((Below.refl _ _).alloc (Nat.le_refl _) _)⟩

def flt (b : Int) (xs : List Int) : Int := if rt b then (if xs.all (okn b) then 0 else 1) else 3

theorem all_take_step {xs : List Int} {p : Int → Bool} {k : Nat} (hk : k < xs.length) (h : (xs.take k).all p = true) (hx : p xs[k] = true) : (xs.take (k + 1)).all p = true := by
  rw [List.take_succ_eq_append_getElem hk, List.all_append, h]; simp [hx]
theorem all_take_out {xs : List Int} {p : Int → Bool} {k : Nat} (hk : k < xs.length) (hx : p xs[k] = false) : xs.all p = false := by
  rw [List.all_eq_false]; exact ⟨xs[k], List.getElem_mem _, by simp [hx]⟩

set_option maxHeartbeats 400000 in
theorem fault_any (b : Int) (xs : List Int) (g : Nat) (w : World) (hx : ∀ i, (h : i < xs.length) → w.cell? ⟨g, i, none⟩ = some (.int .i64 xs[i])) (hg : g < w.heap.size) (hl : xs.length ≤ 3) :
    Calls Try.prog 47 #[.agg #[.int .i64 b], .slice (some ⟨g, 0, none⟩) xs.length xs.length] w fun e w' => e = .returned (.int .i64 (flt b xs)) ∧ Below w.heap.size w w' := by
  have HX := Lib.hid hx
  clear hx
  cases hr : rt b
  · have hf : flt b xs = 3 := by unfold flt; rw [hr]; rfl
    have HF := Lib.hid hf
    have H := Lib.hid hr
    clear hr hf
    go_enter Try.func47, Try.ntmps47
    go_wp2_with (go_at_call 34; refine (right_any _ _).mono ?_; rintro e w1 ⟨rfl, hb⟩; rw [H.out])
    go_ret
    exact ⟨ret_int HF.out.symm, ((Below.refl _ _).alloc (Nat.le_refl _) _).trans (hb.mono (by simp))⟩
  · have hf : flt b xs = if xs.all (okn b) then 0 else 1 := by unfold flt; rw [hr]; rfl
    have HF := Lib.hid hf
    have H := Lib.hid hr
    clear hr hf
    go_enter Try.func47, Try.ntmps47
    go_wp2_with (go_at_call 34; refine (right_any _ _).mono ?_; rintro e w1 ⟨rfl, hb⟩; rw [H.out])
    go_loopw [12] (fun i wr => ∃ k : Nat, k ≤ xs.length ∧ i = .int .i64 k ∧ Hid ((xs.take k).all (okn b) = true) ∧ Below (w.alloc (.cells #[.int .i64 b] 55)).heap.size (w.alloc (.cells #[.int .i64 b] 55)) wr) (fun i _ => xs.length - (intOf i).toNat)
    case atStart => exact ⟨0, by omega, rfl, Lib.hid (by simp), hb⟩
    case round =>
      obtain ⟨k, hk, rfl, hall, hbr⟩ := hrel
      have hfin : Below w.heap.size w wr := ((Below.refl _ _).alloc (Nat.le_refl _) _).trans (hbr.mono (by simp))
      have hbox : wr.cell? ⟨w.heap.size, 0, none⟩ = some (.int .i64 b) := (hbr.cell (p := ⟨w.heap.size, 0, none⟩) (by simp)).trans (by simp)
      by_cases hlt : k < xs.length
      · have hcell : wr.cell? ⟨g, k, none⟩ = some (.int .i64 xs[k]) := ((hbr.cell (p := ⟨g, k, none⟩) (by simp; omega)).trans (World.cell?_alloc_lt w _ _ hg)).trans (HX.out k hlt)
        have HB := Lib.hid hbr
        clear hb hbr
        cases ho : okn b xs[k]
        · have hA := Lib.hid (all_take_out hlt ho)
          have HO := Lib.hid ho
          clear ho
          go_wp2_with (go_at_call 37; refine (is_any _ _ _).mono ?_; rintro e w1 ⟨rfl, hb1⟩; rw [HO.out])
          go_ret
          exact ⟨ret_int (by rw [HF.out, hA.out]; rfl), hfin.trans (hb1.mono hfin.size)⟩
        · have hA := Lib.hid (all_take_step hlt hall.out ho)
          have HO := Lib.hid ho
          clear ho
          go_wp2_with (go_at_call 37; refine (is_any _ _ _).mono ?_; rintro e w1 ⟨rfl, hb1⟩; rw [HO.out])
          go_roundw
          case rel => exact ⟨k + 1, by omega, by go_num, hA, HB.out.trans (hb1.mono HB.out.size)⟩
          case measure => simp [intOf]; omega
      · clear hb
        go_wp2
        go_ret
        exact ⟨ret_int (by rw [HF.out, ← List.take_of_length_le (i := k) (l := xs) (by omega), hall.out]; rfl), hfin⟩

def farV (b a c : Int) : Int := (c - a) % sz b
theorem okn_true {b n : Int} (h : okn b n = true) : 0 ≤ n ∧ n < sz b := of_decide_eq_true h
theorem okn_false {b n : Int} (h : okn b n = false) : n < 0 ∨ sz b ≤ n := by have := of_decide_eq_false h; omega

set_option maxHeartbeats 400000 in
theorem far_any (b a c : Int) (w : World) (hr : rt b = true) (h1 : okn b a = true) (h2 : okn b c = true) :
    Calls Try.prog 49 #[.agg #[.int .i64 b], .int .i64 a, .int .i64 c] w fun e w' => e = .returned (.int .i64 (farV b a c)) ∧ Below w.heap.size w w' := by
  have hs := sz_cases hr
  have hz : 2 ≤ sz b ∧ sz b ≤ 65536 := by omega
  obtain ⟨hz1, hz2⟩ := hz
  obtain ⟨ha1, ha2⟩ := okn_true h1
  obtain ⟨hc1, hc2⟩ := okn_true h2
  clear hs hr h1 h2
  go_enter Try.func49, Try.ntmps49
  go_wp2
  go_region_with (go_at_call 35; refine (size_any _ _).mono ?_; rintro e w1 ⟨rfl, hb⟩; obtain ⟨hc, hf⟩ := bcell hb)
  all_goals
    go_wp2
    go_ret
    exact ⟨ret_int (by unfold farV; rfl), by repeat (first | exact Below.refl _ _ | refine bl_alloc ?_ _ | refine bl_drew ?_ | refine bl_step ?_ (by assumption))⟩


end Go.Proofs.Ytjilmgbjbkidnaa
