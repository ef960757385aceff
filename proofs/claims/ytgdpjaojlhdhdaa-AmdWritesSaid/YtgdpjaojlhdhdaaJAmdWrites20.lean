/-
  A head of amd: what the document says that it tells, walked. A head of amd: what the document says that it tells, walked.
-/
import Derived.Test.YtgdpjaojlhdhdaaJAmdWrites15
namespace Go.Proofs.Ytgdpjaojlhdhdaa
open Go.RowKit

set_option maxRecDepth 100000 in
set_option maxHeartbeats 3200000 in
theorem rhead_16tn0l0 {A : Option Addr} {hd : List Nat} (poll more : Bool) (fi sn off c : Nat) (w : World) (hn : hd.length = 5) (hs : SrcB w A (bls (bitsOf hd))) (hb1 : bitAt hd 1 = true) (hb2 : bitAt hd 2 = poll) (hb5 : bitAt hd 5 = more) (hb6 : bitAt hd 6 = false) (hb7 : bitAt hd 7 = false) (hs3 : val (seg hd 3 2) = fi) (hs8 : val (seg hd 8 16) = sn) (hs24 : val (seg hd 24 16) = off) :
    Calls Try.prog 175 #[.slice A 40 c, .int .i64 16] w fun e w' => e = .returned (.tuple #[.agg #[.bool poll, .int .i64 fi, .int .i64 sn, .bool true, .bool false, .int .i64 off, .slice none 0 0], .bool more, .bool true]) ∧ Below w.heap.size w w' := by
  obtain ⟨b, off0, rfl, _⟩ := hs (by rw [length_bls, length_bitsOf]; omega)
  have x1 := hs.bitc 1 (by omega)
  rw [hb1] at x1
  have x2 := hs.bitc 2 (by omega)
  rw [hb2] at x2
  have x5 := hs.bitc 5 (by omega)
  rw [hb5] at x5
  have x6 := hs.bitc 6 (by omega)
  rw [hb6] at x6
  have x7 := hs.bitc 7 (by omega)
  rw [hb7] at x7
  have hbin : b < w.heap.size := cell_in x1
  have HW := Lib.hid (fun W => show Calls Try.prog 177 #[.int .i64 16] W fun e w' => e = .returned (.tuple #[.int .i64 15, .int .i64 16]) ∧ W = w' from rwidths_any 16 W)
  have hv3 := val_lt (seg hd 3 2)
  rw [length_seg (by omega), hs3] at hv3
  have hv3 : fi < 4 := Nat.lt_of_lt_of_le hv3 (by decide)
  have hw3 : IntKind.i64.wrap (fi : Int) = (fi : Int) := by rw [IntKind.wrap_i64]; omega
  have HG3 := Lib.hid (fun W (hb : Below w.heap.size w W) => (show Calls Try.prog 284 #[.slice (some ⟨b, off0, none⟩) 40 c, .int .i64 3, .int .i64 2] W fun e w' => e = .returned (.tuple #[.int .u64 fi, .int .i64 5, .int .i64 0]) ∧ W = w' from by
    have h9 := refget_ok (bs := hd) (some ⟨b, off0, none⟩) 40 c 3 2 W (hs.later hb) (by rw [hn]) (by rw [hn]; omega) (by omega) (by omega)
    rw [hs3] at h9
    exact h9))
  have hv8 := val_lt (seg hd 8 16)
  rw [length_seg (by omega), hs8] at hv8
  have hv8 : sn < 65536 := Nat.lt_of_lt_of_le hv8 (by decide)
  have hw8 : IntKind.i64.wrap (sn : Int) = (sn : Int) := by rw [IntKind.wrap_i64]; omega
  have HG8 := Lib.hid (fun W (hb : Below w.heap.size w W) => (show Calls Try.prog 284 #[.slice (some ⟨b, off0, none⟩) 40 c, .int .i64 8, .int .i64 16] W fun e w' => e = .returned (.tuple #[.int .u64 sn, .int .i64 24, .int .i64 0]) ∧ W = w' from by
    have h9 := refget_ok (bs := hd) (some ⟨b, off0, none⟩) 40 c 8 16 W (hs.later hb) (by rw [hn]) (by rw [hn]; omega) (by omega) (by omega)
    rw [hs8] at h9
    exact h9))
  have hv24 := val_lt (seg hd 24 16)
  rw [length_seg (by omega), hs24] at hv24
  have hv24 : off < 65536 := Nat.lt_of_lt_of_le hv24 (by decide)
  have hw24 : IntKind.i64.wrap (off : Int) = (off : Int) := by rw [IntKind.wrap_i64]; omega
  have HG24 := Lib.hid (fun W (hb : Below w.heap.size w W) => (show Calls Try.prog 284 #[.slice (some ⟨b, off0, none⟩) 40 c, .int .i64 24, .int .i64 16] W fun e w' => e = .returned (.tuple #[.int .u64 off, .int .i64 40, .int .i64 0]) ∧ W = w' from by
    have h9 := refget_ok (bs := hd) (some ⟨b, off0, none⟩) 40 c 24 16 W (hs.later hb) (by rw [hn]) (by rw [hn]; omega) (by omega) (by omega)
    rw [hs24] at h9
    exact h9))
  have HB0 := Lib.hid (bl_alloc (Below.refl w.heap.size w) (.cells #[.bool false, .int .i64 0, .int .i64 0, .bool false, .bool false, .int .i64 0, .slice none 0 0] 60))
  clear hs hn hb1 hb2 hb5 hb6 hb7 hs3 hs8 hs24
  go_enter Try.func175, Try.ntmps175
  go_wp2_with (go_at_call 177; refine (HW.out _).mono ?_; rintro e w1 ⟨rfl, rfl⟩)
  have y1 : (w.alloc (.cells #[.bool false, .int .i64 0, .int .i64 0, .bool false, .bool false, .int .i64 0, .slice none 0 0] 60)).drew.cell? ⟨b, off0 + 1, none⟩ = some (.bool true) := (HB0.out.cell (p := ⟨b, off0 + 1, none⟩) hbin).trans x1
  have y2 : (w.alloc (.cells #[.bool false, .int .i64 0, .int .i64 0, .bool false, .bool false, .int .i64 0, .slice none 0 0] 60)).drew.cell? ⟨b, off0 + 2, none⟩ = some (.bool poll) := (HB0.out.cell (p := ⟨b, off0 + 2, none⟩) hbin).trans x2
  go_region_held3 (fun w' => w'.cell? ⟨b, off0 + 1, none⟩ = some (.bool true) ∧ w'.cell? ⟨b, off0 + 2, none⟩ = some (.bool poll)) (first | assumption | go_keep) (fail)
  have R0 := Lib.hid (show Row ((w.alloc (.cells #[.bool false, .int .i64 0, .int .i64 0, .bool false, .bool false, .int .i64 0, .slice none 0 0] 60)).alloc (.cells #[.bool poll, .int .i64 0, .int .i64 0, .bool true, .bool false, .int .i64 0, .slice none 0 0] 60)).drew w.heap.size 60 #[.bool false, .int .i64 0, .int .i64 0, .bool false, .bool false, .int .i64 0, .slice none 0 0] from ((Row.made w 60 #[.bool false, .int .i64 0, .int .i64 0, .bool false, .bool false, .int .i64 0, .slice none 0 0]).more _).drawn)
  have R1 := Lib.hid (show Row ((w.alloc (.cells #[.bool false, .int .i64 0, .int .i64 0, .bool false, .bool false, .int .i64 0, .slice none 0 0] 60)).alloc (.cells #[.bool poll, .int .i64 0, .int .i64 0, .bool true, .bool false, .int .i64 0, .slice none 0 0] 60)).drew (w.heap.size + 1) 60 #[.bool poll, .int .i64 0, .int .i64 0, .bool true, .bool false, .int .i64 0, .slice none 0 0] from by
    have h := (Row.made (w.alloc (.cells #[.bool false, .int .i64 0, .int .i64 0, .bool false, .bool false, .int .i64 0, .slice none 0 0] 60)) 60 #[.bool poll, .int .i64 0, .int .i64 0, .bool true, .bool false, .int .i64 0, .slice none 0 0]).drawn
    rw [show (w.alloc (.cells #[.bool false, .int .i64 0, .int .i64 0, .bool false, .bool false, .int .i64 0, .slice none 0 0] 60)).heap.size = w.heap.size + 1 by simp] at h
    exact h)
  have HB1 := Lib.hid (show Below w.heap.size w ((w.alloc (.cells #[.bool false, .int .i64 0, .int .i64 0, .bool false, .bool false, .int .i64 0, .slice none 0 0] 60)).alloc (.cells #[.bool poll, .int .i64 0, .int .i64 0, .bool true, .bool false, .int .i64 0, .slice none 0 0] 60)).drew from bl_drew (bl_alloc (bl_alloc (Below.refl _ _) _) _))
  clear y1 y2
  generalize ((w.alloc (.cells #[.bool false, .int .i64 0, .int .i64 0, .bool false, .bool false, .int .i64 0, .slice none 0 0] 60)).alloc (.cells #[.bool poll, .int .i64 0, .int .i64 0, .bool true, .bool false, .int .i64 0, .slice none 0 0] 60)).drew = W1 at *
  have y1 : W1.cell? ⟨b, off0 + 1, none⟩ = some (.bool true) := (HB1.out.cell (p := ⟨b, off0 + 1, none⟩) hbin).trans x1
  have y2 : W1.cell? ⟨b, off0 + 2, none⟩ = some (.bool poll) := (HB1.out.cell (p := ⟨b, off0 + 2, none⟩) hbin).trans x2
  have y5 : W1.cell? ⟨b, off0 + 5, none⟩ = some (.bool more) := (HB1.out.cell (p := ⟨b, off0 + 5, none⟩) hbin).trans x5
  have y6 : W1.cell? ⟨b, off0 + 6, none⟩ = some (.bool false) := (HB1.out.cell (p := ⟨b, off0 + 6, none⟩) hbin).trans x6
  have y7 : W1.cell? ⟨b, off0 + 7, none⟩ = some (.bool false) := (HB1.out.cell (p := ⟨b, off0 + 7, none⟩) hbin).trans x7
  have hne : b ≠ w.heap.size + 1 := by omega
  have hq : w.heap.size ≠ w.heap.size + 1 := by omega
  obtain ⟨⟨c0, c1, c2, c3, c4, c5, c6⟩, f0, f1, f2, f3, f4, f5, f6⟩ := cells_ref10 R1.out
  obtain ⟨⟨d0, d1, d2, d3, d4, d5, d6⟩, e0, e1, e2, e3, e4, e5, e6⟩ := cells_ref10 R0.out
  go_wp2_with (first
    | (go_at_call 284; (with_reducible refine (HG3.out _ (by repeat (first | exact HB1.out | refine Below.setCell ?_ (by simp) _))).mono ?_); rintro e wg3 ⟨rfl, rfl⟩)
    | (go_at_call 284; (with_reducible refine (HG8.out _ (by repeat (first | exact HB1.out | refine Below.setCell ?_ (by simp) _))).mono ?_); rintro e wg8 ⟨rfl, rfl⟩)
    | (go_at_call 284; (with_reducible refine (HG24.out _ (by repeat (first | exact HB1.out | refine Below.setCell ?_ (by simp) _))).mono ?_); rintro e wg24 ⟨rfl, rfl⟩))
  obtain ⟨dd, hdd⟩ := underref10_parts
  refine bodyPost_ret (results_three rfl _ _ w.heap.size 60 #[.bool poll, .int .i64 fi, .int .i64 sn, .bool true, .bool false, .int .i64 off, .slice none 0 0] dd rfl (((((((((((R0.out.elsewhere (p := ⟨w.heap.size + 1, 4, none⟩) hq (.bool false)).elsewhere (p := ⟨w.heap.size + 1, 5, none⟩) hq (.int .i64 off)).elsewhere (p := ⟨w.heap.size + 1, 1, none⟩) hq (.int .i64 fi)).elsewhere (p := ⟨w.heap.size + 1, 2, none⟩) hq (.int .i64 sn)).written 0 (.bool poll)).written 1 (.int .i64 fi)).written 2 (.int .i64 sn)).written 3 (.bool true)).written 4 (.bool false)).written 5 (.int .i64 off)).written 6 (.slice none 0 0)) hdd Try.inforef10) rfl ?_
  exact ⟨rfl, (((((((((((HB1.out.setCell (p := ⟨w.heap.size + 1, 4, none⟩) (Nat.le_succ _) (.bool false)).setCell (p := ⟨w.heap.size + 1, 5, none⟩) (Nat.le_succ _) (.int .i64 off)).setCell (p := ⟨w.heap.size + 1, 1, none⟩) (Nat.le_succ _) (.int .i64 fi)).setCell (p := ⟨w.heap.size + 1, 2, none⟩) (Nat.le_succ _) (.int .i64 sn)).setCell (p := ⟨w.heap.size, 0, none⟩) (Nat.le_refl _) (.bool poll)).setCell (p := ⟨w.heap.size, 1, none⟩) (Nat.le_refl _) (.int .i64 fi)).setCell (p := ⟨w.heap.size, 2, none⟩) (Nat.le_refl _) (.int .i64 sn)).setCell (p := ⟨w.heap.size, 3, none⟩) (Nat.le_refl _) (.bool true)).setCell (p := ⟨w.heap.size, 4, none⟩) (Nat.le_refl _) (.bool false)).setCell (p := ⟨w.heap.size, 5, none⟩) (Nat.le_refl _) (.int .i64 off)).setCell (p := ⟨w.heap.size, 6, none⟩) (Nat.le_refl _) (.slice none 0 0))⟩
set_option maxRecDepth 100000 in
set_option maxHeartbeats 3200000 in
theorem rhead_16tn0l1 {A : Option Addr} {hd : List Nat} (poll more : Bool) (fi sn off c : Nat) (w : World) (hn : hd.length = 5) (hs : SrcB w A (bls (bitsOf hd))) (hb1 : bitAt hd 1 = true) (hb2 : bitAt hd 2 = poll) (hb5 : bitAt hd 5 = more) (hb6 : bitAt hd 6 = true) (hb7 : bitAt hd 7 = false) (hs3 : val (seg hd 3 2) = fi) (hs8 : val (seg hd 8 16) = sn) (hs24 : val (seg hd 24 16) = off) :
    Calls Try.prog 175 #[.slice A 40 c, .int .i64 16] w fun e w' => e = .returned (.tuple #[.agg #[.bool poll, .int .i64 fi, .int .i64 sn, .bool true, .bool true, .int .i64 off, .slice none 0 0], .bool more, .bool true]) ∧ Below w.heap.size w w' := by
  obtain ⟨b, off0, rfl, _⟩ := hs (by rw [length_bls, length_bitsOf]; omega)
  have x1 := hs.bitc 1 (by omega)
  rw [hb1] at x1
  have x2 := hs.bitc 2 (by omega)
  rw [hb2] at x2
  have x5 := hs.bitc 5 (by omega)
  rw [hb5] at x5
  have x6 := hs.bitc 6 (by omega)
  rw [hb6] at x6
  have x7 := hs.bitc 7 (by omega)
  rw [hb7] at x7
  have hbin : b < w.heap.size := cell_in x1
  have HW := Lib.hid (fun W => show Calls Try.prog 177 #[.int .i64 16] W fun e w' => e = .returned (.tuple #[.int .i64 15, .int .i64 16]) ∧ W = w' from rwidths_any 16 W)
  have hv3 := val_lt (seg hd 3 2)
  rw [length_seg (by omega), hs3] at hv3
  have hv3 : fi < 4 := Nat.lt_of_lt_of_le hv3 (by decide)
  have hw3 : IntKind.i64.wrap (fi : Int) = (fi : Int) := by rw [IntKind.wrap_i64]; omega
  have HG3 := Lib.hid (fun W (hb : Below w.heap.size w W) => (show Calls Try.prog 284 #[.slice (some ⟨b, off0, none⟩) 40 c, .int .i64 3, .int .i64 2] W fun e w' => e = .returned (.tuple #[.int .u64 fi, .int .i64 5, .int .i64 0]) ∧ W = w' from by
    have h9 := refget_ok (bs := hd) (some ⟨b, off0, none⟩) 40 c 3 2 W (hs.later hb) (by rw [hn]) (by rw [hn]; omega) (by omega) (by omega)
    rw [hs3] at h9
    exact h9))
  have hv8 := val_lt (seg hd 8 16)
  rw [length_seg (by omega), hs8] at hv8
  have hv8 : sn < 65536 := Nat.lt_of_lt_of_le hv8 (by decide)
  have hw8 : IntKind.i64.wrap (sn : Int) = (sn : Int) := by rw [IntKind.wrap_i64]; omega
  have HG8 := Lib.hid (fun W (hb : Below w.heap.size w W) => (show Calls Try.prog 284 #[.slice (some ⟨b, off0, none⟩) 40 c, .int .i64 8, .int .i64 16] W fun e w' => e = .returned (.tuple #[.int .u64 sn, .int .i64 24, .int .i64 0]) ∧ W = w' from by
    have h9 := refget_ok (bs := hd) (some ⟨b, off0, none⟩) 40 c 8 16 W (hs.later hb) (by rw [hn]) (by rw [hn]; omega) (by omega) (by omega)
    rw [hs8] at h9
    exact h9))
  have hv24 := val_lt (seg hd 24 16)
  rw [length_seg (by omega), hs24] at hv24
  have hv24 : off < 65536 := Nat.lt_of_lt_of_le hv24 (by decide)
  have hw24 : IntKind.i64.wrap (off : Int) = (off : Int) := by rw [IntKind.wrap_i64]; omega
  have HG24 := Lib.hid (fun W (hb : Below w.heap.size w W) => (show Calls Try.prog 284 #[.slice (some ⟨b, off0, none⟩) 40 c, .int .i64 24, .int .i64 16] W fun e w' => e = .returned (.tuple #[.int .u64 off, .int .i64 40, .int .i64 0]) ∧ W = w' from by
    have h9 := refget_ok (bs := hd) (some ⟨b, off0, none⟩) 40 c 24 16 W (hs.later hb) (by rw [hn]) (by rw [hn]; omega) (by omega) (by omega)
    rw [hs24] at h9
    exact h9))
  have HB0 := Lib.hid (bl_alloc (Below.refl w.heap.size w) (.cells #[.bool false, .int .i64 0, .int .i64 0, .bool false, .bool false, .int .i64 0, .slice none 0 0] 60))
  clear hs hn hb1 hb2 hb5 hb6 hb7 hs3 hs8 hs24
  go_enter Try.func175, Try.ntmps175
  go_wp2_with (go_at_call 177; refine (HW.out _).mono ?_; rintro e w1 ⟨rfl, rfl⟩)
  have y1 : (w.alloc (.cells #[.bool false, .int .i64 0, .int .i64 0, .bool false, .bool false, .int .i64 0, .slice none 0 0] 60)).drew.cell? ⟨b, off0 + 1, none⟩ = some (.bool true) := (HB0.out.cell (p := ⟨b, off0 + 1, none⟩) hbin).trans x1
  have y2 : (w.alloc (.cells #[.bool false, .int .i64 0, .int .i64 0, .bool false, .bool false, .int .i64 0, .slice none 0 0] 60)).drew.cell? ⟨b, off0 + 2, none⟩ = some (.bool poll) := (HB0.out.cell (p := ⟨b, off0 + 2, none⟩) hbin).trans x2
  go_region_held3 (fun w' => w'.cell? ⟨b, off0 + 1, none⟩ = some (.bool true) ∧ w'.cell? ⟨b, off0 + 2, none⟩ = some (.bool poll)) (first | assumption | go_keep) (fail)
  have R0 := Lib.hid (show Row ((w.alloc (.cells #[.bool false, .int .i64 0, .int .i64 0, .bool false, .bool false, .int .i64 0, .slice none 0 0] 60)).alloc (.cells #[.bool poll, .int .i64 0, .int .i64 0, .bool true, .bool false, .int .i64 0, .slice none 0 0] 60)).drew w.heap.size 60 #[.bool false, .int .i64 0, .int .i64 0, .bool false, .bool false, .int .i64 0, .slice none 0 0] from ((Row.made w 60 #[.bool false, .int .i64 0, .int .i64 0, .bool false, .bool false, .int .i64 0, .slice none 0 0]).more _).drawn)
  have R1 := Lib.hid (show Row ((w.alloc (.cells #[.bool false, .int .i64 0, .int .i64 0, .bool false, .bool false, .int .i64 0, .slice none 0 0] 60)).alloc (.cells #[.bool poll, .int .i64 0, .int .i64 0, .bool true, .bool false, .int .i64 0, .slice none 0 0] 60)).drew (w.heap.size + 1) 60 #[.bool poll, .int .i64 0, .int .i64 0, .bool true, .bool false, .int .i64 0, .slice none 0 0] from by
    have h := (Row.made (w.alloc (.cells #[.bool false, .int .i64 0, .int .i64 0, .bool false, .bool false, .int .i64 0, .slice none 0 0] 60)) 60 #[.bool poll, .int .i64 0, .int .i64 0, .bool true, .bool false, .int .i64 0, .slice none 0 0]).drawn
    rw [show (w.alloc (.cells #[.bool false, .int .i64 0, .int .i64 0, .bool false, .bool false, .int .i64 0, .slice none 0 0] 60)).heap.size = w.heap.size + 1 by simp] at h
    exact h)
  have HB1 := Lib.hid (show Below w.heap.size w ((w.alloc (.cells #[.bool false, .int .i64 0, .int .i64 0, .bool false, .bool false, .int .i64 0, .slice none 0 0] 60)).alloc (.cells #[.bool poll, .int .i64 0, .int .i64 0, .bool true, .bool false, .int .i64 0, .slice none 0 0] 60)).drew from bl_drew (bl_alloc (bl_alloc (Below.refl _ _) _) _))
  clear y1 y2
  generalize ((w.alloc (.cells #[.bool false, .int .i64 0, .int .i64 0, .bool false, .bool false, .int .i64 0, .slice none 0 0] 60)).alloc (.cells #[.bool poll, .int .i64 0, .int .i64 0, .bool true, .bool false, .int .i64 0, .slice none 0 0] 60)).drew = W1 at *
  have y1 : W1.cell? ⟨b, off0 + 1, none⟩ = some (.bool true) := (HB1.out.cell (p := ⟨b, off0 + 1, none⟩) hbin).trans x1
  have y2 : W1.cell? ⟨b, off0 + 2, none⟩ = some (.bool poll) := (HB1.out.cell (p := ⟨b, off0 + 2, none⟩) hbin).trans x2
  have y5 : W1.cell? ⟨b, off0 + 5, none⟩ = some (.bool more) := (HB1.out.cell (p := ⟨b, off0 + 5, none⟩) hbin).trans x5
  have y6 : W1.cell? ⟨b, off0 + 6, none⟩ = some (.bool true) := (HB1.out.cell (p := ⟨b, off0 + 6, none⟩) hbin).trans x6
  have y7 : W1.cell? ⟨b, off0 + 7, none⟩ = some (.bool false) := (HB1.out.cell (p := ⟨b, off0 + 7, none⟩) hbin).trans x7
  have hne : b ≠ w.heap.size + 1 := by omega
  have hq : w.heap.size ≠ w.heap.size + 1 := by omega
  obtain ⟨⟨c0, c1, c2, c3, c4, c5, c6⟩, f0, f1, f2, f3, f4, f5, f6⟩ := cells_ref10 R1.out
  obtain ⟨⟨d0, d1, d2, d3, d4, d5, d6⟩, e0, e1, e2, e3, e4, e5, e6⟩ := cells_ref10 R0.out
  go_wp2_with (first
    | (go_at_call 284; (with_reducible refine (HG3.out _ (by repeat (first | exact HB1.out | refine Below.setCell ?_ (by simp) _))).mono ?_); rintro e wg3 ⟨rfl, rfl⟩)
    | (go_at_call 284; (with_reducible refine (HG8.out _ (by repeat (first | exact HB1.out | refine Below.setCell ?_ (by simp) _))).mono ?_); rintro e wg8 ⟨rfl, rfl⟩)
    | (go_at_call 284; (with_reducible refine (HG24.out _ (by repeat (first | exact HB1.out | refine Below.setCell ?_ (by simp) _))).mono ?_); rintro e wg24 ⟨rfl, rfl⟩))
  obtain ⟨dd, hdd⟩ := underref10_parts
  refine bodyPost_ret (results_three rfl _ _ w.heap.size 60 #[.bool poll, .int .i64 fi, .int .i64 sn, .bool true, .bool true, .int .i64 off, .slice none 0 0] dd rfl (((((((((((R0.out.elsewhere (p := ⟨w.heap.size + 1, 4, none⟩) hq (.bool true)).elsewhere (p := ⟨w.heap.size + 1, 5, none⟩) hq (.int .i64 off)).elsewhere (p := ⟨w.heap.size + 1, 1, none⟩) hq (.int .i64 fi)).elsewhere (p := ⟨w.heap.size + 1, 2, none⟩) hq (.int .i64 sn)).written 0 (.bool poll)).written 1 (.int .i64 fi)).written 2 (.int .i64 sn)).written 3 (.bool true)).written 4 (.bool true)).written 5 (.int .i64 off)).written 6 (.slice none 0 0)) hdd Try.inforef10) rfl ?_
  exact ⟨rfl, (((((((((((HB1.out.setCell (p := ⟨w.heap.size + 1, 4, none⟩) (Nat.le_succ _) (.bool true)).setCell (p := ⟨w.heap.size + 1, 5, none⟩) (Nat.le_succ _) (.int .i64 off)).setCell (p := ⟨w.heap.size + 1, 1, none⟩) (Nat.le_succ _) (.int .i64 fi)).setCell (p := ⟨w.heap.size + 1, 2, none⟩) (Nat.le_succ _) (.int .i64 sn)).setCell (p := ⟨w.heap.size, 0, none⟩) (Nat.le_refl _) (.bool poll)).setCell (p := ⟨w.heap.size, 1, none⟩) (Nat.le_refl _) (.int .i64 fi)).setCell (p := ⟨w.heap.size, 2, none⟩) (Nat.le_refl _) (.int .i64 sn)).setCell (p := ⟨w.heap.size, 3, none⟩) (Nat.le_refl _) (.bool true)).setCell (p := ⟨w.heap.size, 4, none⟩) (Nat.le_refl _) (.bool true)).setCell (p := ⟨w.heap.size, 5, none⟩) (Nat.le_refl _) (.int .i64 off)).setCell (p := ⟨w.heap.size, 6, none⟩) (Nat.le_refl _) (.slice none 0 0))⟩
end Go.Proofs.Ytgdpjaojlhdhdaa
namespace Go.Proofs.Ytgdpjaojlhdhdaa
open Go.RowKit

set_option maxRecDepth 100000 in
set_option maxHeartbeats 3200000 in
theorem rhead_16fn0l0 {A : Option Addr} {hd : List Nat} (poll more : Bool) (fi sn c : Nat) (w : World) (hn : hd.length = 3) (hs : SrcB w A (bls (bitsOf hd))) (hb1 : bitAt hd 1 = false) (hb2 : bitAt hd 2 = poll) (hb5 : bitAt hd 5 = more) (hb6 : bitAt hd 6 = false) (hb7 : bitAt hd 7 = false) (hs3 : val (seg hd 3 2) = fi) (hs8 : val (seg hd 8 16) = sn) :
    Calls Try.prog 175 #[.slice A 24 c, .int .i64 16] w fun e w' => e = .returned (.tuple #[.agg #[.bool poll, .int .i64 fi, .int .i64 sn, .bool false, .bool false, .int .i64 0, .slice none 0 0], .bool more, .bool true]) ∧ Below w.heap.size w w' := by
  obtain ⟨b, off0, rfl, _⟩ := hs (by rw [length_bls, length_bitsOf]; omega)
  have x1 := hs.bitc 1 (by omega)
  rw [hb1] at x1
  have x2 := hs.bitc 2 (by omega)
  rw [hb2] at x2
  have x5 := hs.bitc 5 (by omega)
  rw [hb5] at x5
  have x6 := hs.bitc 6 (by omega)
  rw [hb6] at x6
  have x7 := hs.bitc 7 (by omega)
  rw [hb7] at x7
  have hbin : b < w.heap.size := cell_in x1
  have HW := Lib.hid (fun W => show Calls Try.prog 177 #[.int .i64 16] W fun e w' => e = .returned (.tuple #[.int .i64 15, .int .i64 16]) ∧ W = w' from rwidths_any 16 W)
  have hv3 := val_lt (seg hd 3 2)
  rw [length_seg (by omega), hs3] at hv3
  have hv3 : fi < 4 := Nat.lt_of_lt_of_le hv3 (by decide)
  have hw3 : IntKind.i64.wrap (fi : Int) = (fi : Int) := by rw [IntKind.wrap_i64]; omega
  have HG3 := Lib.hid (fun W (hb : Below w.heap.size w W) => (show Calls Try.prog 284 #[.slice (some ⟨b, off0, none⟩) 24 c, .int .i64 3, .int .i64 2] W fun e w' => e = .returned (.tuple #[.int .u64 fi, .int .i64 5, .int .i64 0]) ∧ W = w' from by
    have h9 := refget_ok (bs := hd) (some ⟨b, off0, none⟩) 24 c 3 2 W (hs.later hb) (by rw [hn]) (by rw [hn]; omega) (by omega) (by omega)
    rw [hs3] at h9
    exact h9))
  have hv8 := val_lt (seg hd 8 16)
  rw [length_seg (by omega), hs8] at hv8
  have hv8 : sn < 65536 := Nat.lt_of_lt_of_le hv8 (by decide)
  have hw8 : IntKind.i64.wrap (sn : Int) = (sn : Int) := by rw [IntKind.wrap_i64]; omega
  have HG8 := Lib.hid (fun W (hb : Below w.heap.size w W) => (show Calls Try.prog 284 #[.slice (some ⟨b, off0, none⟩) 24 c, .int .i64 8, .int .i64 16] W fun e w' => e = .returned (.tuple #[.int .u64 sn, .int .i64 24, .int .i64 0]) ∧ W = w' from by
    have h9 := refget_ok (bs := hd) (some ⟨b, off0, none⟩) 24 c 8 16 W (hs.later hb) (by rw [hn]) (by rw [hn]; omega) (by omega) (by omega)
    rw [hs8] at h9
    exact h9))
  have HB0 := Lib.hid (bl_alloc (Below.refl w.heap.size w) (.cells #[.bool false, .int .i64 0, .int .i64 0, .bool false, .bool false, .int .i64 0, .slice none 0 0] 60))
  clear hs hn hb1 hb2 hb5 hb6 hb7 hs3 hs8
  go_enter Try.func175, Try.ntmps175
  go_wp2_with (go_at_call 177; refine (HW.out _).mono ?_; rintro e w1 ⟨rfl, rfl⟩)
  have y1 : (w.alloc (.cells #[.bool false, .int .i64 0, .int .i64 0, .bool false, .bool false, .int .i64 0, .slice none 0 0] 60)).drew.cell? ⟨b, off0 + 1, none⟩ = some (.bool false) := (HB0.out.cell (p := ⟨b, off0 + 1, none⟩) hbin).trans x1
  have y2 : (w.alloc (.cells #[.bool false, .int .i64 0, .int .i64 0, .bool false, .bool false, .int .i64 0, .slice none 0 0] 60)).drew.cell? ⟨b, off0 + 2, none⟩ = some (.bool poll) := (HB0.out.cell (p := ⟨b, off0 + 2, none⟩) hbin).trans x2
  go_region_held3 (fun w' => w'.cell? ⟨b, off0 + 1, none⟩ = some (.bool false) ∧ w'.cell? ⟨b, off0 + 2, none⟩ = some (.bool poll)) (first | assumption | go_keep) (fail)
  have R0 := Lib.hid (show Row ((w.alloc (.cells #[.bool false, .int .i64 0, .int .i64 0, .bool false, .bool false, .int .i64 0, .slice none 0 0] 60)).alloc (.cells #[.bool poll, .int .i64 0, .int .i64 0, .bool false, .bool false, .int .i64 0, .slice none 0 0] 60)).drew w.heap.size 60 #[.bool false, .int .i64 0, .int .i64 0, .bool false, .bool false, .int .i64 0, .slice none 0 0] from ((Row.made w 60 #[.bool false, .int .i64 0, .int .i64 0, .bool false, .bool false, .int .i64 0, .slice none 0 0]).more _).drawn)
  have R1 := Lib.hid (show Row ((w.alloc (.cells #[.bool false, .int .i64 0, .int .i64 0, .bool false, .bool false, .int .i64 0, .slice none 0 0] 60)).alloc (.cells #[.bool poll, .int .i64 0, .int .i64 0, .bool false, .bool false, .int .i64 0, .slice none 0 0] 60)).drew (w.heap.size + 1) 60 #[.bool poll, .int .i64 0, .int .i64 0, .bool false, .bool false, .int .i64 0, .slice none 0 0] from by
    have h := (Row.made (w.alloc (.cells #[.bool false, .int .i64 0, .int .i64 0, .bool false, .bool false, .int .i64 0, .slice none 0 0] 60)) 60 #[.bool poll, .int .i64 0, .int .i64 0, .bool false, .bool false, .int .i64 0, .slice none 0 0]).drawn
    rw [show (w.alloc (.cells #[.bool false, .int .i64 0, .int .i64 0, .bool false, .bool false, .int .i64 0, .slice none 0 0] 60)).heap.size = w.heap.size + 1 by simp] at h
    exact h)
  have HB1 := Lib.hid (show Below w.heap.size w ((w.alloc (.cells #[.bool false, .int .i64 0, .int .i64 0, .bool false, .bool false, .int .i64 0, .slice none 0 0] 60)).alloc (.cells #[.bool poll, .int .i64 0, .int .i64 0, .bool false, .bool false, .int .i64 0, .slice none 0 0] 60)).drew from bl_drew (bl_alloc (bl_alloc (Below.refl _ _) _) _))
  clear y1 y2
  generalize ((w.alloc (.cells #[.bool false, .int .i64 0, .int .i64 0, .bool false, .bool false, .int .i64 0, .slice none 0 0] 60)).alloc (.cells #[.bool poll, .int .i64 0, .int .i64 0, .bool false, .bool false, .int .i64 0, .slice none 0 0] 60)).drew = W1 at *
  have y1 : W1.cell? ⟨b, off0 + 1, none⟩ = some (.bool false) := (HB1.out.cell (p := ⟨b, off0 + 1, none⟩) hbin).trans x1
  have y2 : W1.cell? ⟨b, off0 + 2, none⟩ = some (.bool poll) := (HB1.out.cell (p := ⟨b, off0 + 2, none⟩) hbin).trans x2
  have y5 : W1.cell? ⟨b, off0 + 5, none⟩ = some (.bool more) := (HB1.out.cell (p := ⟨b, off0 + 5, none⟩) hbin).trans x5
  have y6 : W1.cell? ⟨b, off0 + 6, none⟩ = some (.bool false) := (HB1.out.cell (p := ⟨b, off0 + 6, none⟩) hbin).trans x6
  have y7 : W1.cell? ⟨b, off0 + 7, none⟩ = some (.bool false) := (HB1.out.cell (p := ⟨b, off0 + 7, none⟩) hbin).trans x7
  have hne : b ≠ w.heap.size + 1 := by omega
  have hq : w.heap.size ≠ w.heap.size + 1 := by omega
  obtain ⟨⟨c0, c1, c2, c3, c4, c5, c6⟩, f0, f1, f2, f3, f4, f5, f6⟩ := cells_ref10 R1.out
  obtain ⟨⟨d0, d1, d2, d3, d4, d5, d6⟩, e0, e1, e2, e3, e4, e5, e6⟩ := cells_ref10 R0.out
  go_wp2_with (first
    | (go_at_call 284; (with_reducible refine (HG3.out _ (by repeat (first | exact HB1.out | refine Below.setCell ?_ (by simp) _))).mono ?_); rintro e wg3 ⟨rfl, rfl⟩)
    | (go_at_call 284; (with_reducible refine (HG8.out _ (by repeat (first | exact HB1.out | refine Below.setCell ?_ (by simp) _))).mono ?_); rintro e wg8 ⟨rfl, rfl⟩))
  obtain ⟨dd, hdd⟩ := underref10_parts
  refine bodyPost_ret (results_three rfl _ _ w.heap.size 60 #[.bool poll, .int .i64 fi, .int .i64 sn, .bool false, .bool false, .int .i64 0, .slice none 0 0] dd rfl ((((((((((R0.out.elsewhere (p := ⟨w.heap.size + 1, 4, none⟩) hq (.bool false)).elsewhere (p := ⟨w.heap.size + 1, 1, none⟩) hq (.int .i64 fi)).elsewhere (p := ⟨w.heap.size + 1, 2, none⟩) hq (.int .i64 sn)).written 0 (.bool poll)).written 1 (.int .i64 fi)).written 2 (.int .i64 sn)).written 3 (.bool false)).written 4 (.bool false)).written 5 (.int .i64 0)).written 6 (.slice none 0 0)) hdd Try.inforef10) rfl ?_
  exact ⟨rfl, ((((((((((HB1.out.setCell (p := ⟨w.heap.size + 1, 4, none⟩) (Nat.le_succ _) (.bool false)).setCell (p := ⟨w.heap.size + 1, 1, none⟩) (Nat.le_succ _) (.int .i64 fi)).setCell (p := ⟨w.heap.size + 1, 2, none⟩) (Nat.le_succ _) (.int .i64 sn)).setCell (p := ⟨w.heap.size, 0, none⟩) (Nat.le_refl _) (.bool poll)).setCell (p := ⟨w.heap.size, 1, none⟩) (Nat.le_refl _) (.int .i64 fi)).setCell (p := ⟨w.heap.size, 2, none⟩) (Nat.le_refl _) (.int .i64 sn)).setCell (p := ⟨w.heap.size, 3, none⟩) (Nat.le_refl _) (.bool false)).setCell (p := ⟨w.heap.size, 4, none⟩) (Nat.le_refl _) (.bool false)).setCell (p := ⟨w.heap.size, 5, none⟩) (Nat.le_refl _) (.int .i64 0)).setCell (p := ⟨w.heap.size, 6, none⟩) (Nat.le_refl _) (.slice none 0 0))⟩
set_option maxRecDepth 100000 in
set_option maxHeartbeats 3200000 in
theorem rhead_16fn0l1 {A : Option Addr} {hd : List Nat} (poll more : Bool) (fi sn c : Nat) (w : World) (hn : hd.length = 3) (hs : SrcB w A (bls (bitsOf hd))) (hb1 : bitAt hd 1 = false) (hb2 : bitAt hd 2 = poll) (hb5 : bitAt hd 5 = more) (hb6 : bitAt hd 6 = true) (hb7 : bitAt hd 7 = false) (hs3 : val (seg hd 3 2) = fi) (hs8 : val (seg hd 8 16) = sn) :
    Calls Try.prog 175 #[.slice A 24 c, .int .i64 16] w fun e w' => e = .returned (.tuple #[.agg #[.bool false, .int .i64 0, .int .i64 0, .bool false, .bool false, .int .i64 0, .slice none 0 0], .bool false, .bool false]) ∧ Below w.heap.size w w' := by
  obtain ⟨b, off0, rfl, _⟩ := hs (by rw [length_bls, length_bitsOf]; omega)
  have x1 := hs.bitc 1 (by omega)
  rw [hb1] at x1
  have x2 := hs.bitc 2 (by omega)
  rw [hb2] at x2
  have x5 := hs.bitc 5 (by omega)
  rw [hb5] at x5
  have x6 := hs.bitc 6 (by omega)
  rw [hb6] at x6
  have x7 := hs.bitc 7 (by omega)
  rw [hb7] at x7
  have hbin : b < w.heap.size := cell_in x1
  have HW := Lib.hid (fun W => show Calls Try.prog 177 #[.int .i64 16] W fun e w' => e = .returned (.tuple #[.int .i64 15, .int .i64 16]) ∧ W = w' from rwidths_any 16 W)
  have hv3 := val_lt (seg hd 3 2)
  rw [length_seg (by omega), hs3] at hv3
  have hv3 : fi < 4 := Nat.lt_of_lt_of_le hv3 (by decide)
  have hw3 : IntKind.i64.wrap (fi : Int) = (fi : Int) := by rw [IntKind.wrap_i64]; omega
  have HG3 := Lib.hid (fun W (hb : Below w.heap.size w W) => (show Calls Try.prog 284 #[.slice (some ⟨b, off0, none⟩) 24 c, .int .i64 3, .int .i64 2] W fun e w' => e = .returned (.tuple #[.int .u64 fi, .int .i64 5, .int .i64 0]) ∧ W = w' from by
    have h9 := refget_ok (bs := hd) (some ⟨b, off0, none⟩) 24 c 3 2 W (hs.later hb) (by rw [hn]) (by rw [hn]; omega) (by omega) (by omega)
    rw [hs3] at h9
    exact h9))
  have hv8 := val_lt (seg hd 8 16)
  rw [length_seg (by omega), hs8] at hv8
  have hv8 : sn < 65536 := Nat.lt_of_lt_of_le hv8 (by decide)
  have hw8 : IntKind.i64.wrap (sn : Int) = (sn : Int) := by rw [IntKind.wrap_i64]; omega
  have HG8 := Lib.hid (fun W (hb : Below w.heap.size w W) => (show Calls Try.prog 284 #[.slice (some ⟨b, off0, none⟩) 24 c, .int .i64 8, .int .i64 16] W fun e w' => e = .returned (.tuple #[.int .u64 sn, .int .i64 24, .int .i64 0]) ∧ W = w' from by
    have h9 := refget_ok (bs := hd) (some ⟨b, off0, none⟩) 24 c 8 16 W (hs.later hb) (by rw [hn]) (by rw [hn]; omega) (by omega) (by omega)
    rw [hs8] at h9
    exact h9))
  have HB0 := Lib.hid (bl_alloc (Below.refl w.heap.size w) (.cells #[.bool false, .int .i64 0, .int .i64 0, .bool false, .bool false, .int .i64 0, .slice none 0 0] 60))
  clear hs hn hb1 hb2 hb5 hb6 hb7 hs3 hs8
  go_enter Try.func175, Try.ntmps175
  go_wp2_with (go_at_call 177; refine (HW.out _).mono ?_; rintro e w1 ⟨rfl, rfl⟩)
  have y1 : (w.alloc (.cells #[.bool false, .int .i64 0, .int .i64 0, .bool false, .bool false, .int .i64 0, .slice none 0 0] 60)).drew.cell? ⟨b, off0 + 1, none⟩ = some (.bool false) := (HB0.out.cell (p := ⟨b, off0 + 1, none⟩) hbin).trans x1
  have y2 : (w.alloc (.cells #[.bool false, .int .i64 0, .int .i64 0, .bool false, .bool false, .int .i64 0, .slice none 0 0] 60)).drew.cell? ⟨b, off0 + 2, none⟩ = some (.bool poll) := (HB0.out.cell (p := ⟨b, off0 + 2, none⟩) hbin).trans x2
  go_region_held3 (fun w' => w'.cell? ⟨b, off0 + 1, none⟩ = some (.bool false) ∧ w'.cell? ⟨b, off0 + 2, none⟩ = some (.bool poll)) (first | assumption | go_keep) (fail)
  have R0 := Lib.hid (show Row ((w.alloc (.cells #[.bool false, .int .i64 0, .int .i64 0, .bool false, .bool false, .int .i64 0, .slice none 0 0] 60)).alloc (.cells #[.bool poll, .int .i64 0, .int .i64 0, .bool false, .bool false, .int .i64 0, .slice none 0 0] 60)).drew w.heap.size 60 #[.bool false, .int .i64 0, .int .i64 0, .bool false, .bool false, .int .i64 0, .slice none 0 0] from ((Row.made w 60 #[.bool false, .int .i64 0, .int .i64 0, .bool false, .bool false, .int .i64 0, .slice none 0 0]).more _).drawn)
  have R1 := Lib.hid (show Row ((w.alloc (.cells #[.bool false, .int .i64 0, .int .i64 0, .bool false, .bool false, .int .i64 0, .slice none 0 0] 60)).alloc (.cells #[.bool poll, .int .i64 0, .int .i64 0, .bool false, .bool false, .int .i64 0, .slice none 0 0] 60)).drew (w.heap.size + 1) 60 #[.bool poll, .int .i64 0, .int .i64 0, .bool false, .bool false, .int .i64 0, .slice none 0 0] from by
    have h := (Row.made (w.alloc (.cells #[.bool false, .int .i64 0, .int .i64 0, .bool false, .bool false, .int .i64 0, .slice none 0 0] 60)) 60 #[.bool poll, .int .i64 0, .int .i64 0, .bool false, .bool false, .int .i64 0, .slice none 0 0]).drawn
    rw [show (w.alloc (.cells #[.bool false, .int .i64 0, .int .i64 0, .bool false, .bool false, .int .i64 0, .slice none 0 0] 60)).heap.size = w.heap.size + 1 by simp] at h
    exact h)
  have HB1 := Lib.hid (show Below w.heap.size w ((w.alloc (.cells #[.bool false, .int .i64 0, .int .i64 0, .bool false, .bool false, .int .i64 0, .slice none 0 0] 60)).alloc (.cells #[.bool poll, .int .i64 0, .int .i64 0, .bool false, .bool false, .int .i64 0, .slice none 0 0] 60)).drew from bl_drew (bl_alloc (bl_alloc (Below.refl _ _) _) _))
  clear y1 y2
  generalize ((w.alloc (.cells #[.bool false, .int .i64 0, .int .i64 0, .bool false, .bool false, .int .i64 0, .slice none 0 0] 60)).alloc (.cells #[.bool poll, .int .i64 0, .int .i64 0, .bool false, .bool false, .int .i64 0, .slice none 0 0] 60)).drew = W1 at *
  have y1 : W1.cell? ⟨b, off0 + 1, none⟩ = some (.bool false) := (HB1.out.cell (p := ⟨b, off0 + 1, none⟩) hbin).trans x1
  have y2 : W1.cell? ⟨b, off0 + 2, none⟩ = some (.bool poll) := (HB1.out.cell (p := ⟨b, off0 + 2, none⟩) hbin).trans x2
  have y5 : W1.cell? ⟨b, off0 + 5, none⟩ = some (.bool more) := (HB1.out.cell (p := ⟨b, off0 + 5, none⟩) hbin).trans x5
  have y6 : W1.cell? ⟨b, off0 + 6, none⟩ = some (.bool true) := (HB1.out.cell (p := ⟨b, off0 + 6, none⟩) hbin).trans x6
  have y7 : W1.cell? ⟨b, off0 + 7, none⟩ = some (.bool false) := (HB1.out.cell (p := ⟨b, off0 + 7, none⟩) hbin).trans x7
  have hne : b ≠ w.heap.size + 1 := by omega
  have hq : w.heap.size ≠ w.heap.size + 1 := by omega
  obtain ⟨⟨c0, c1, c2, c3, c4, c5, c6⟩, f0, f1, f2, f3, f4, f5, f6⟩ := cells_ref10 R1.out
  obtain ⟨⟨d0, d1, d2, d3, d4, d5, d6⟩, e0, e1, e2, e3, e4, e5, e6⟩ := cells_ref10 R0.out
  go_wp2_with (first
    | (go_at_call 284; (with_reducible refine (HG3.out _ (by repeat (first | exact HB1.out | refine Below.setCell ?_ (by simp) _))).mono ?_); rintro e wg3 ⟨rfl, rfl⟩)
    | (go_at_call 284; (with_reducible refine (HG8.out _ (by repeat (first | exact HB1.out | refine Below.setCell ?_ (by simp) _))).mono ?_); rintro e wg8 ⟨rfl, rfl⟩))
  obtain ⟨dd, hdd⟩ := underref10_parts
  refine bodyPost_ret (results_three rfl _ _ w.heap.size 60 #[.bool false, .int .i64 0, .int .i64 0, .bool false, .bool false, .int .i64 0, .slice none 0 0] dd rfl ((((((((R0.out.elsewhere (p := ⟨w.heap.size + 1, 4, none⟩) hq (.bool true)).written 0 (.bool false)).written 1 (.int .i64 0)).written 2 (.int .i64 0)).written 3 (.bool false)).written 4 (.bool false)).written 5 (.int .i64 0)).written 6 (.slice none 0 0)) hdd Try.inforef10) rfl ?_
  exact ⟨rfl, ((((((((HB1.out.setCell (p := ⟨w.heap.size + 1, 4, none⟩) (Nat.le_succ _) (.bool true)).setCell (p := ⟨w.heap.size, 0, none⟩) (Nat.le_refl _) (.bool false)).setCell (p := ⟨w.heap.size, 1, none⟩) (Nat.le_refl _) (.int .i64 0)).setCell (p := ⟨w.heap.size, 2, none⟩) (Nat.le_refl _) (.int .i64 0)).setCell (p := ⟨w.heap.size, 3, none⟩) (Nat.le_refl _) (.bool false)).setCell (p := ⟨w.heap.size, 4, none⟩) (Nat.le_refl _) (.bool false)).setCell (p := ⟨w.heap.size, 5, none⟩) (Nat.le_refl _) (.int .i64 0)).setCell (p := ⟨w.heap.size, 6, none⟩) (Nat.le_refl _) (.slice none 0 0))⟩
set_option maxRecDepth 100000 in
set_option maxHeartbeats 3200000 in
theorem rhead_16fn1 {A : Option Addr} {hd : List Nat} (poll more last : Bool) (fi sn c : Nat) (w : World) (hn : hd.length = 3) (hs : SrcB w A (bls (bitsOf hd))) (hb1 : bitAt hd 1 = false) (hb2 : bitAt hd 2 = poll) (hb5 : bitAt hd 5 = more) (hb6 : bitAt hd 6 = last) (hb7 : bitAt hd 7 = true) (hs3 : val (seg hd 3 2) = fi) (hs8 : val (seg hd 8 16) = sn) :
    Calls Try.prog 175 #[.slice A 24 c, .int .i64 16] w fun e w' => e = .returned (.tuple #[.agg #[.bool false, .int .i64 0, .int .i64 0, .bool false, .bool false, .int .i64 0, .slice none 0 0], .bool false, .bool false]) ∧ Below w.heap.size w w' := by
  obtain ⟨b, off0, rfl, _⟩ := hs (by rw [length_bls, length_bitsOf]; omega)
  have x1 := hs.bitc 1 (by omega)
  rw [hb1] at x1
  have x2 := hs.bitc 2 (by omega)
  rw [hb2] at x2
  have x5 := hs.bitc 5 (by omega)
  rw [hb5] at x5
  have x6 := hs.bitc 6 (by omega)
  rw [hb6] at x6
  have x7 := hs.bitc 7 (by omega)
  rw [hb7] at x7
  have hbin : b < w.heap.size := cell_in x1
  have HW := Lib.hid (fun W => show Calls Try.prog 177 #[.int .i64 16] W fun e w' => e = .returned (.tuple #[.int .i64 15, .int .i64 16]) ∧ W = w' from rwidths_any 16 W)
  have hv3 := val_lt (seg hd 3 2)
  rw [length_seg (by omega), hs3] at hv3
  have hv3 : fi < 4 := Nat.lt_of_lt_of_le hv3 (by decide)
  have hw3 : IntKind.i64.wrap (fi : Int) = (fi : Int) := by rw [IntKind.wrap_i64]; omega
  have HG3 := Lib.hid (fun W (hb : Below w.heap.size w W) => (show Calls Try.prog 284 #[.slice (some ⟨b, off0, none⟩) 24 c, .int .i64 3, .int .i64 2] W fun e w' => e = .returned (.tuple #[.int .u64 fi, .int .i64 5, .int .i64 0]) ∧ W = w' from by
    have h9 := refget_ok (bs := hd) (some ⟨b, off0, none⟩) 24 c 3 2 W (hs.later hb) (by rw [hn]) (by rw [hn]; omega) (by omega) (by omega)
    rw [hs3] at h9
    exact h9))
  have hv8 := val_lt (seg hd 8 16)
  rw [length_seg (by omega), hs8] at hv8
  have hv8 : sn < 65536 := Nat.lt_of_lt_of_le hv8 (by decide)
  have hw8 : IntKind.i64.wrap (sn : Int) = (sn : Int) := by rw [IntKind.wrap_i64]; omega
  have HG8 := Lib.hid (fun W (hb : Below w.heap.size w W) => (show Calls Try.prog 284 #[.slice (some ⟨b, off0, none⟩) 24 c, .int .i64 8, .int .i64 16] W fun e w' => e = .returned (.tuple #[.int .u64 sn, .int .i64 24, .int .i64 0]) ∧ W = w' from by
    have h9 := refget_ok (bs := hd) (some ⟨b, off0, none⟩) 24 c 8 16 W (hs.later hb) (by rw [hn]) (by rw [hn]; omega) (by omega) (by omega)
    rw [hs8] at h9
    exact h9))
  have HB0 := Lib.hid (bl_alloc (Below.refl w.heap.size w) (.cells #[.bool false, .int .i64 0, .int .i64 0, .bool false, .bool false, .int .i64 0, .slice none 0 0] 60))
  clear hs hn hb1 hb2 hb5 hb6 hb7 hs3 hs8
  go_enter Try.func175, Try.ntmps175
  go_wp2_with (go_at_call 177; refine (HW.out _).mono ?_; rintro e w1 ⟨rfl, rfl⟩)
  have y1 : (w.alloc (.cells #[.bool false, .int .i64 0, .int .i64 0, .bool false, .bool false, .int .i64 0, .slice none 0 0] 60)).drew.cell? ⟨b, off0 + 1, none⟩ = some (.bool false) := (HB0.out.cell (p := ⟨b, off0 + 1, none⟩) hbin).trans x1
  have y2 : (w.alloc (.cells #[.bool false, .int .i64 0, .int .i64 0, .bool false, .bool false, .int .i64 0, .slice none 0 0] 60)).drew.cell? ⟨b, off0 + 2, none⟩ = some (.bool poll) := (HB0.out.cell (p := ⟨b, off0 + 2, none⟩) hbin).trans x2
  go_region_held3 (fun w' => w'.cell? ⟨b, off0 + 1, none⟩ = some (.bool false) ∧ w'.cell? ⟨b, off0 + 2, none⟩ = some (.bool poll)) (first | assumption | go_keep) (fail)
  have R0 := Lib.hid (show Row ((w.alloc (.cells #[.bool false, .int .i64 0, .int .i64 0, .bool false, .bool false, .int .i64 0, .slice none 0 0] 60)).alloc (.cells #[.bool poll, .int .i64 0, .int .i64 0, .bool false, .bool false, .int .i64 0, .slice none 0 0] 60)).drew w.heap.size 60 #[.bool false, .int .i64 0, .int .i64 0, .bool false, .bool false, .int .i64 0, .slice none 0 0] from ((Row.made w 60 #[.bool false, .int .i64 0, .int .i64 0, .bool false, .bool false, .int .i64 0, .slice none 0 0]).more _).drawn)
  have R1 := Lib.hid (show Row ((w.alloc (.cells #[.bool false, .int .i64 0, .int .i64 0, .bool false, .bool false, .int .i64 0, .slice none 0 0] 60)).alloc (.cells #[.bool poll, .int .i64 0, .int .i64 0, .bool false, .bool false, .int .i64 0, .slice none 0 0] 60)).drew (w.heap.size + 1) 60 #[.bool poll, .int .i64 0, .int .i64 0, .bool false, .bool false, .int .i64 0, .slice none 0 0] from by
    have h := (Row.made (w.alloc (.cells #[.bool false, .int .i64 0, .int .i64 0, .bool false, .bool false, .int .i64 0, .slice none 0 0] 60)) 60 #[.bool poll, .int .i64 0, .int .i64 0, .bool false, .bool false, .int .i64 0, .slice none 0 0]).drawn
    rw [show (w.alloc (.cells #[.bool false, .int .i64 0, .int .i64 0, .bool false, .bool false, .int .i64 0, .slice none 0 0] 60)).heap.size = w.heap.size + 1 by simp] at h
    exact h)
  have HB1 := Lib.hid (show Below w.heap.size w ((w.alloc (.cells #[.bool false, .int .i64 0, .int .i64 0, .bool false, .bool false, .int .i64 0, .slice none 0 0] 60)).alloc (.cells #[.bool poll, .int .i64 0, .int .i64 0, .bool false, .bool false, .int .i64 0, .slice none 0 0] 60)).drew from bl_drew (bl_alloc (bl_alloc (Below.refl _ _) _) _))
  clear y1 y2
  generalize ((w.alloc (.cells #[.bool false, .int .i64 0, .int .i64 0, .bool false, .bool false, .int .i64 0, .slice none 0 0] 60)).alloc (.cells #[.bool poll, .int .i64 0, .int .i64 0, .bool false, .bool false, .int .i64 0, .slice none 0 0] 60)).drew = W1 at *
  have y1 : W1.cell? ⟨b, off0 + 1, none⟩ = some (.bool false) := (HB1.out.cell (p := ⟨b, off0 + 1, none⟩) hbin).trans x1
  have y2 : W1.cell? ⟨b, off0 + 2, none⟩ = some (.bool poll) := (HB1.out.cell (p := ⟨b, off0 + 2, none⟩) hbin).trans x2
  have y5 : W1.cell? ⟨b, off0 + 5, none⟩ = some (.bool more) := (HB1.out.cell (p := ⟨b, off0 + 5, none⟩) hbin).trans x5
  have y6 : W1.cell? ⟨b, off0 + 6, none⟩ = some (.bool last) := (HB1.out.cell (p := ⟨b, off0 + 6, none⟩) hbin).trans x6
  have y7 : W1.cell? ⟨b, off0 + 7, none⟩ = some (.bool true) := (HB1.out.cell (p := ⟨b, off0 + 7, none⟩) hbin).trans x7
  have hne : b ≠ w.heap.size + 1 := by omega
  have hq : w.heap.size ≠ w.heap.size + 1 := by omega
  obtain ⟨⟨c0, c1, c2, c3, c4, c5, c6⟩, f0, f1, f2, f3, f4, f5, f6⟩ := cells_ref10 R1.out
  obtain ⟨⟨d0, d1, d2, d3, d4, d5, d6⟩, e0, e1, e2, e3, e4, e5, e6⟩ := cells_ref10 R0.out
  go_wp2_with (first
    | (go_at_call 284; (with_reducible refine (HG3.out _ (by repeat (first | exact HB1.out | refine Below.setCell ?_ (by simp) _))).mono ?_); rintro e wg3 ⟨rfl, rfl⟩)
    | (go_at_call 284; (with_reducible refine (HG8.out _ (by repeat (first | exact HB1.out | refine Below.setCell ?_ (by simp) _))).mono ?_); rintro e wg8 ⟨rfl, rfl⟩))
  obtain ⟨dd, hdd⟩ := underref10_parts
  refine bodyPost_ret (results_three rfl _ _ w.heap.size 60 #[.bool false, .int .i64 0, .int .i64 0, .bool false, .bool false, .int .i64 0, .slice none 0 0] dd rfl ((((((((R0.out.elsewhere (p := ⟨w.heap.size + 1, 4, none⟩) hq (.bool last)).written 0 (.bool false)).written 1 (.int .i64 0)).written 2 (.int .i64 0)).written 3 (.bool false)).written 4 (.bool false)).written 5 (.int .i64 0)).written 6 (.slice none 0 0)) hdd Try.inforef10) rfl ?_
  exact ⟨rfl, ((((((((HB1.out.setCell (p := ⟨w.heap.size + 1, 4, none⟩) (Nat.le_succ _) (.bool last)).setCell (p := ⟨w.heap.size, 0, none⟩) (Nat.le_refl _) (.bool false)).setCell (p := ⟨w.heap.size, 1, none⟩) (Nat.le_refl _) (.int .i64 0)).setCell (p := ⟨w.heap.size, 2, none⟩) (Nat.le_refl _) (.int .i64 0)).setCell (p := ⟨w.heap.size, 3, none⟩) (Nat.le_refl _) (.bool false)).setCell (p := ⟨w.heap.size, 4, none⟩) (Nat.le_refl _) (.bool false)).setCell (p := ⟨w.heap.size, 5, none⟩) (Nat.le_refl _) (.int .i64 0)).setCell (p := ⟨w.heap.size, 6, none⟩) (Nat.le_refl _) (.slice none 0 0))⟩
end Go.Proofs.Ytgdpjaojlhdhdaa
