/-
  A head of amd is written: its bytes, of each width, of a part or not. A packet of amd is written: its bytes, or why it has none. A head of amd is got bit by bit.
-/
import Derived.Test.YtgdpjaojlhdhdaaJAmdWrites09
import Derived.Test.YtgdpjaojlhdhdaaJAmdWrites10
namespace Go.Proofs.Ytgdpjaojlhdhdaa
open Go.RowKit

theorem abit_t (w : World) : Calls Try.prog 289 #[.bool true] w fun e w' => e = .returned (.int .i64 1) ∧ w = w' := abit_any true w
theorem abit_f (w : World) : Calls Try.prog 289 #[.bool false] w fun e w' => e = .returned (.int .i64 0) ∧ w = w' := abit_any false w
theorem WrSt.drew {B pr p t : Nat} {w0 w : World} {kp : List (Nat × Nat)} (h : WrSt B w0 pr p kp t w) : WrSt B w0 pr p kp t w.drew := by
  obtain ⟨sv, h1⟩ := h.rep
  exact ⟨⟨sv, h1.later (bl_drew (Below.refl _ _))⟩, h.cell, h.below.drew, h.size, h.len⟩
theorem byt_st {B pr p t : Nat} {w0 w : World} {kp : List (Nat × Nat)} (h : WrSt B w0 pr p kp t w) (ht : t ≤ 1000) :
    Calls Try.prog 271 #[.pointer (some ⟨p, 0, none⟩)] w fun e w' => ∃ g, e = .returned (.slice (some ⟨g, 0, none⟩) (packLen t) (packLen t)) ∧ w.heap.size ≤ g ∧ Row w' g 5 (bts (pack (bitsP kp))).toArray ∧ Below w.heap.size w w' := by
  obtain ⟨sv, hr⟩ := h.rep
  have h1 := bytes_any hr (by rw [h.len]; omega)
  rw [h.len] at h1
  exact h1
set_option maxRecDepth 100000 in
set_option maxHeartbeats 3200000 in
theorem written_10t {A : Option Addr} (poll last : Bool) (fi sn : Nat) (off : Nat) (n cap : Nat) (w : World) (hfi : fi < 2 ^ 2) (hsn : sn < 2 ^ 10) (hoff : off < 2 ^ 15) :
    Calls Try.prog 183 #[.agg #[.bool poll, .int .i64 fi, .int .i64 sn, .bool true, .bool last, .int .i64 off, .slice A n cap], .int .i64 10] w fun e w' => ∃ g, e = .returned (.slice (some ⟨g, 0, none⟩) 4 4) ∧ w.heap.size ≤ g ∧ Row w' g 5 (bts (pack (bitsP (putsA poll true last fi sn off (decide (1 < n)) 10)))).toArray ∧ Below w.heap.size w w' := by
  have HMORE := Lib.hid (show decide ((1 : Int) < (n : Int)) = decide (1 < n) by apply decide_eq_decide.2; omega)
  have HU := Lib.hid (show putsA poll true last fi sn off (decide (1 < n)) 10 = [(1, 1), (1, 1), (poll.toNat, 1), (fi, 2), ((decide (1 < n)).toNat, 1), (sn, 10), (last.toNat, 1), (off, 15)] from rfl)
  rw [HU.out]
  generalize decide (1 < n) = more at *
  have HFI := Lib.hid hfi
  have HSN := Lib.hid hsn
  have HOF := Lib.hid hoff
  clear hfi hsn hoff
  have ROW0 := Lib.hid (Row.made w 57 #[.bool poll, .int .i64 fi, .int .i64 sn, .bool true, .bool last, .int .i64 off, .slice A n cap])
  have HSZ0 := Lib.hid (show w.heap.size + 1 ≤ (w.alloc (.cells #[.bool poll, .int .i64 fi, .int .i64 sn, .bool true, .bool last, .int .i64 off, .slice A n cap] 57)).heap.size by simp)
  have hnew := new_any (w.heap.size + 1) _ HSZ0.out
  rw [show (w.alloc (.cells #[.bool poll, .int .i64 fi, .int .i64 sn, .bool true, .bool last, .int .i64 off, .slice A n cap] 57)).heap.size = w.heap.size + 1 by simp] at hnew
  have HNEW := Lib.hid hnew
  clear hnew
  go_enter Try.func183, Try.ntmps183
  go_wp2_with (first
    | (go_at_call 268; refine HNEW.out.mono ?_; rintro e w1 ⟨rfl, hr1, hb1⟩; (have hz1 : w.heap.size + 1 ≤ w1.heap.size := Nat.le_trans HSZ0.out hb1.size; have ST0 := Lib.hid (show WrSt (w.heap.size + 1) (w.alloc (.cells #[.bool poll, .int .i64 fi, .int .i64 sn, .bool true, .bool last, .int .i64 off, .slice A n cap] 57)) w1.heap.size (w.heap.size + 1) [] 0 (w1.alloc (.cells #[.pointer (some ⟨w.heap.size + 1, 0, none⟩)] 323)) from ⟨⟨_, hr1.later (bl_alloc (Below.refl _ _) _)⟩, Row.made _ _ _, hb1.trans ((bl_alloc (Below.refl w1.heap.size w1) _).mono hz1), by simp; omega, rfl⟩); clear hr1 hb1 hz1); obtain ⟨c0, c1, c2, c3, c4, c5, c6⟩ := cells_und ROW0.out ST0.out.below (Nat.lt_succ_self _); have CG0 := Lib.hid (ST0.out.put 1 1 1 1 rfl rfl (by omega) (by decide) (by decide) (by omega)))
    | (go_at_call 289; (with_reducible refine (abit_t _).mono ?_); rintro e wx ⟨rfl, rfl⟩)
    | (go_at_call 289; (with_reducible refine (abit_f _).mono ?_); rintro e wx ⟨rfl, rfl⟩)
    | (go_at_call 289; (with_reducible refine (abit_any _ _).mono ?_); rintro e wx ⟨rfl, rfl⟩; try rw [HMORE.out])
    | (go_at_call 271; refine (HBY.out).mono ?_; rintro e wz ⟨g, rfl, hg, hrow, hbz⟩)
    | ((with_reducible refine CG0.out.mono ?_); rintro e w2 ⟨rfl, hst⟩; have ST1 := Lib.hid (show WrSt _ _ _ _ [(1, 1)] 1 w2 from hst); clear hst c0 c1 c2 c3 c4 c5 c6 CG0; obtain ⟨c0, c1, c2, c3, c4, c5, c6⟩ := cells_und ROW0.out ST1.out.below (Nat.lt_succ_self _); have CG1 := Lib.hid (ST1.out.put 1 1 1 1 rfl rfl (by omega) (by decide) (by decide) (by omega)))
    | ((with_reducible refine CG1.out.mono ?_); rintro e w3 ⟨rfl, hst⟩; have ST2 := Lib.hid (show WrSt _ _ _ _ [(1, 1), (1, 1)] 2 w3 from hst); clear hst c0 c1 c2 c3 c4 c5 c6 CG1; obtain ⟨c0, c1, c2, c3, c4, c5, c6⟩ := cells_und ROW0.out ST2.out.below (Nat.lt_succ_self _); have CG2 := Lib.hid (ST2.out.put poll.toNat 1 poll.toNat 1 rfl rfl (by omega) (bool_lt poll).1 (bool_lt poll).2 (by omega)))
    | ((with_reducible refine CG2.out.mono ?_); rintro e w4 ⟨rfl, hst⟩; have ST3 := Lib.hid (show WrSt _ _ _ _ [(1, 1), (1, 1), (poll.toNat, 1)] 3 w4 from hst); clear hst c0 c1 c2 c3 c4 c5 c6 CG2; obtain ⟨c0, c1, c2, c3, c4, c5, c6⟩ := cells_und ROW0.out ST3.out.below (Nat.lt_succ_self _); have CG3 := Lib.hid (ST3.out.put fi 2 fi 2 rfl rfl (by omega) HFI.out (by have := HFI.out; omega) (by omega)))
    | ((with_reducible refine CG3.out.mono ?_); rintro e w5 ⟨rfl, hst⟩; have ST4 := Lib.hid (show WrSt _ _ _ _ [(1, 1), (1, 1), (poll.toNat, 1), (fi, 2)] 5 w5 from hst); clear hst c0 c1 c2 c3 c4 c5 c6 CG3; obtain ⟨c0, c1, c2, c3, c4, c5, c6⟩ := cells_und ROW0.out ST4.out.below (Nat.lt_succ_self _); have CG4 := Lib.hid (ST4.out.put more.toNat 1 more.toNat 1 rfl rfl (by omega) (bool_lt more).1 (bool_lt more).2 (by omega)))
    | ((with_reducible refine CG4.out.mono ?_); rintro e w6 ⟨rfl, hst⟩; have ST5 := Lib.hid (show WrSt _ _ _ _ [(1, 1), (1, 1), (poll.toNat, 1), (fi, 2), (more.toNat, 1)] 6 w6 from hst); clear hst c0 c1 c2 c3 c4 c5 c6 CG4; obtain ⟨c0, c1, c2, c3, c4, c5, c6⟩ := cells_und ROW0.out ST5.out.below (Nat.lt_succ_self _); have CG5 := Lib.hid (ST5.out.put sn 10 sn 10 rfl rfl (by omega) HSN.out (by have := HSN.out; omega) (by omega)))
    | ((with_reducible refine CG5.out.mono ?_); rintro e w7 ⟨rfl, hst⟩; have ST6 := Lib.hid (show WrSt _ _ _ _ [(1, 1), (1, 1), (poll.toNat, 1), (fi, 2), (more.toNat, 1), (sn, 10)] 16 w7 from hst); clear hst c0 c1 c2 c3 c4 c5 c6 CG5; obtain ⟨c0, c1, c2, c3, c4, c5, c6⟩ := cells_und ROW0.out ST6.out.below (Nat.lt_succ_self _); have CG6 := Lib.hid (ST6.out.put last.toNat 1 last.toNat 1 rfl rfl (by omega) (bool_lt last).1 (bool_lt last).2 (by omega)))
    | ((with_reducible refine CG6.out.mono ?_); rintro e w8 ⟨rfl, hst⟩; have ST7 := Lib.hid (show WrSt _ _ _ _ [(1, 1), (1, 1), (poll.toNat, 1), (fi, 2), (more.toNat, 1), (sn, 10), (last.toNat, 1)] 17 w8 from hst); clear hst c0 c1 c2 c3 c4 c5 c6 CG6; obtain ⟨c0, c1, c2, c3, c4, c5, c6⟩ := cells_und ROW0.out ST7.out.below (Nat.lt_succ_self _); have CG7 := Lib.hid (ST7.out.drew.put off 15 off 15 rfl rfl (by omega) HOF.out (by have := HOF.out; omega) (by omega))))
  have d5 : w8.drew.cell? ⟨w.heap.size, 5, none⟩ = some (.int .i64 off) := c5
  go_region_held3 (fun w' => w'.cell? ⟨w.heap.size, 5, none⟩ = some (.int .i64 off)) (first | assumption | go_keep) (first
    | (go_at_call 283; (with_reducible refine (aoff_any _ _).mono ?_); rintro e v1 ⟨rfl, rfl⟩; rw [show owA 10 = 15 from rfl])
    | ((with_reducible refine CG7.out.mono ?_); rintro e w9 ⟨rfl, hst⟩; have ST8 := Lib.hid (show WrSt _ _ _ _ [(1, 1), (1, 1), (poll.toNat, 1), (fi, 2), (more.toNat, 1), (sn, 10), (last.toNat, 1), (off, 15)] 32 w9 from hst); clear hst c0 c1 c2 c3 c4 c5 c6; obtain ⟨c0, c1, c2, c3, c4, c5, c6⟩ := cells_und ROW0.out ST8.out.below (Nat.lt_succ_self _); have HBY := Lib.hid (byt_st ST8.out (by omega)); have c7 := ST8.out.cell.read (i := 0) rfl))
  go_wp2_with (go_at_call 271; refine (HBY.out).mono ?_; rintro e wz ⟨g, rfl, hg, hrow, hbz⟩)
  go_ret
  exact ⟨g, rfl, Nat.le_trans (Nat.le_of_succ_le ST8.out.size) hg, hrow, (bl_alloc (Below.refl w.heap.size w) _).trans ((ST8.out.below.mono (Nat.le_succ _)).trans (hbz.mono (Nat.le_of_succ_le ST8.out.size)))⟩
set_option maxRecDepth 100000 in
set_option maxHeartbeats 3200000 in
theorem written_10f {A : Option Addr} (poll last : Bool) (fi sn : Nat) (off : Int) (n cap : Nat) (w : World) (hfi : fi < 2 ^ 2) (hsn : sn < 2 ^ 10) :
    Calls Try.prog 183 #[.agg #[.bool poll, .int .i64 fi, .int .i64 sn, .bool false, .bool last, .int .i64 off, .slice A n cap], .int .i64 10] w fun e w' => ∃ g, e = .returned (.slice (some ⟨g, 0, none⟩) 2 2) ∧ w.heap.size ≤ g ∧ Row w' g 5 (bts (pack (bitsP (putsA poll false last fi sn 0 (decide (1 < n)) 10)))).toArray ∧ Below w.heap.size w w' := by
  have HMORE := Lib.hid (show decide ((1 : Int) < (n : Int)) = decide (1 < n) by apply decide_eq_decide.2; omega)
  have HU := Lib.hid (show putsA poll false last fi sn 0 (decide (1 < n)) 10 = [(1, 1), (0, 1), (poll.toNat, 1), (fi, 2), ((decide (1 < n)).toNat, 1), (sn, 10)] from rfl)
  rw [HU.out]
  generalize decide (1 < n) = more at *
  have HFI := Lib.hid hfi
  have HSN := Lib.hid hsn
  clear hfi hsn
  have ROW0 := Lib.hid (Row.made w 57 #[.bool poll, .int .i64 fi, .int .i64 sn, .bool false, .bool last, .int .i64 off, .slice A n cap])
  have HSZ0 := Lib.hid (show w.heap.size + 1 ≤ (w.alloc (.cells #[.bool poll, .int .i64 fi, .int .i64 sn, .bool false, .bool last, .int .i64 off, .slice A n cap] 57)).heap.size by simp)
  have hnew := new_any (w.heap.size + 1) _ HSZ0.out
  rw [show (w.alloc (.cells #[.bool poll, .int .i64 fi, .int .i64 sn, .bool false, .bool last, .int .i64 off, .slice A n cap] 57)).heap.size = w.heap.size + 1 by simp] at hnew
  have HNEW := Lib.hid hnew
  clear hnew
  go_enter Try.func183, Try.ntmps183
  go_wp2_with (first
    | (go_at_call 268; refine HNEW.out.mono ?_; rintro e w1 ⟨rfl, hr1, hb1⟩; (have hz1 : w.heap.size + 1 ≤ w1.heap.size := Nat.le_trans HSZ0.out hb1.size; have ST0 := Lib.hid (show WrSt (w.heap.size + 1) (w.alloc (.cells #[.bool poll, .int .i64 fi, .int .i64 sn, .bool false, .bool last, .int .i64 off, .slice A n cap] 57)) w1.heap.size (w.heap.size + 1) [] 0 (w1.alloc (.cells #[.pointer (some ⟨w.heap.size + 1, 0, none⟩)] 323)) from ⟨⟨_, hr1.later (bl_alloc (Below.refl _ _) _)⟩, Row.made _ _ _, hb1.trans ((bl_alloc (Below.refl w1.heap.size w1) _).mono hz1), by simp; omega, rfl⟩); clear hr1 hb1 hz1); obtain ⟨c0, c1, c2, c3, c4, c5, c6⟩ := cells_und ROW0.out ST0.out.below (Nat.lt_succ_self _); have CG0 := Lib.hid (ST0.out.put 1 1 1 1 rfl rfl (by omega) (by decide) (by decide) (by omega)))
    | (go_at_call 289; (with_reducible refine (abit_t _).mono ?_); rintro e wx ⟨rfl, rfl⟩)
    | (go_at_call 289; (with_reducible refine (abit_f _).mono ?_); rintro e wx ⟨rfl, rfl⟩)
    | (go_at_call 289; (with_reducible refine (abit_any _ _).mono ?_); rintro e wx ⟨rfl, rfl⟩; try rw [HMORE.out])
    | (go_at_call 271; refine (HBY.out).mono ?_; rintro e wz ⟨g, rfl, hg, hrow, hbz⟩)
    | ((with_reducible refine CG0.out.mono ?_); rintro e w2 ⟨rfl, hst⟩; have ST1 := Lib.hid (show WrSt _ _ _ _ [(1, 1)] 1 w2 from hst); clear hst c0 c1 c2 c3 c4 c5 c6 CG0; obtain ⟨c0, c1, c2, c3, c4, c5, c6⟩ := cells_und ROW0.out ST1.out.below (Nat.lt_succ_self _); have CG1 := Lib.hid (ST1.out.put 0 1 0 1 rfl rfl (by omega) (by decide) (by decide) (by omega)))
    | ((with_reducible refine CG1.out.mono ?_); rintro e w3 ⟨rfl, hst⟩; have ST2 := Lib.hid (show WrSt _ _ _ _ [(1, 1), (0, 1)] 2 w3 from hst); clear hst c0 c1 c2 c3 c4 c5 c6 CG1; obtain ⟨c0, c1, c2, c3, c4, c5, c6⟩ := cells_und ROW0.out ST2.out.below (Nat.lt_succ_self _); have CG2 := Lib.hid (ST2.out.put poll.toNat 1 poll.toNat 1 rfl rfl (by omega) (bool_lt poll).1 (bool_lt poll).2 (by omega)))
    | ((with_reducible refine CG2.out.mono ?_); rintro e w4 ⟨rfl, hst⟩; have ST3 := Lib.hid (show WrSt _ _ _ _ [(1, 1), (0, 1), (poll.toNat, 1)] 3 w4 from hst); clear hst c0 c1 c2 c3 c4 c5 c6 CG2; obtain ⟨c0, c1, c2, c3, c4, c5, c6⟩ := cells_und ROW0.out ST3.out.below (Nat.lt_succ_self _); have CG3 := Lib.hid (ST3.out.put fi 2 fi 2 rfl rfl (by omega) HFI.out (by have := HFI.out; omega) (by omega)))
    | ((with_reducible refine CG3.out.mono ?_); rintro e w5 ⟨rfl, hst⟩; have ST4 := Lib.hid (show WrSt _ _ _ _ [(1, 1), (0, 1), (poll.toNat, 1), (fi, 2)] 5 w5 from hst); clear hst c0 c1 c2 c3 c4 c5 c6 CG3; obtain ⟨c0, c1, c2, c3, c4, c5, c6⟩ := cells_und ROW0.out ST4.out.below (Nat.lt_succ_self _); have CG4 := Lib.hid (ST4.out.put more.toNat 1 more.toNat 1 rfl rfl (by omega) (bool_lt more).1 (bool_lt more).2 (by omega)))
    | ((with_reducible refine CG4.out.mono ?_); rintro e w6 ⟨rfl, hst⟩; have ST5 := Lib.hid (show WrSt _ _ _ _ [(1, 1), (0, 1), (poll.toNat, 1), (fi, 2), (more.toNat, 1)] 6 w6 from hst); clear hst c0 c1 c2 c3 c4 c5 c6 CG4; obtain ⟨c0, c1, c2, c3, c4, c5, c6⟩ := cells_und ROW0.out ST5.out.below (Nat.lt_succ_self _); have CG5 := Lib.hid (ST5.out.put sn 10 sn 10 rfl rfl (by omega) HSN.out (by have := HSN.out; omega) (by omega)))
    | ((with_reducible refine CG5.out.mono ?_); rintro e w7 ⟨rfl, hst⟩; have ST6 := Lib.hid (show WrSt _ _ _ _ [(1, 1), (0, 1), (poll.toNat, 1), (fi, 2), (more.toNat, 1), (sn, 10)] 16 w7 from hst); clear hst c0 c1 c2 c3 c4 c5 c6 CG5; obtain ⟨c0, c1, c2, c3, c4, c5, c6⟩ := cells_und ROW0.out ST6.out.below (Nat.lt_succ_self _); have HBY := Lib.hid (byt_st ST6.out (by omega)); have c7 := ST6.out.cell.read (i := 0) rfl))
  go_ret
  exact ⟨g, rfl, Nat.le_trans (Nat.le_of_succ_le ST6.out.size) hg, hrow, (bl_alloc (Below.refl w.heap.size w) _).trans ((ST6.out.below.mono (Nat.le_succ _)).trans (hbz.mono (Nat.le_of_succ_le ST6.out.size)))⟩
set_option maxRecDepth 100000 in
set_option maxHeartbeats 3200000 in
theorem written_16t {A : Option Addr} (poll last : Bool) (fi sn : Nat) (off : Nat) (n cap : Nat) (w : World) (hfi : fi < 2 ^ 2) (hsn : sn < 2 ^ 16) (hoff : off < 2 ^ 16) :
    Calls Try.prog 183 #[.agg #[.bool poll, .int .i64 fi, .int .i64 sn, .bool true, .bool last, .int .i64 off, .slice A n cap], .int .i64 16] w fun e w' => ∃ g, e = .returned (.slice (some ⟨g, 0, none⟩) 5 5) ∧ w.heap.size ≤ g ∧ Row w' g 5 (bts (pack (bitsP (putsA poll true last fi sn off (decide (1 < n)) 16)))).toArray ∧ Below w.heap.size w w' := by
  have HMORE := Lib.hid (show decide ((1 : Int) < (n : Int)) = decide (1 < n) by apply decide_eq_decide.2; omega)
  have HU := Lib.hid (show putsA poll true last fi sn off (decide (1 < n)) 16 = [(1, 1), (1, 1), (poll.toNat, 1), (fi, 2), ((decide (1 < n)).toNat, 1), (last.toNat, 1), (0, 1), (sn, 16), (off, 16)] from rfl)
  rw [HU.out]
  generalize decide (1 < n) = more at *
  have HFI := Lib.hid hfi
  have HSN := Lib.hid hsn
  have HOF := Lib.hid hoff
  clear hfi hsn hoff
  have ROW0 := Lib.hid (Row.made w 57 #[.bool poll, .int .i64 fi, .int .i64 sn, .bool true, .bool last, .int .i64 off, .slice A n cap])
  have HSZ0 := Lib.hid (show w.heap.size + 1 ≤ (w.alloc (.cells #[.bool poll, .int .i64 fi, .int .i64 sn, .bool true, .bool last, .int .i64 off, .slice A n cap] 57)).heap.size by simp)
  have hnew := new_any (w.heap.size + 1) _ HSZ0.out
  rw [show (w.alloc (.cells #[.bool poll, .int .i64 fi, .int .i64 sn, .bool true, .bool last, .int .i64 off, .slice A n cap] 57)).heap.size = w.heap.size + 1 by simp] at hnew
  have HNEW := Lib.hid hnew
  clear hnew
  go_enter Try.func183, Try.ntmps183
  go_wp2_with (first
    | (go_at_call 268; refine HNEW.out.mono ?_; rintro e w1 ⟨rfl, hr1, hb1⟩; (have hz1 : w.heap.size + 1 ≤ w1.heap.size := Nat.le_trans HSZ0.out hb1.size; have ST0 := Lib.hid (show WrSt (w.heap.size + 1) (w.alloc (.cells #[.bool poll, .int .i64 fi, .int .i64 sn, .bool true, .bool last, .int .i64 off, .slice A n cap] 57)) w1.heap.size (w.heap.size + 1) [] 0 (w1.alloc (.cells #[.pointer (some ⟨w.heap.size + 1, 0, none⟩)] 323)) from ⟨⟨_, hr1.later (bl_alloc (Below.refl _ _) _)⟩, Row.made _ _ _, hb1.trans ((bl_alloc (Below.refl w1.heap.size w1) _).mono hz1), by simp; omega, rfl⟩); clear hr1 hb1 hz1); obtain ⟨c0, c1, c2, c3, c4, c5, c6⟩ := cells_und ROW0.out ST0.out.below (Nat.lt_succ_self _); have CG0 := Lib.hid (ST0.out.put 1 1 1 1 rfl rfl (by omega) (by decide) (by decide) (by omega)))
    | (go_at_call 289; (with_reducible refine (abit_t _).mono ?_); rintro e wx ⟨rfl, rfl⟩)
    | (go_at_call 289; (with_reducible refine (abit_f _).mono ?_); rintro e wx ⟨rfl, rfl⟩)
    | (go_at_call 289; (with_reducible refine (abit_any _ _).mono ?_); rintro e wx ⟨rfl, rfl⟩; try rw [HMORE.out])
    | (go_at_call 271; refine (HBY.out).mono ?_; rintro e wz ⟨g, rfl, hg, hrow, hbz⟩)
    | ((with_reducible refine CG0.out.mono ?_); rintro e w2 ⟨rfl, hst⟩; have ST1 := Lib.hid (show WrSt _ _ _ _ [(1, 1)] 1 w2 from hst); clear hst c0 c1 c2 c3 c4 c5 c6 CG0; obtain ⟨c0, c1, c2, c3, c4, c5, c6⟩ := cells_und ROW0.out ST1.out.below (Nat.lt_succ_self _); have CG1 := Lib.hid (ST1.out.put 1 1 1 1 rfl rfl (by omega) (by decide) (by decide) (by omega)))
    | ((with_reducible refine CG1.out.mono ?_); rintro e w3 ⟨rfl, hst⟩; have ST2 := Lib.hid (show WrSt _ _ _ _ [(1, 1), (1, 1)] 2 w3 from hst); clear hst c0 c1 c2 c3 c4 c5 c6 CG1; obtain ⟨c0, c1, c2, c3, c4, c5, c6⟩ := cells_und ROW0.out ST2.out.below (Nat.lt_succ_self _); have CG2 := Lib.hid (ST2.out.put poll.toNat 1 poll.toNat 1 rfl rfl (by omega) (bool_lt poll).1 (bool_lt poll).2 (by omega)))
    | ((with_reducible refine CG2.out.mono ?_); rintro e w4 ⟨rfl, hst⟩; have ST3 := Lib.hid (show WrSt _ _ _ _ [(1, 1), (1, 1), (poll.toNat, 1)] 3 w4 from hst); clear hst c0 c1 c2 c3 c4 c5 c6 CG2; obtain ⟨c0, c1, c2, c3, c4, c5, c6⟩ := cells_und ROW0.out ST3.out.below (Nat.lt_succ_self _); have CG3 := Lib.hid (ST3.out.put fi 2 fi 2 rfl rfl (by omega) HFI.out (by have := HFI.out; omega) (by omega)))
    | ((with_reducible refine CG3.out.mono ?_); rintro e w5 ⟨rfl, hst⟩; have ST4 := Lib.hid (show WrSt _ _ _ _ [(1, 1), (1, 1), (poll.toNat, 1), (fi, 2)] 5 w5 from hst); clear hst c0 c1 c2 c3 c4 c5 c6 CG3; obtain ⟨c0, c1, c2, c3, c4, c5, c6⟩ := cells_und ROW0.out ST4.out.below (Nat.lt_succ_self _); have CG4 := Lib.hid (ST4.out.put more.toNat 1 more.toNat 1 rfl rfl (by omega) (bool_lt more).1 (bool_lt more).2 (by omega)))
    | ((with_reducible refine CG4.out.mono ?_); rintro e w6 ⟨rfl, hst⟩; have ST5 := Lib.hid (show WrSt _ _ _ _ [(1, 1), (1, 1), (poll.toNat, 1), (fi, 2), (more.toNat, 1)] 6 w6 from hst); clear hst c0 c1 c2 c3 c4 c5 c6 CG4; obtain ⟨c0, c1, c2, c3, c4, c5, c6⟩ := cells_und ROW0.out ST5.out.below (Nat.lt_succ_self _); have CG5 := Lib.hid (ST5.out.put last.toNat 1 last.toNat 1 rfl rfl (by omega) (bool_lt last).1 (bool_lt last).2 (by omega)))
    | ((with_reducible refine CG5.out.mono ?_); rintro e w7 ⟨rfl, hst⟩; have ST6 := Lib.hid (show WrSt _ _ _ _ [(1, 1), (1, 1), (poll.toNat, 1), (fi, 2), (more.toNat, 1), (last.toNat, 1)] 7 w7 from hst); clear hst c0 c1 c2 c3 c4 c5 c6 CG5; obtain ⟨c0, c1, c2, c3, c4, c5, c6⟩ := cells_und ROW0.out ST6.out.below (Nat.lt_succ_self _); have CG6 := Lib.hid (ST6.out.put 0 1 0 1 rfl rfl (by omega) (by decide) (by decide) (by omega)))
    | ((with_reducible refine CG6.out.mono ?_); rintro e w8 ⟨rfl, hst⟩; have ST7 := Lib.hid (show WrSt _ _ _ _ [(1, 1), (1, 1), (poll.toNat, 1), (fi, 2), (more.toNat, 1), (last.toNat, 1), (0, 1)] 8 w8 from hst); clear hst c0 c1 c2 c3 c4 c5 c6 CG6; obtain ⟨c0, c1, c2, c3, c4, c5, c6⟩ := cells_und ROW0.out ST7.out.below (Nat.lt_succ_self _); have CG7 := Lib.hid (ST7.out.put sn 16 sn 16 rfl rfl (by omega) HSN.out (by have := HSN.out; omega) (by omega)))
    | ((with_reducible refine CG7.out.mono ?_); rintro e w9 ⟨rfl, hst⟩; have ST8 := Lib.hid (show WrSt _ _ _ _ [(1, 1), (1, 1), (poll.toNat, 1), (fi, 2), (more.toNat, 1), (last.toNat, 1), (0, 1), (sn, 16)] 24 w9 from hst); clear hst c0 c1 c2 c3 c4 c5 c6 CG7; obtain ⟨c0, c1, c2, c3, c4, c5, c6⟩ := cells_und ROW0.out ST8.out.below (Nat.lt_succ_self _); have CG8 := Lib.hid (ST8.out.drew.put off 16 off 16 rfl rfl (by omega) HOF.out (by have := HOF.out; omega) (by omega))))
  have d5 : w9.drew.cell? ⟨w.heap.size, 5, none⟩ = some (.int .i64 off) := c5
  go_region_held3 (fun w' => w'.cell? ⟨w.heap.size, 5, none⟩ = some (.int .i64 off)) (first | assumption | go_keep) (first
    | (go_at_call 283; (with_reducible refine (aoff_any _ _).mono ?_); rintro e v1 ⟨rfl, rfl⟩; rw [show owA 16 = 16 from rfl])
    | ((with_reducible refine CG8.out.mono ?_); rintro e w10 ⟨rfl, hst⟩; have ST9 := Lib.hid (show WrSt _ _ _ _ [(1, 1), (1, 1), (poll.toNat, 1), (fi, 2), (more.toNat, 1), (last.toNat, 1), (0, 1), (sn, 16), (off, 16)] 40 w10 from hst); clear hst c0 c1 c2 c3 c4 c5 c6; obtain ⟨c0, c1, c2, c3, c4, c5, c6⟩ := cells_und ROW0.out ST9.out.below (Nat.lt_succ_self _); have HBY := Lib.hid (byt_st ST9.out (by omega)); have c7 := ST9.out.cell.read (i := 0) rfl))
  go_wp2_with (go_at_call 271; refine (HBY.out).mono ?_; rintro e wz ⟨g, rfl, hg, hrow, hbz⟩)
  go_ret
  exact ⟨g, rfl, Nat.le_trans (Nat.le_of_succ_le ST9.out.size) hg, hrow, (bl_alloc (Below.refl w.heap.size w) _).trans ((ST9.out.below.mono (Nat.le_succ _)).trans (hbz.mono (Nat.le_of_succ_le ST9.out.size)))⟩
set_option maxRecDepth 100000 in
set_option maxHeartbeats 3200000 in
theorem written_16f {A : Option Addr} (poll last : Bool) (fi sn : Nat) (off : Int) (n cap : Nat) (w : World) (hfi : fi < 2 ^ 2) (hsn : sn < 2 ^ 16) :
    Calls Try.prog 183 #[.agg #[.bool poll, .int .i64 fi, .int .i64 sn, .bool false, .bool last, .int .i64 off, .slice A n cap], .int .i64 16] w fun e w' => ∃ g, e = .returned (.slice (some ⟨g, 0, none⟩) 3 3) ∧ w.heap.size ≤ g ∧ Row w' g 5 (bts (pack (bitsP (putsA poll false last fi sn 0 (decide (1 < n)) 16)))).toArray ∧ Below w.heap.size w w' := by
  have HMORE := Lib.hid (show decide ((1 : Int) < (n : Int)) = decide (1 < n) by apply decide_eq_decide.2; omega)
  have HU := Lib.hid (show putsA poll false last fi sn 0 (decide (1 < n)) 16 = [(1, 1), (0, 1), (poll.toNat, 1), (fi, 2), ((decide (1 < n)).toNat, 1), (last.toNat, 1), (0, 1), (sn, 16)] from rfl)
  rw [HU.out]
  generalize decide (1 < n) = more at *
  have HFI := Lib.hid hfi
  have HSN := Lib.hid hsn
  clear hfi hsn
  have ROW0 := Lib.hid (Row.made w 57 #[.bool poll, .int .i64 fi, .int .i64 sn, .bool false, .bool last, .int .i64 off, .slice A n cap])
  have HSZ0 := Lib.hid (show w.heap.size + 1 ≤ (w.alloc (.cells #[.bool poll, .int .i64 fi, .int .i64 sn, .bool false, .bool last, .int .i64 off, .slice A n cap] 57)).heap.size by simp)
  have hnew := new_any (w.heap.size + 1) _ HSZ0.out
  rw [show (w.alloc (.cells #[.bool poll, .int .i64 fi, .int .i64 sn, .bool false, .bool last, .int .i64 off, .slice A n cap] 57)).heap.size = w.heap.size + 1 by simp] at hnew
  have HNEW := Lib.hid hnew
  clear hnew
  go_enter Try.func183, Try.ntmps183
  go_wp2_with (first
    | (go_at_call 268; refine HNEW.out.mono ?_; rintro e w1 ⟨rfl, hr1, hb1⟩; (have hz1 : w.heap.size + 1 ≤ w1.heap.size := Nat.le_trans HSZ0.out hb1.size; have ST0 := Lib.hid (show WrSt (w.heap.size + 1) (w.alloc (.cells #[.bool poll, .int .i64 fi, .int .i64 sn, .bool false, .bool last, .int .i64 off, .slice A n cap] 57)) w1.heap.size (w.heap.size + 1) [] 0 (w1.alloc (.cells #[.pointer (some ⟨w.heap.size + 1, 0, none⟩)] 323)) from ⟨⟨_, hr1.later (bl_alloc (Below.refl _ _) _)⟩, Row.made _ _ _, hb1.trans ((bl_alloc (Below.refl w1.heap.size w1) _).mono hz1), by simp; omega, rfl⟩); clear hr1 hb1 hz1); obtain ⟨c0, c1, c2, c3, c4, c5, c6⟩ := cells_und ROW0.out ST0.out.below (Nat.lt_succ_self _); have CG0 := Lib.hid (ST0.out.put 1 1 1 1 rfl rfl (by omega) (by decide) (by decide) (by omega)))
    | (go_at_call 289; (with_reducible refine (abit_t _).mono ?_); rintro e wx ⟨rfl, rfl⟩)
    | (go_at_call 289; (with_reducible refine (abit_f _).mono ?_); rintro e wx ⟨rfl, rfl⟩)
    | (go_at_call 289; (with_reducible refine (abit_any _ _).mono ?_); rintro e wx ⟨rfl, rfl⟩; try rw [HMORE.out])
    | (go_at_call 271; refine (HBY.out).mono ?_; rintro e wz ⟨g, rfl, hg, hrow, hbz⟩)
    | ((with_reducible refine CG0.out.mono ?_); rintro e w2 ⟨rfl, hst⟩; have ST1 := Lib.hid (show WrSt _ _ _ _ [(1, 1)] 1 w2 from hst); clear hst c0 c1 c2 c3 c4 c5 c6 CG0; obtain ⟨c0, c1, c2, c3, c4, c5, c6⟩ := cells_und ROW0.out ST1.out.below (Nat.lt_succ_self _); have CG1 := Lib.hid (ST1.out.put 0 1 0 1 rfl rfl (by omega) (by decide) (by decide) (by omega)))
    | ((with_reducible refine CG1.out.mono ?_); rintro e w3 ⟨rfl, hst⟩; have ST2 := Lib.hid (show WrSt _ _ _ _ [(1, 1), (0, 1)] 2 w3 from hst); clear hst c0 c1 c2 c3 c4 c5 c6 CG1; obtain ⟨c0, c1, c2, c3, c4, c5, c6⟩ := cells_und ROW0.out ST2.out.below (Nat.lt_succ_self _); have CG2 := Lib.hid (ST2.out.put poll.toNat 1 poll.toNat 1 rfl rfl (by omega) (bool_lt poll).1 (bool_lt poll).2 (by omega)))
    | ((with_reducible refine CG2.out.mono ?_); rintro e w4 ⟨rfl, hst⟩; have ST3 := Lib.hid (show WrSt _ _ _ _ [(1, 1), (0, 1), (poll.toNat, 1)] 3 w4 from hst); clear hst c0 c1 c2 c3 c4 c5 c6 CG2; obtain ⟨c0, c1, c2, c3, c4, c5, c6⟩ := cells_und ROW0.out ST3.out.below (Nat.lt_succ_self _); have CG3 := Lib.hid (ST3.out.put fi 2 fi 2 rfl rfl (by omega) HFI.out (by have := HFI.out; omega) (by omega)))
    | ((with_reducible refine CG3.out.mono ?_); rintro e w5 ⟨rfl, hst⟩; have ST4 := Lib.hid (show WrSt _ _ _ _ [(1, 1), (0, 1), (poll.toNat, 1), (fi, 2)] 5 w5 from hst); clear hst c0 c1 c2 c3 c4 c5 c6 CG3; obtain ⟨c0, c1, c2, c3, c4, c5, c6⟩ := cells_und ROW0.out ST4.out.below (Nat.lt_succ_self _); have CG4 := Lib.hid (ST4.out.put more.toNat 1 more.toNat 1 rfl rfl (by omega) (bool_lt more).1 (bool_lt more).2 (by omega)))
    | ((with_reducible refine CG4.out.mono ?_); rintro e w6 ⟨rfl, hst⟩; have ST5 := Lib.hid (show WrSt _ _ _ _ [(1, 1), (0, 1), (poll.toNat, 1), (fi, 2), (more.toNat, 1)] 6 w6 from hst); clear hst c0 c1 c2 c3 c4 c5 c6 CG4; obtain ⟨c0, c1, c2, c3, c4, c5, c6⟩ := cells_und ROW0.out ST5.out.below (Nat.lt_succ_self _); have CG5 := Lib.hid (ST5.out.put last.toNat 1 last.toNat 1 rfl rfl (by omega) (bool_lt last).1 (bool_lt last).2 (by omega)))
    | ((with_reducible refine CG5.out.mono ?_); rintro e w7 ⟨rfl, hst⟩; have ST6 := Lib.hid (show WrSt _ _ _ _ [(1, 1), (0, 1), (poll.toNat, 1), (fi, 2), (more.toNat, 1), (last.toNat, 1)] 7 w7 from hst); clear hst c0 c1 c2 c3 c4 c5 c6 CG5; obtain ⟨c0, c1, c2, c3, c4, c5, c6⟩ := cells_und ROW0.out ST6.out.below (Nat.lt_succ_self _); have CG6 := Lib.hid (ST6.out.put 0 1 0 1 rfl rfl (by omega) (by decide) (by decide) (by omega)))
    | ((with_reducible refine CG6.out.mono ?_); rintro e w8 ⟨rfl, hst⟩; have ST7 := Lib.hid (show WrSt _ _ _ _ [(1, 1), (0, 1), (poll.toNat, 1), (fi, 2), (more.toNat, 1), (last.toNat, 1), (0, 1)] 8 w8 from hst); clear hst c0 c1 c2 c3 c4 c5 c6 CG6; obtain ⟨c0, c1, c2, c3, c4, c5, c6⟩ := cells_und ROW0.out ST7.out.below (Nat.lt_succ_self _); have CG7 := Lib.hid (ST7.out.put sn 16 sn 16 rfl rfl (by omega) HSN.out (by have := HSN.out; omega) (by omega)))
    | ((with_reducible refine CG7.out.mono ?_); rintro e w9 ⟨rfl, hst⟩; have ST8 := Lib.hid (show WrSt _ _ _ _ [(1, 1), (0, 1), (poll.toNat, 1), (fi, 2), (more.toNat, 1), (last.toNat, 1), (0, 1), (sn, 16)] 24 w9 from hst); clear hst c0 c1 c2 c3 c4 c5 c6 CG7; obtain ⟨c0, c1, c2, c3, c4, c5, c6⟩ := cells_und ROW0.out ST8.out.below (Nat.lt_succ_self _); have HBY := Lib.hid (byt_st ST8.out (by omega)); have c7 := ST8.out.cell.read (i := 0) rfl))
  go_ret
  exact ⟨g, rfl, Nat.le_trans (Nat.le_of_succ_le ST8.out.size) hg, hrow, (bl_alloc (Below.refl w.heap.size w) _).trans ((ST8.out.below.mono (Nat.le_succ _)).trans (hbz.mono (Nat.le_of_succ_le ST8.out.size)))⟩
end Go.Proofs.Ytgdpjaojlhdhdaa
namespace Go.Proofs.Ytgdpjaojlhdhdaa
open Go.RowKit

def lwNA (wd : Nat) : Nat := if wd = 10 then 11 else 15
def owNA (wd : Nat) : Nat := if wd = 10 then 15 else 16
def amdBytes (poll part last : Bool) (fi sn off : Nat) (L : List RowB) (wd : Nat) : List Nat := pack (bitsP (putsA poll part last fi sn off (decide (1 < L.length)) wd)) ++ tailF (lens L) (lwNA wd) ++ flat L
theorem written_any {A : Option Addr} (poll part last : Bool) (fi sn off wd n cap : Nat) (w : World) (hw : wd = 10 ∨ wd = 16) (hfi : fi < 2 ^ 2) (hsn : sn < 2 ^ wd) (hoff : off < 2 ^ owNA wd) :
    Calls Try.prog 183 #[.agg #[.bool poll, .int .i64 fi, .int .i64 sn, .bool part, .bool last, .int .i64 off, .slice A n cap], .int .i64 wd] w fun e w' => ∃ g, e = .returned (.slice (some ⟨g, 0, none⟩) (headNA part wd) (headNA part wd)) ∧ w.heap.size ≤ g ∧ Row w' g 5 (bts (pack (bitsP (putsA poll part last fi sn off (decide (1 < n)) wd)))).toArray ∧ Below w.heap.size w w' := by
  rcases hw with rfl | rfl <;> cases part
  · exact written_10f poll last fi sn off n cap w hfi hsn
  · exact written_10t poll last fi sn off n cap w hfi hsn hoff
  · exact written_16f poll last fi sn off n cap w hfi hsn
  · exact written_16t poll last fi sn off n cap w hfi hsn hoff
theorem okn_pow {wd sn : Nat} (hw : wd = 10 ∨ wd = 16) (h : okn (wd : Int) (sn : Int) = true) : sn < 2 ^ wd := by
  have h1 := (okn_true h).2
  rcases hw with rfl | rfl
  · have e : sz ((10 : Nat) : Int) = 1024 := by decide
    rw [e] at h1; omega
  · have e : sz ((16 : Nat) : Int) = 65536 := by decide
    rw [e] at h1; omega
theorem placed_off {part last : Bool} {off wd : Nat} (hw : wd = 10 ∨ wd = 16) (h : placedA part last (off : Int) (wd : Int) = true) : off < 2 ^ owNA wd := by
  unfold placedA at h
  unfold owNA
  cases part
  · simp at h
    have h0 : off = 0 := by omega
    subst h0
    exact Nat.two_pow_pos _
  · simp only [if_true] at h
    have h2 := (of_decide_eq_true h).2
    rcases hw with rfl | rfl
    · have e : topA ((10 : Nat) : Int) = 32768 := rfl
      rw [e] at h2
      rw [if_pos rfl]
      omega
    · have e : topA ((16 : Nat) : Int) = 65536 := rfl
      rw [e] at h2
      rw [if_neg (by decide)]
      omega
theorem lwA_cast {wd : Nat} (hw : wd = 10 ∨ wd = 16) : lwA (wd : Int) = (lwNA wd : Int) ∧ (lwNA wd = 11 ∨ lwNA wd = 15) ∧ headA false (wd : Int) ≠ 0 := by
  rcases hw with rfl | rfl
  · exact ⟨rfl, .inl rfl, by decide⟩
  · exact ⟨rfl, .inr rfl, by decide⟩
set_option maxRecDepth 100000 in
set_option maxHeartbeats 800000 in
theorem awrite_bad {A : Option Addr} {L : List RowB} (poll part last : Bool) (fi sn off wd : Int) (n cap : Nat) (w : World) (hL : L.length = n) (hn : n ≤ 9223372036854775807) (hs : RSrc w A L) (hm : ∀ m ∈ lens L, m ≤ 9223372036854775807) (h : amdF part last fi sn off (lens L) wd = 0) :
    Calls Try.prog 40 #[.agg #[.bool poll, .int .i64 fi, .int .i64 sn, .bool part, .bool last, .int .i64 off, .slice A n cap], .int .i64 wd] w fun e w' => e = .returned (.tuple #[.slice none 0 0, .int .i64 (if wd = 10 ∨ wd = 16 then 3 else 9)]) ∧ Below w.heap.size w w' := by
  have HSH := Lib.hid (fun W => ahead_any false wd W)
  have HR := Lib.hid (fun W (hb : Below w.heap.size w W) => (show Calls Try.prog 42 #[.agg #[.bool poll, .int .i64 fi, .int .i64 sn, .bool part, .bool last, .int .i64 off, .slice A n cap], .int .i64 wd] W fun e w' => e = .returned (.bool false) ∧ Below W.heap.size W w' from by
    have h1 := aright_any (A := A) poll part last fi sn off wd n cap W hL hn (hs.later hb) hm
    rw [h] at h1
    exact h1))
  clear hs hm hL h
  by_cases hw : wd = 10 ∨ wd = 16
  · have hd := (headA_code (part := false) hw).1
    have h0 : (headA false wd == 0) = false := by simp; omega
    generalize headA false wd = hd at *
    rw [if_pos hw]
    clear hw
    go_enter Try.func40, Try.ntmps40
    go_wp2_with (first
      | (go_at_call 44; refine (HSH.out _).mono ?_; rintro e w1 ⟨rfl, rfl⟩)
      | (go_at_call 42; refine (HR.out _ (bl_alloc (Below.refl _ _) _)).mono ?_; rintro e w2 ⟨rfl, hb2⟩))
    go_ret2
    exact ⟨rfl, (bl_alloc (Below.refl w.heap.size w) _).trans (hb2.mono (by simp))⟩
  · have hh : headA false wd = 0 := by unfold headA; rw [if_neg (fun h => hw (.inl h)), if_neg (fun h => hw (.inr h))]
    rw [hh] at HSH
    rw [if_neg hw]
    clear hw hh
    go_enter Try.func40, Try.ntmps40
    go_wp2_with (go_at_call 44; refine (HSH.out _).mono ?_; rintro e w1 ⟨rfl, rfl⟩)
    go_ret2
    exact ⟨rfl, bl_alloc (Below.refl w.heap.size w) _⟩
set_option maxRecDepth 100000 in
set_option maxHeartbeats 3200000 in
theorem awrite_ok {A : Option Addr} {L : List RowB} (poll part last : Bool) (fi sn off wd n cap : Nat) (w : World) (hL : L.length = n) (hcap : n ≤ cap) (hcm : cap ≤ 9223372036854775807) (hs : RSrc w A L) (hm : ∀ m ∈ lens L, m ≤ 9223372036854775807) (h : amdF part last fi sn off (lens L) wd ≠ 0) :
    Calls Try.prog 40 #[.agg #[.bool poll, .int .i64 fi, .int .i64 sn, .bool part, .bool last, .int .i64 off, .slice A n cap], .int .i64 wd] w fun e w' => ∃ v', e = .returned (.tuple #[v', .int .i64 0]) ∧ OwnY w.heap.size w' v' (amdBytes poll part last fi sn off L wd) ∧ Below w.heap.size w w' := by
  obtain ⟨hw, _, hfi, hsn, hpl, hl1, hl2, hok, _⟩ := amdF_pos h
  rw [length_lens, hL] at hl1 hl2
  have hwd : wd = 10 ∨ wd = 16 := by omega
  have hsn2 := okn_pow hwd hsn
  have hof := placed_off hwd hpl
  obtain ⟨hlw, hlw2, hh0⟩ := lwA_cast hwd
  have h0 : (headA false (wd : Int) == 0) = false := by simpa using hh0
  have HSH := Lib.hid (fun W => ahead_any false wd W)
  have HLE := Lib.hid (fun W => alen_any wd W)
  rw [hlw] at HLE
  have HR := Lib.hid (fun W (hb : Below w.heap.size w W) => (show Calls Try.prog 42 #[.agg #[.bool poll, .int .i64 fi, .int .i64 sn, .bool part, .bool last, .int .i64 off, .slice A n cap], .int .i64 wd] W fun e w' => e = .returned (.bool true) ∧ Below W.heap.size W w' from by
    have h1 := aright_any (A := A) poll part last fi sn off wd n cap W hL (by omega) (hs.later hb) hm
    rw [decide_eq_true (show 0 < amdF part last fi sn off (lens L) wd by have := amdF_nonneg part last fi sn off (lens L) wd; omega)] at h1
    exact h1))
  have HWN := Lib.hid (fun W => written_any (A := A) poll part last fi sn off wd n cap W hwd (by omega) hsn2 hof)
  have hhn : headNA part wd ≤ 10 := by unfold headNA; cases part <;> simp <;> split <;> omega
  have hpk : (pack (bitsP (putsA poll part last fi sn off (decide (1 < n)) wd))).length = headNA part wd := by rw [length_pack, len_putsA]; unfold packLen; omega
  have HU := Lib.hid (show amdBytes poll part last fi sn off L wd = pack (bitsP (putsA poll part last fi sn off (decide (1 < n)) wd)) ++ tailF (lens L) (lwNA wd) ++ flat L by unfold amdBytes; rw [hL])
  have HFW := Lib.hid (fun W A0 n0 c0 (hb : Below w.heap.size w W) hh hn0 => fwrite_at (A := A) (A0 := A0) (lh := pack (bitsP (putsA poll part last fi sn off (decide (1 < n)) wd))) n cap n0 c0 (lwNA wd) (lwNA wd) W rfl hlw2 hL hcap hcm hl1 hl2 hok (hs.later hb) hh hn0 (by rw [← hn0, hpk]; exact hhn))
  have HPK := Lib.hid hpk
  generalize bitsP (putsA poll part last fi sn off (decide (1 < n)) wd) = bits at *
  generalize headNA part wd = hn at *
  generalize headA false (wd : Int) = hf at *
  generalize amdBytes poll part last fi sn off L wd = out at *
  generalize hlx : lwNA wd = lw at *
  clear h hw hok hs hm hL hwd hsn hsn2 hof hpl hlw hlw2 hh0 hpk hlx
  have ROW0 := Lib.hid (Row.made w 57 #[.bool poll, .int .i64 fi, .int .i64 sn, .bool part, .bool last, .int .i64 off, .slice A n cap])
  go_enter Try.func40, Try.ntmps40
  go_wp2_with (first
    | (go_at_call 44; refine (HSH.out _).mono ?_; rintro e w1 ⟨rfl, rfl⟩)
    | (go_at_call 42; refine (HR.out _ (bl_alloc (Below.refl _ _) _)).mono ?_; rintro e w2 ⟨rfl, hb2⟩; (have HROW := Lib.hid (ROW0.out.later hb2); have HB2 := Lib.hid ((bl_alloc (Below.refl w.heap.size w) _).trans (hb2.mono (by simp))); clear hb2)))
  obtain ⟨d0, d1, d2, d3, d4, d5, d6⟩ := cells_amd HROW.out (bl_drew (Below.refl w2.heap.size w2))
  go_region_held3 (fun w' => w'.cell? ⟨w.heap.size, 0, none⟩ = some (.bool poll) ∧ w'.cell? ⟨w.heap.size, 1, none⟩ = some (.int .i64 fi) ∧ w'.cell? ⟨w.heap.size, 2, none⟩ = some (.int .i64 sn) ∧ w'.cell? ⟨w.heap.size, 3, none⟩ = some (.bool part) ∧ w'.cell? ⟨w.heap.size, 4, none⟩ = some (.bool last) ∧ w'.cell? ⟨w.heap.size, 5, none⟩ = some (.int .i64 off) ∧ w'.cell? ⟨w.heap.size, 6, none⟩ = some (.slice A n cap)) (first | assumption | exact ⟨d0, d1, d2, d3, d4, d5, d6⟩ | exact k1 | exact k2 | go_keep) (first
    | (go_at_call 174; (with_reducible refine (HLE.out _).mono ?_); rintro e vx ⟨rfl, rfl⟩)
    | (go_at_call 183; (with_reducible refine (HWN.out _).mono ?_); rintro e v1 ⟨g1, rfl, hg1, hr1, hv1⟩; have HV1 := Lib.hid (bl_step (bl_drew (Below.refl w2.heap.size w2)) hv1); have HR1 := Lib.hid hr1; have k1 := cells_amd HROW.out HV1.out; have HW1 := Lib.hid (HB2.out.trans (HV1.out.mono HB2.out.size)); clear hv1 hr1)
    | (go_at_call 182; (with_reducible refine (HFW.out _ _ _ _ HW1.out (row_src HR1.out) HPK.out).mono ?_); rintro e v2 ⟨x2, rfl, ho2, hv2⟩; obtain ⟨A2, c2, hx2, _⟩ := ho2.form; rw [← HU.out] at ho2 hx2; generalize out.length = n2 at hx2; subst hx2; have k2 := cells_amd HROW.out (bl_step HV1.out hv2); (have HO2 := Lib.hid ho2; have HW2 := Lib.hid (HW1.out.trans (hv2.mono HW1.out.size)); clear hv2 ho2)))
  go_wp2
  go_ret2
  exact ⟨_, rfl, HO2.out.down HW1.out.size, HW2.out⟩
end Go.Proofs.Ytgdpjaojlhdhdaa
namespace Go.Proofs.Ytgdpjaojlhdhdaa
open Go.RowKit

/-- a reader in a cell that a closure holds, and a packet's box, while a head is read -/
structure AdSt (B : Nat) (w0 : World) (pr p g q : Nat) (hd : List Nat) (i : Nat) (cs : Array Value) (w : World) : Prop where
  rd : RRep w p g hd i
  cell : Row w pr 224 #[.pointer (some ⟨p, 0, none⟩)]
  box : Row w q 57 cs
  below : Below B w0 w
  above : B ≤ p ∧ B ≤ q
  size : B ≤ w.heap.size
theorem get_clos {pr p g : Nat} {bs : List Nat} {i : Nat} (n : Nat) (ni : Int) (w : World) (e : ni = n) (hp : Row w pr 224 #[.pointer (some ⟨p, 0, none⟩)]) (hr : RRep w p g bs i) (hn : n ≤ 40) (h : i + n ≤ 8 * bs.length) :
    Calls Try.prog 282 #[.int .i64 ni, .pointer (some ⟨pr, 0, none⟩)] w fun e w' => e = .returned (.int .i64 (val (seg bs i n))) ∧ RRep w' p g bs (i + n) ∧ Only (fun k => k = p) w w' := by
  subst e
  have HG := Lib.hid (get_any n w hr (by omega) h)
  have hc : w.cell? ⟨pr, 0, none⟩ = some (.pointer (some ⟨p, 0, none⟩)) := hp.read rfl
  have hv : val (seg bs i n) < 9223372036854775808 := val_small (by rw [length_seg h]; omega)
  generalize val (seg bs i n) = v at *
  have hw : IntKind.i64.wrap (v : Int) = (v : Int) := by rw [IntKind.wrap_i64]; omega
  clear hr hp
  go_enter Try.func282, Try.ntmps282
  go_wp2_with (go_at_call 163; refine HG.out.mono ?_; rintro e w1 ⟨rfl, h1, h2⟩)
  go_ret
  exact ⟨ret_int (by first | rfl | exact hw), h1, h2⟩
section
variable {B pr p g q i : Nat} {w0 w : World} {hd : List Nat} {cs : Array Value}
theorem AdSt.get (h : AdSt B w0 pr p g q hd i cs w) (n i' : Nat) (ni v : Int) (e : ni = n) (hi : i + n = i') (hv : ((val (seg hd i n) : Nat) : Int) = v) (hn : n ≤ 40) (h2 : i' ≤ 8 * hd.length) :
    Calls Try.prog 282 #[.int .i64 ni, .pointer (some ⟨pr, 0, none⟩)] w fun e w' => e = .returned (.int .i64 v) ∧ AdSt B w0 pr p g q hd i' cs w' := by
  subst hi hv
  refine (get_clos n ni w e h.cell h.rd hn h2).mono ?_
  rintro e w' ⟨rfl, h3, h4⟩
  exact ⟨rfl, h3, h.cell.only h4 (h.cell.apart h.rd.1 (by decide)), h.box.only h4 (h.box.apart h.rd.1 (by decide)), h.below.trans (get_below h4 h.above.1 h.size), h.above, Nat.le_trans h.size h4.size⟩
theorem AdSt.set (h : AdSt B w0 pr p g q hd i cs w) (j : Nat) (x : Value) : AdSt B w0 pr p g q hd i (cs.setIfInBounds j x) (w.setCell ⟨q, j, none⟩ x) := by
  have h1 : q ≠ p := h.box.apart h.rd.1 (by decide)
  have h2 : q ≠ g := h.box.apart h.rd.2.1 (by decide)
  have h3 : q ≠ pr := h.box.apart h.cell (by decide)
  refine ⟨⟨h.rd.1.elsewhere (Ne.symm h1) x, h.rd.2.1.elsewhere (Ne.symm h2) x, h.rd.2.2⟩, h.cell.elsewhere (Ne.symm h3) x, h.box.written j x, h.below.setCell h.above.2 x, h.above, ?_⟩
  rw [show (w.setCell ⟨q, j, none⟩ x).heap.size = w.heap.size by simp [World.setCell]]
  exact h.size
end
theorem cells_box {w : World} {g : Nat} {a b c d e f s : Value} (hr : Row w g 57 #[a, b, c, d, e, f, s]) :
    (w.cell? ⟨g, 0, none⟩ = some a ∧ w.cell? ⟨g, 1, none⟩ = some b ∧ w.cell? ⟨g, 2, none⟩ = some c ∧ w.cell? ⟨g, 3, none⟩ = some d ∧ w.cell? ⟨g, 4, none⟩ = some e ∧ w.cell? ⟨g, 5, none⟩ = some f ∧ w.cell? ⟨g, 6, none⟩ = some s) ∧
    (w.frozen? ⟨g, 0, none⟩ = false ∧ w.frozen? ⟨g, 1, none⟩ = false ∧ w.frozen? ⟨g, 2, none⟩ = false ∧ w.frozen? ⟨g, 3, none⟩ = false ∧ w.frozen? ⟨g, 4, none⟩ = false ∧ w.frozen? ⟨g, 5, none⟩ = false ∧ w.frozen? ⟨g, 6, none⟩ = false) :=
  ⟨⟨hr.read rfl, hr.read rfl, hr.read rfl, hr.read rfl, hr.read rfl, hr.read rfl, hr.read rfl⟩, hr.free _, hr.free _, hr.free _, hr.free _, hr.free _, hr.free _, hr.free _⟩
theorem Try.infoamd : (Try.prog.info? 57).map (·.size) = some 7 := by kernel_rfl
theorem Try.underamd : (Try.prog.underlying 57).map (fun d => match d with | .struct _ => true | _ => false) = some true := by kernel_rfl
theorem underamd_parts : ∃ fs, Try.prog.underlying 57 = some (.struct fs) := by
  obtain ⟨d, hd, h⟩ := Option.map_eq_some_iff.1 Try.underamd
  cases d with
  | struct fs => exact ⟨fs, hd⟩
  | _ => simp at h
theorem results_cell_tmp2 {fn : Func} {p u v : Tmp} {ty : TypeId} (h : fn.results = #[.cell p ty, .tmp u, .tmp v]) (tmps : Array Value) (P : Program) (w : World) :
    (results fn tmps).run P w =
      ((asAddr (tmps.getD p undef)).run P w).andThen fun a w₁ => ((loadVar ty a).run P w₁).andThen fun x w₂ => .ok (.tuple #[x, tmps.getD u undef, tmps.getD v undef]) w₂ := by
  simp only [results, h]
  simp [Sem.run_bind, Result.andThen]
theorem results_three {fn : Func} {p u v : Tmp} {ty : TypeId} (h : fn.results = #[.cell p ty, .tmp u, .tmp v]) (tmps : Array Value) (w : World) (g : Nat) (t : TypeId) (cs : Array Value) (fs : Array Field)
    (hp : tmps.getD p undef = .pointer (some ⟨g, 0, none⟩)) (hg : Row w g t cs)
    (hu : Try.prog.underlying ty = some (.struct fs)) (hi : (Try.prog.info? ty).map (·.size) = some cs.size) :
    (results fn tmps).run Try.prog w = .ok (.tuple #[.agg cs, tmps.getD u undef, tmps.getD v undef]) w := by
  rw [results_cell_tmp2 h, hp]
  simp only [asAddr, Sem.run_pure, Result.andThen_ok, run_loadVar_row w g t ty cs (0, 0) (.struct fs) hg hu rfl hi]
end Go.Proofs.Ytgdpjaojlhdhdaa
