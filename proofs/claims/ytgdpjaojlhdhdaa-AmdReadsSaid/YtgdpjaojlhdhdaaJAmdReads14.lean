/-
  A head of amd is read: what it tells, of each width, of a part or not. The packet of amd that bytes are.
-/
import Derived.Test.YtgdpjaojlhdhdaaJAmdReads11
import Derived.Test.YtgdpjaojlhdhdaaJAmdReads10
import Derived.Test.YtgdpjaojlhdhdaaJAmdReads12
import Derived.Test.YtgdpjaojlhdhdaaJAmdReads13
namespace Go.Proofs.Ytgdpjaojlhdhdaa
open Go.RowKit

set_option maxRecDepth 100000 in
set_option maxHeartbeats 12800000 in
theorem aread_16fn0l0 {A : Option Addr} {hd : List Nat} (poll more : Bool) (fi sn : Nat) (x0 : Int) (cap : Nat) (w : World) (hn : hd.length = 3) (hc : 3 ≤ cap) (hs : Src w A (bts hd)) (hb : ∀ b ∈ hd, b < 256) (hx0 : ((val (seg hd 0 1) : Nat) : Int) = x0) (hx1 : ((val (seg hd 1 1) : Nat) : Int) = 0) (hx2 : ((val (seg hd 2 1) : Nat) : Int) = (poll.toNat : Int)) (hx3 : ((val (seg hd 3 2) : Nat) : Int) = (fi : Int)) (hx4 : ((val (seg hd 5 1) : Nat) : Int) = (more.toNat : Int)) (hx5 : ((val (seg hd 6 1) : Nat) : Int) = 0) (hx6 : ((val (seg hd 7 1) : Nat) : Int) = 0) (hx7 : ((val (seg hd 8 16) : Nat) : Int) = (sn : Int)) :
    Calls Try.prog 173 #[.slice A 3 cap, .int .i64 16] w fun e w' => e = .returned (.tuple #[.agg #[.bool poll, .int .i64 fi, .int .i64 sn, .bool false, .bool false, .int .i64 0, .slice none 0 0], .bool more, .int .i64 0]) ∧ Below w.heap.size w w' := by
  have HRD := Lib.hid (fun W (hb1 : Below w.heap.size w W) => (show Calls Try.prog 161 #[.slice A 3 cap] W fun e w' => ∃ p g, e = .returned (.pointer (some ⟨p, 0, none⟩)) ∧ W.heap.size ≤ p ∧ W.heap.size ≤ g ∧ RRep w' p g hd 0 ∧ Below W.heap.size W w' from by
    have h9 := read_any A cap hd W (by omega) (by omega) (src_later hs hb1) hb
    rw [hn] at h9
    exact h9))
  have HN := Lib.hid hn
  have Hx0 := Lib.hid hx0
  have Hx1 := Lib.hid hx1
  have Hx2 := Lib.hid hx2
  have Hx3 := Lib.hid hx3
  have Hx4 := Lib.hid hx4
  have Hx5 := Lib.hid hx5
  have Hx6 := Lib.hid hx6
  have Hx7 := Lib.hid hx7
  clear hs hb hn hx0 hx1 hx2 hx3 hx4 hx5 hx6 hx7
  have hmo : ((more.toNat : Int) == 1) = more := bit_eq _
  have hpo : ((poll.toNat : Int) == 1) = poll := bit_eq _
  have HB0 := Lib.hid (bl_alloc (Below.refl w.heap.size w) (.cells #[.bool false, .int .i64 0, .int .i64 0, .bool false, .bool false, .int .i64 0, .slice none 0 0] 57))
  have ROW0 := Lib.hid (Row.made w 57 #[.bool false, .int .i64 0, .int .i64 0, .bool false, .bool false, .int .i64 0, .slice none 0 0])
  have HSZ0 := Lib.hid (show (w.alloc (.cells #[.bool false, .int .i64 0, .int .i64 0, .bool false, .bool false, .int .i64 0, .slice none 0 0] 57)).heap.size = w.heap.size + 1 by simp)
  go_enter Try.func173, Try.ntmps173
  go_wp2_with (first
    | (go_at_call 161; refine (HRD.out _ HB0.out).mono ?_; rintro e w1 ⟨p, g, rfl, hp1, hg1, hr1, hb1⟩; rw [HSZ0.out] at hp1 hg1 hb1; (have hz1 : w.heap.size + 1 ≤ w1.heap.size := by have := hb1.size; rw [HSZ0.out] at this; exact this); have ST0 := Lib.hid (show AdSt (w.heap.size + 1) (w.alloc (.cells #[.bool false, .int .i64 0, .int .i64 0, .bool false, .bool false, .int .i64 0, .slice none 0 0] 57)) w1.heap.size p g (w1.heap.size + 1) hd 0 #[.bool false, .int .i64 0, .int .i64 0, .bool false, .bool false, .int .i64 0, .slice none 0 0] ((w1.alloc (.cells #[.pointer (some ⟨p, 0, none⟩)] 224)).alloc (.cells #[.bool false, .int .i64 0, .int .i64 0, .bool false, .bool false, .int .i64 0, .slice none 0 0] 57)) from ⟨(hr1.later (bl_alloc (Below.refl _ _) _)).later (bl_alloc (Below.refl _ _) _), (Row.made _ _ _).more _, (by have h := Row.made (w1.alloc (.cells #[.pointer (some ⟨p, 0, none⟩)] 224)) 57 #[.bool false, .int .i64 0, .int .i64 0, .bool false, .bool false, .int .i64 0, .slice none 0 0]; rw [show (w1.alloc (.cells #[.pointer (some ⟨p, 0, none⟩)] 224)).heap.size = w1.heap.size + 1 by simp] at h; exact h), hb1.trans ((bl_alloc (bl_alloc (Below.refl w1.heap.size w1) _) _).mono hz1), ⟨hp1, by omega⟩, by simp; omega⟩); clear hp1 hg1 hr1 hb1; have CG0 := Lib.hid (ST0.out.get 1 1 1 x0 rfl rfl Hx0.out (by omega) (by rw [HN.out]; omega)))
    | ((with_reducible refine CG0.out.mono ?_); rintro e w2 ⟨rfl, hst⟩; have ST1 := Lib.hid (show AdSt _ _ _ _ _ _ _ 1 #[.bool false, .int .i64 0, .int .i64 0, .bool false, .bool false, .int .i64 0, .slice none 0 0] w2 from hst); clear hst CG0; obtain ⟨⟨c0, c1, c2, c3, c4, c5, c6⟩, f0, f1, f2, f3, f4, f5, f6⟩ := cells_box ST1.out.box; have CG1 := Lib.hid ((show AdSt _ _ _ _ _ _ _ 1 #[.bool false, .int .i64 0, .int .i64 0, .bool false, .bool false, .int .i64 0, .slice none 0 0] _ from ST1.out).get 1 2 1 0 rfl rfl Hx1.out (by omega) (by rw [HN.out]; omega)))
    | ((with_reducible refine CG1.out.mono ?_); rintro e w3 ⟨rfl, hst⟩; have ST2 := Lib.hid (show AdSt _ _ _ _ _ _ _ 2 #[.bool false, .int .i64 0, .int .i64 0, .bool false, .bool false, .int .i64 0, .slice none 0 0] w3 from hst); clear hst CG1 c0 c1 c2 c3 c4 c5 c6 f0 f1 f2 f3 f4 f5 f6; obtain ⟨⟨c0, c1, c2, c3, c4, c5, c6⟩, f0, f1, f2, f3, f4, f5, f6⟩ := cells_box ST2.out.box; have CG2 := Lib.hid ((show AdSt _ _ _ _ _ _ _ 2 #[.bool false, .int .i64 0, .int .i64 0, .bool false, .bool false, .int .i64 0, .slice none 0 0] _ from (ST2.out.set 3 (.bool false))).get 1 3 1 (poll.toNat : Int) rfl rfl Hx2.out (by omega) (by rw [HN.out]; omega)))
    | ((with_reducible refine CG2.out.mono ?_); rintro e w4 ⟨rfl, hst⟩; have ST3 := Lib.hid (show AdSt _ _ _ _ _ _ _ 3 #[.bool false, .int .i64 0, .int .i64 0, .bool false, .bool false, .int .i64 0, .slice none 0 0] w4 from hst); clear hst CG2 c0 c1 c2 c3 c4 c5 c6 f0 f1 f2 f3 f4 f5 f6; obtain ⟨⟨c0, c1, c2, c3, c4, c5, c6⟩, f0, f1, f2, f3, f4, f5, f6⟩ := cells_box ST3.out.box; have CG3 := Lib.hid ((show AdSt _ _ _ _ _ _ _ 3 #[.bool poll, .int .i64 0, .int .i64 0, .bool false, .bool false, .int .i64 0, .slice none 0 0] _ from (ST3.out.set 0 (.bool poll))).get 2 5 2 (fi : Int) rfl rfl Hx3.out (by omega) (by rw [HN.out]; omega)))
    | ((with_reducible refine CG3.out.mono ?_); rintro e w5 ⟨rfl, hst⟩; have ST4 := Lib.hid (show AdSt _ _ _ _ _ _ _ 5 #[.bool poll, .int .i64 0, .int .i64 0, .bool false, .bool false, .int .i64 0, .slice none 0 0] w5 from hst); clear hst CG3 c0 c1 c2 c3 c4 c5 c6 f0 f1 f2 f3 f4 f5 f6; obtain ⟨⟨c0, c1, c2, c3, c4, c5, c6⟩, f0, f1, f2, f3, f4, f5, f6⟩ := cells_box ST4.out.box; have CG4 := Lib.hid ((show AdSt _ _ _ _ _ _ _ 5 #[.bool poll, .int .i64 fi, .int .i64 0, .bool false, .bool false, .int .i64 0, .slice none 0 0] _ from (ST4.out.set 1 (.int .i64 fi))).get 1 6 1 (more.toNat : Int) rfl rfl Hx4.out (by omega) (by rw [HN.out]; omega)))
    | ((with_reducible refine CG4.out.mono ?_); rintro e w6 ⟨rfl, hst⟩; have ST5 := Lib.hid (show AdSt _ _ _ _ _ _ _ 6 #[.bool poll, .int .i64 fi, .int .i64 0, .bool false, .bool false, .int .i64 0, .slice none 0 0] w6 from hst); clear hst CG4 c0 c1 c2 c3 c4 c5 c6 f0 f1 f2 f3 f4 f5 f6; obtain ⟨⟨c0, c1, c2, c3, c4, c5, c6⟩, f0, f1, f2, f3, f4, f5, f6⟩ := cells_box ST5.out.box; have CG5 := Lib.hid ((show AdSt _ _ _ _ _ _ _ 6 #[.bool poll, .int .i64 fi, .int .i64 0, .bool false, .bool false, .int .i64 0, .slice none 0 0] _ from ST5.out).get 1 7 1 0 rfl rfl Hx5.out (by omega) (by rw [HN.out]; omega)))
    | ((with_reducible refine CG5.out.mono ?_); rintro e w7 ⟨rfl, hst⟩; have ST6 := Lib.hid (show AdSt _ _ _ _ _ _ _ 7 #[.bool poll, .int .i64 fi, .int .i64 0, .bool false, .bool false, .int .i64 0, .slice none 0 0] w7 from hst); clear hst CG5 c0 c1 c2 c3 c4 c5 c6 f0 f1 f2 f3 f4 f5 f6; obtain ⟨⟨c0, c1, c2, c3, c4, c5, c6⟩, f0, f1, f2, f3, f4, f5, f6⟩ := cells_box ST6.out.box; have CG6 := Lib.hid ((show AdSt _ _ _ _ _ _ _ 7 #[.bool poll, .int .i64 fi, .int .i64 0, .bool false, .bool false, .int .i64 0, .slice none 0 0] _ from (ST6.out.set 4 (.bool false))).get 1 8 1 0 rfl rfl Hx6.out (by omega) (by rw [HN.out]; omega)))
    | ((with_reducible refine CG6.out.mono ?_); rintro e w8 ⟨rfl, hst⟩; have ST7 := Lib.hid (show AdSt _ _ _ _ _ _ _ 8 #[.bool poll, .int .i64 fi, .int .i64 0, .bool false, .bool false, .int .i64 0, .slice none 0 0] w8 from hst); clear hst CG6 c0 c1 c2 c3 c4 c5 c6 f0 f1 f2 f3 f4 f5 f6; obtain ⟨⟨c0, c1, c2, c3, c4, c5, c6⟩, f0, f1, f2, f3, f4, f5, f6⟩ := cells_box ST7.out.box; have CG7 := Lib.hid ((show AdSt _ _ _ _ _ _ _ 8 #[.bool poll, .int .i64 fi, .int .i64 0, .bool false, .bool false, .int .i64 0, .slice none 0 0] _ from ST7.out).get 16 24 16 (sn : Int) rfl rfl Hx7.out (by omega) (by rw [HN.out]; omega)))
    | ((with_reducible refine CG7.out.mono ?_); rintro e w9 ⟨rfl, hst⟩; have ST8 := Lib.hid (show AdSt _ _ _ _ _ _ _ 24 #[.bool poll, .int .i64 fi, .int .i64 0, .bool false, .bool false, .int .i64 0, .slice none 0 0] w9 from hst); clear hst CG7 c0 c1 c2 c3 c4 c5 c6 f0 f1 f2 f3 f4 f5 f6; obtain ⟨⟨c0, c1, c2, c3, c4, c5, c6⟩, f0, f1, f2, f3, f4, f5, f6⟩ := cells_box ST8.out.box; obtain ⟨⟨d0, d1, d2, d3, d4, d5, d6⟩, e0, e1, e2, e3, e4, e5, e6⟩ := cells_box (ROW0.out.under ST8.out.below (Nat.lt_succ_self _)))
    | (go_at_call 283; (with_reducible refine (aoff_any _ _).mono ?_); rintro e v1 ⟨rfl, rfl⟩; rw [show owA 16 = 16 from rfl]))
  have HE := Lib.hid ((ST8.out.set 2 (.int .i64 sn)).below)
  have RR := Lib.hid ((Row.made w 57 #[.bool false, .int .i64 0, .int .i64 0, .bool false, .bool false, .int .i64 0, .slice none 0 0]).under HE.out (Nat.lt_succ_self _))
  obtain ⟨dd, hdd⟩ := underamd_parts
  have HB9 := Lib.hid (HB0.out.trans (HE.out.mono (Nat.le_succ _)))
  refine bodyPost_ret (results_three rfl _ _ w.heap.size 57 #[.bool poll, .int .i64 fi, .int .i64 sn, .bool false, .bool false, .int .i64 0, .slice none 0 0] dd rfl (((((((RR.out.written 0 (.bool poll)).written 1 (.int .i64 fi)).written 2 (.int .i64 sn)).written 3 (.bool false)).written 4 (.bool false)).written 5 (.int .i64 0)).written 6 (.slice none 0 0)) hdd Try.infoamd) rfl ?_
  exact ⟨rfl, (((((((HB9.out.setCell (p := ⟨w.heap.size, 0, none⟩) (Nat.le_refl _) (.bool poll)).setCell (p := ⟨w.heap.size, 1, none⟩) (Nat.le_refl _) (.int .i64 fi)).setCell (p := ⟨w.heap.size, 2, none⟩) (Nat.le_refl _) (.int .i64 sn)).setCell (p := ⟨w.heap.size, 3, none⟩) (Nat.le_refl _) (.bool false)).setCell (p := ⟨w.heap.size, 4, none⟩) (Nat.le_refl _) (.bool false)).setCell (p := ⟨w.heap.size, 5, none⟩) (Nat.le_refl _) (.int .i64 0)).setCell (p := ⟨w.heap.size, 6, none⟩) (Nat.le_refl _) (.slice none 0 0))⟩
set_option maxRecDepth 100000 in
set_option maxHeartbeats 12800000 in
theorem aread_16fn0l1 {A : Option Addr} {hd : List Nat} (poll more : Bool) (fi sn : Nat) (x0 : Int) (cap : Nat) (w : World) (hn : hd.length = 3) (hc : 3 ≤ cap) (hs : Src w A (bts hd)) (hb : ∀ b ∈ hd, b < 256) (hx0 : ((val (seg hd 0 1) : Nat) : Int) = x0) (hx1 : ((val (seg hd 1 1) : Nat) : Int) = 0) (hx2 : ((val (seg hd 2 1) : Nat) : Int) = (poll.toNat : Int)) (hx3 : ((val (seg hd 3 2) : Nat) : Int) = (fi : Int)) (hx4 : ((val (seg hd 5 1) : Nat) : Int) = (more.toNat : Int)) (hx5 : ((val (seg hd 6 1) : Nat) : Int) = 1) (hx6 : ((val (seg hd 7 1) : Nat) : Int) = 0) (hx7 : ((val (seg hd 8 16) : Nat) : Int) = (sn : Int)) :
    Calls Try.prog 173 #[.slice A 3 cap, .int .i64 16] w fun e w' => e = .returned (.tuple #[.agg #[.bool false, .int .i64 0, .int .i64 0, .bool false, .bool false, .int .i64 0, .slice none 0 0], .bool false, .int .i64 3]) ∧ Below w.heap.size w w' := by
  have HRD := Lib.hid (fun W (hb1 : Below w.heap.size w W) => (show Calls Try.prog 161 #[.slice A 3 cap] W fun e w' => ∃ p g, e = .returned (.pointer (some ⟨p, 0, none⟩)) ∧ W.heap.size ≤ p ∧ W.heap.size ≤ g ∧ RRep w' p g hd 0 ∧ Below W.heap.size W w' from by
    have h9 := read_any A cap hd W (by omega) (by omega) (src_later hs hb1) hb
    rw [hn] at h9
    exact h9))
  have HN := Lib.hid hn
  have Hx0 := Lib.hid hx0
  have Hx1 := Lib.hid hx1
  have Hx2 := Lib.hid hx2
  have Hx3 := Lib.hid hx3
  have Hx4 := Lib.hid hx4
  have Hx5 := Lib.hid hx5
  have Hx6 := Lib.hid hx6
  have Hx7 := Lib.hid hx7
  clear hs hb hn hx0 hx1 hx2 hx3 hx4 hx5 hx6 hx7
  have hmo : ((more.toNat : Int) == 1) = more := bit_eq _
  have hpo : ((poll.toNat : Int) == 1) = poll := bit_eq _
  have HB0 := Lib.hid (bl_alloc (Below.refl w.heap.size w) (.cells #[.bool false, .int .i64 0, .int .i64 0, .bool false, .bool false, .int .i64 0, .slice none 0 0] 57))
  have ROW0 := Lib.hid (Row.made w 57 #[.bool false, .int .i64 0, .int .i64 0, .bool false, .bool false, .int .i64 0, .slice none 0 0])
  have HSZ0 := Lib.hid (show (w.alloc (.cells #[.bool false, .int .i64 0, .int .i64 0, .bool false, .bool false, .int .i64 0, .slice none 0 0] 57)).heap.size = w.heap.size + 1 by simp)
  go_enter Try.func173, Try.ntmps173
  go_wp2_with (first
    | (go_at_call 161; refine (HRD.out _ HB0.out).mono ?_; rintro e w1 ⟨p, g, rfl, hp1, hg1, hr1, hb1⟩; rw [HSZ0.out] at hp1 hg1 hb1; (have hz1 : w.heap.size + 1 ≤ w1.heap.size := by have := hb1.size; rw [HSZ0.out] at this; exact this); have ST0 := Lib.hid (show AdSt (w.heap.size + 1) (w.alloc (.cells #[.bool false, .int .i64 0, .int .i64 0, .bool false, .bool false, .int .i64 0, .slice none 0 0] 57)) w1.heap.size p g (w1.heap.size + 1) hd 0 #[.bool false, .int .i64 0, .int .i64 0, .bool false, .bool false, .int .i64 0, .slice none 0 0] ((w1.alloc (.cells #[.pointer (some ⟨p, 0, none⟩)] 224)).alloc (.cells #[.bool false, .int .i64 0, .int .i64 0, .bool false, .bool false, .int .i64 0, .slice none 0 0] 57)) from ⟨(hr1.later (bl_alloc (Below.refl _ _) _)).later (bl_alloc (Below.refl _ _) _), (Row.made _ _ _).more _, (by have h := Row.made (w1.alloc (.cells #[.pointer (some ⟨p, 0, none⟩)] 224)) 57 #[.bool false, .int .i64 0, .int .i64 0, .bool false, .bool false, .int .i64 0, .slice none 0 0]; rw [show (w1.alloc (.cells #[.pointer (some ⟨p, 0, none⟩)] 224)).heap.size = w1.heap.size + 1 by simp] at h; exact h), hb1.trans ((bl_alloc (bl_alloc (Below.refl w1.heap.size w1) _) _).mono hz1), ⟨hp1, by omega⟩, by simp; omega⟩); clear hp1 hg1 hr1 hb1; have CG0 := Lib.hid (ST0.out.get 1 1 1 x0 rfl rfl Hx0.out (by omega) (by rw [HN.out]; omega)))
    | ((with_reducible refine CG0.out.mono ?_); rintro e w2 ⟨rfl, hst⟩; have ST1 := Lib.hid (show AdSt _ _ _ _ _ _ _ 1 #[.bool false, .int .i64 0, .int .i64 0, .bool false, .bool false, .int .i64 0, .slice none 0 0] w2 from hst); clear hst CG0; obtain ⟨⟨c0, c1, c2, c3, c4, c5, c6⟩, f0, f1, f2, f3, f4, f5, f6⟩ := cells_box ST1.out.box; have CG1 := Lib.hid ((show AdSt _ _ _ _ _ _ _ 1 #[.bool false, .int .i64 0, .int .i64 0, .bool false, .bool false, .int .i64 0, .slice none 0 0] _ from ST1.out).get 1 2 1 0 rfl rfl Hx1.out (by omega) (by rw [HN.out]; omega)))
    | ((with_reducible refine CG1.out.mono ?_); rintro e w3 ⟨rfl, hst⟩; have ST2 := Lib.hid (show AdSt _ _ _ _ _ _ _ 2 #[.bool false, .int .i64 0, .int .i64 0, .bool false, .bool false, .int .i64 0, .slice none 0 0] w3 from hst); clear hst CG1 c0 c1 c2 c3 c4 c5 c6 f0 f1 f2 f3 f4 f5 f6; obtain ⟨⟨c0, c1, c2, c3, c4, c5, c6⟩, f0, f1, f2, f3, f4, f5, f6⟩ := cells_box ST2.out.box; have CG2 := Lib.hid ((show AdSt _ _ _ _ _ _ _ 2 #[.bool false, .int .i64 0, .int .i64 0, .bool false, .bool false, .int .i64 0, .slice none 0 0] _ from (ST2.out.set 3 (.bool false))).get 1 3 1 (poll.toNat : Int) rfl rfl Hx2.out (by omega) (by rw [HN.out]; omega)))
    | ((with_reducible refine CG2.out.mono ?_); rintro e w4 ⟨rfl, hst⟩; have ST3 := Lib.hid (show AdSt _ _ _ _ _ _ _ 3 #[.bool false, .int .i64 0, .int .i64 0, .bool false, .bool false, .int .i64 0, .slice none 0 0] w4 from hst); clear hst CG2 c0 c1 c2 c3 c4 c5 c6 f0 f1 f2 f3 f4 f5 f6; obtain ⟨⟨c0, c1, c2, c3, c4, c5, c6⟩, f0, f1, f2, f3, f4, f5, f6⟩ := cells_box ST3.out.box; have CG3 := Lib.hid ((show AdSt _ _ _ _ _ _ _ 3 #[.bool poll, .int .i64 0, .int .i64 0, .bool false, .bool false, .int .i64 0, .slice none 0 0] _ from (ST3.out.set 0 (.bool poll))).get 2 5 2 (fi : Int) rfl rfl Hx3.out (by omega) (by rw [HN.out]; omega)))
    | ((with_reducible refine CG3.out.mono ?_); rintro e w5 ⟨rfl, hst⟩; have ST4 := Lib.hid (show AdSt _ _ _ _ _ _ _ 5 #[.bool poll, .int .i64 0, .int .i64 0, .bool false, .bool false, .int .i64 0, .slice none 0 0] w5 from hst); clear hst CG3 c0 c1 c2 c3 c4 c5 c6 f0 f1 f2 f3 f4 f5 f6; obtain ⟨⟨c0, c1, c2, c3, c4, c5, c6⟩, f0, f1, f2, f3, f4, f5, f6⟩ := cells_box ST4.out.box; have CG4 := Lib.hid ((show AdSt _ _ _ _ _ _ _ 5 #[.bool poll, .int .i64 fi, .int .i64 0, .bool false, .bool false, .int .i64 0, .slice none 0 0] _ from (ST4.out.set 1 (.int .i64 fi))).get 1 6 1 (more.toNat : Int) rfl rfl Hx4.out (by omega) (by rw [HN.out]; omega)))
    | ((with_reducible refine CG4.out.mono ?_); rintro e w6 ⟨rfl, hst⟩; have ST5 := Lib.hid (show AdSt _ _ _ _ _ _ _ 6 #[.bool poll, .int .i64 fi, .int .i64 0, .bool false, .bool false, .int .i64 0, .slice none 0 0] w6 from hst); clear hst CG4 c0 c1 c2 c3 c4 c5 c6 f0 f1 f2 f3 f4 f5 f6; obtain ⟨⟨c0, c1, c2, c3, c4, c5, c6⟩, f0, f1, f2, f3, f4, f5, f6⟩ := cells_box ST5.out.box; have CG5 := Lib.hid ((show AdSt _ _ _ _ _ _ _ 6 #[.bool poll, .int .i64 fi, .int .i64 0, .bool false, .bool false, .int .i64 0, .slice none 0 0] _ from ST5.out).get 1 7 1 1 rfl rfl Hx5.out (by omega) (by rw [HN.out]; omega)))
    | ((with_reducible refine CG5.out.mono ?_); rintro e w7 ⟨rfl, hst⟩; have ST6 := Lib.hid (show AdSt _ _ _ _ _ _ _ 7 #[.bool poll, .int .i64 fi, .int .i64 0, .bool false, .bool false, .int .i64 0, .slice none 0 0] w7 from hst); clear hst CG5 c0 c1 c2 c3 c4 c5 c6 f0 f1 f2 f3 f4 f5 f6; obtain ⟨⟨c0, c1, c2, c3, c4, c5, c6⟩, f0, f1, f2, f3, f4, f5, f6⟩ := cells_box ST6.out.box; have CG6 := Lib.hid ((show AdSt _ _ _ _ _ _ _ 7 #[.bool poll, .int .i64 fi, .int .i64 0, .bool false, .bool true, .int .i64 0, .slice none 0 0] _ from (ST6.out.set 4 (.bool true))).get 1 8 1 0 rfl rfl Hx6.out (by omega) (by rw [HN.out]; omega)))
    | ((with_reducible refine CG6.out.mono ?_); rintro e w8 ⟨rfl, hst⟩; have ST7 := Lib.hid (show AdSt _ _ _ _ _ _ _ 8 #[.bool poll, .int .i64 fi, .int .i64 0, .bool false, .bool true, .int .i64 0, .slice none 0 0] w8 from hst); clear hst CG6 c0 c1 c2 c3 c4 c5 c6 f0 f1 f2 f3 f4 f5 f6; obtain ⟨⟨c0, c1, c2, c3, c4, c5, c6⟩, f0, f1, f2, f3, f4, f5, f6⟩ := cells_box ST7.out.box; have CG7 := Lib.hid ((show AdSt _ _ _ _ _ _ _ 8 #[.bool poll, .int .i64 fi, .int .i64 0, .bool false, .bool true, .int .i64 0, .slice none 0 0] _ from ST7.out).get 16 24 16 (sn : Int) rfl rfl Hx7.out (by omega) (by rw [HN.out]; omega)))
    | ((with_reducible refine CG7.out.mono ?_); rintro e w9 ⟨rfl, hst⟩; have ST8 := Lib.hid (show AdSt _ _ _ _ _ _ _ 24 #[.bool poll, .int .i64 fi, .int .i64 0, .bool false, .bool true, .int .i64 0, .slice none 0 0] w9 from hst); clear hst CG7 c0 c1 c2 c3 c4 c5 c6 f0 f1 f2 f3 f4 f5 f6; obtain ⟨⟨c0, c1, c2, c3, c4, c5, c6⟩, f0, f1, f2, f3, f4, f5, f6⟩ := cells_box ST8.out.box; obtain ⟨⟨d0, d1, d2, d3, d4, d5, d6⟩, e0, e1, e2, e3, e4, e5, e6⟩ := cells_box (ROW0.out.under ST8.out.below (Nat.lt_succ_self _)))
    | (go_at_call 283; (with_reducible refine (aoff_any _ _).mono ?_); rintro e v1 ⟨rfl, rfl⟩; rw [show owA 16 = 16 from rfl]))
  have HE := Lib.hid ((ST8.out.set 2 (.int .i64 sn)).below)
  have RR := Lib.hid ((Row.made w 57 #[.bool false, .int .i64 0, .int .i64 0, .bool false, .bool false, .int .i64 0, .slice none 0 0]).under HE.out (Nat.lt_succ_self _))
  obtain ⟨dd, hdd⟩ := underamd_parts
  have HB9 := Lib.hid (HB0.out.trans (HE.out.mono (Nat.le_succ _)))
  refine bodyPost_ret (results_three rfl _ _ w.heap.size 57 #[.bool false, .int .i64 0, .int .i64 0, .bool false, .bool false, .int .i64 0, .slice none 0 0] dd rfl (((((((RR.out.written 0 (.bool false)).written 1 (.int .i64 0)).written 2 (.int .i64 0)).written 3 (.bool false)).written 4 (.bool false)).written 5 (.int .i64 0)).written 6 (.slice none 0 0)) hdd Try.infoamd) rfl ?_
  exact ⟨rfl, (((((((HB9.out.setCell (p := ⟨w.heap.size, 0, none⟩) (Nat.le_refl _) (.bool false)).setCell (p := ⟨w.heap.size, 1, none⟩) (Nat.le_refl _) (.int .i64 0)).setCell (p := ⟨w.heap.size, 2, none⟩) (Nat.le_refl _) (.int .i64 0)).setCell (p := ⟨w.heap.size, 3, none⟩) (Nat.le_refl _) (.bool false)).setCell (p := ⟨w.heap.size, 4, none⟩) (Nat.le_refl _) (.bool false)).setCell (p := ⟨w.heap.size, 5, none⟩) (Nat.le_refl _) (.int .i64 0)).setCell (p := ⟨w.heap.size, 6, none⟩) (Nat.le_refl _) (.slice none 0 0))⟩
set_option maxRecDepth 100000 in
set_option maxHeartbeats 12800000 in
theorem aread_16fn1 {A : Option Addr} {hd : List Nat} (poll more last : Bool) (fi sn : Nat) (x0 : Int) (cap : Nat) (w : World) (hn : hd.length = 3) (hc : 3 ≤ cap) (hs : Src w A (bts hd)) (hb : ∀ b ∈ hd, b < 256) (hx0 : ((val (seg hd 0 1) : Nat) : Int) = x0) (hx1 : ((val (seg hd 1 1) : Nat) : Int) = 0) (hx2 : ((val (seg hd 2 1) : Nat) : Int) = (poll.toNat : Int)) (hx3 : ((val (seg hd 3 2) : Nat) : Int) = (fi : Int)) (hx4 : ((val (seg hd 5 1) : Nat) : Int) = (more.toNat : Int)) (hx5 : ((val (seg hd 6 1) : Nat) : Int) = (last.toNat : Int)) (hx6 : ((val (seg hd 7 1) : Nat) : Int) = 1) (hx7 : ((val (seg hd 8 16) : Nat) : Int) = (sn : Int)) :
    Calls Try.prog 173 #[.slice A 3 cap, .int .i64 16] w fun e w' => e = .returned (.tuple #[.agg #[.bool false, .int .i64 0, .int .i64 0, .bool false, .bool false, .int .i64 0, .slice none 0 0], .bool false, .int .i64 3]) ∧ Below w.heap.size w w' := by
  have HRD := Lib.hid (fun W (hb1 : Below w.heap.size w W) => (show Calls Try.prog 161 #[.slice A 3 cap] W fun e w' => ∃ p g, e = .returned (.pointer (some ⟨p, 0, none⟩)) ∧ W.heap.size ≤ p ∧ W.heap.size ≤ g ∧ RRep w' p g hd 0 ∧ Below W.heap.size W w' from by
    have h9 := read_any A cap hd W (by omega) (by omega) (src_later hs hb1) hb
    rw [hn] at h9
    exact h9))
  have HN := Lib.hid hn
  have Hx0 := Lib.hid hx0
  have Hx1 := Lib.hid hx1
  have Hx2 := Lib.hid hx2
  have Hx3 := Lib.hid hx3
  have Hx4 := Lib.hid hx4
  have Hx5 := Lib.hid hx5
  have Hx6 := Lib.hid hx6
  have Hx7 := Lib.hid hx7
  clear hs hb hn hx0 hx1 hx2 hx3 hx4 hx5 hx6 hx7
  have hmo : ((more.toNat : Int) == 1) = more := bit_eq _
  have hpo : ((poll.toNat : Int) == 1) = poll := bit_eq _
  have hla : ((last.toNat : Int) == 1) = last := bit_eq _
  have HB0 := Lib.hid (bl_alloc (Below.refl w.heap.size w) (.cells #[.bool false, .int .i64 0, .int .i64 0, .bool false, .bool false, .int .i64 0, .slice none 0 0] 57))
  have ROW0 := Lib.hid (Row.made w 57 #[.bool false, .int .i64 0, .int .i64 0, .bool false, .bool false, .int .i64 0, .slice none 0 0])
  have HSZ0 := Lib.hid (show (w.alloc (.cells #[.bool false, .int .i64 0, .int .i64 0, .bool false, .bool false, .int .i64 0, .slice none 0 0] 57)).heap.size = w.heap.size + 1 by simp)
  go_enter Try.func173, Try.ntmps173
  go_wp2_with (first
    | (go_at_call 161; refine (HRD.out _ HB0.out).mono ?_; rintro e w1 ⟨p, g, rfl, hp1, hg1, hr1, hb1⟩; rw [HSZ0.out] at hp1 hg1 hb1; (have hz1 : w.heap.size + 1 ≤ w1.heap.size := by have := hb1.size; rw [HSZ0.out] at this; exact this); have ST0 := Lib.hid (show AdSt (w.heap.size + 1) (w.alloc (.cells #[.bool false, .int .i64 0, .int .i64 0, .bool false, .bool false, .int .i64 0, .slice none 0 0] 57)) w1.heap.size p g (w1.heap.size + 1) hd 0 #[.bool false, .int .i64 0, .int .i64 0, .bool false, .bool false, .int .i64 0, .slice none 0 0] ((w1.alloc (.cells #[.pointer (some ⟨p, 0, none⟩)] 224)).alloc (.cells #[.bool false, .int .i64 0, .int .i64 0, .bool false, .bool false, .int .i64 0, .slice none 0 0] 57)) from ⟨(hr1.later (bl_alloc (Below.refl _ _) _)).later (bl_alloc (Below.refl _ _) _), (Row.made _ _ _).more _, (by have h := Row.made (w1.alloc (.cells #[.pointer (some ⟨p, 0, none⟩)] 224)) 57 #[.bool false, .int .i64 0, .int .i64 0, .bool false, .bool false, .int .i64 0, .slice none 0 0]; rw [show (w1.alloc (.cells #[.pointer (some ⟨p, 0, none⟩)] 224)).heap.size = w1.heap.size + 1 by simp] at h; exact h), hb1.trans ((bl_alloc (bl_alloc (Below.refl w1.heap.size w1) _) _).mono hz1), ⟨hp1, by omega⟩, by simp; omega⟩); clear hp1 hg1 hr1 hb1; have CG0 := Lib.hid (ST0.out.get 1 1 1 x0 rfl rfl Hx0.out (by omega) (by rw [HN.out]; omega)))
    | ((with_reducible refine CG0.out.mono ?_); rintro e w2 ⟨rfl, hst⟩; have ST1 := Lib.hid (show AdSt _ _ _ _ _ _ _ 1 #[.bool false, .int .i64 0, .int .i64 0, .bool false, .bool false, .int .i64 0, .slice none 0 0] w2 from hst); clear hst CG0; obtain ⟨⟨c0, c1, c2, c3, c4, c5, c6⟩, f0, f1, f2, f3, f4, f5, f6⟩ := cells_box ST1.out.box; have CG1 := Lib.hid ((show AdSt _ _ _ _ _ _ _ 1 #[.bool false, .int .i64 0, .int .i64 0, .bool false, .bool false, .int .i64 0, .slice none 0 0] _ from ST1.out).get 1 2 1 0 rfl rfl Hx1.out (by omega) (by rw [HN.out]; omega)))
    | ((with_reducible refine CG1.out.mono ?_); rintro e w3 ⟨rfl, hst⟩; have ST2 := Lib.hid (show AdSt _ _ _ _ _ _ _ 2 #[.bool false, .int .i64 0, .int .i64 0, .bool false, .bool false, .int .i64 0, .slice none 0 0] w3 from hst); clear hst CG1 c0 c1 c2 c3 c4 c5 c6 f0 f1 f2 f3 f4 f5 f6; obtain ⟨⟨c0, c1, c2, c3, c4, c5, c6⟩, f0, f1, f2, f3, f4, f5, f6⟩ := cells_box ST2.out.box; have CG2 := Lib.hid ((show AdSt _ _ _ _ _ _ _ 2 #[.bool false, .int .i64 0, .int .i64 0, .bool false, .bool false, .int .i64 0, .slice none 0 0] _ from (ST2.out.set 3 (.bool false))).get 1 3 1 (poll.toNat : Int) rfl rfl Hx2.out (by omega) (by rw [HN.out]; omega)))
    | ((with_reducible refine CG2.out.mono ?_); rintro e w4 ⟨rfl, hst⟩; have ST3 := Lib.hid (show AdSt _ _ _ _ _ _ _ 3 #[.bool false, .int .i64 0, .int .i64 0, .bool false, .bool false, .int .i64 0, .slice none 0 0] w4 from hst); clear hst CG2 c0 c1 c2 c3 c4 c5 c6 f0 f1 f2 f3 f4 f5 f6; obtain ⟨⟨c0, c1, c2, c3, c4, c5, c6⟩, f0, f1, f2, f3, f4, f5, f6⟩ := cells_box ST3.out.box; have CG3 := Lib.hid ((show AdSt _ _ _ _ _ _ _ 3 #[.bool poll, .int .i64 0, .int .i64 0, .bool false, .bool false, .int .i64 0, .slice none 0 0] _ from (ST3.out.set 0 (.bool poll))).get 2 5 2 (fi : Int) rfl rfl Hx3.out (by omega) (by rw [HN.out]; omega)))
    | ((with_reducible refine CG3.out.mono ?_); rintro e w5 ⟨rfl, hst⟩; have ST4 := Lib.hid (show AdSt _ _ _ _ _ _ _ 5 #[.bool poll, .int .i64 0, .int .i64 0, .bool false, .bool false, .int .i64 0, .slice none 0 0] w5 from hst); clear hst CG3 c0 c1 c2 c3 c4 c5 c6 f0 f1 f2 f3 f4 f5 f6; obtain ⟨⟨c0, c1, c2, c3, c4, c5, c6⟩, f0, f1, f2, f3, f4, f5, f6⟩ := cells_box ST4.out.box; have CG4 := Lib.hid ((show AdSt _ _ _ _ _ _ _ 5 #[.bool poll, .int .i64 fi, .int .i64 0, .bool false, .bool false, .int .i64 0, .slice none 0 0] _ from (ST4.out.set 1 (.int .i64 fi))).get 1 6 1 (more.toNat : Int) rfl rfl Hx4.out (by omega) (by rw [HN.out]; omega)))
    | ((with_reducible refine CG4.out.mono ?_); rintro e w6 ⟨rfl, hst⟩; have ST5 := Lib.hid (show AdSt _ _ _ _ _ _ _ 6 #[.bool poll, .int .i64 fi, .int .i64 0, .bool false, .bool false, .int .i64 0, .slice none 0 0] w6 from hst); clear hst CG4 c0 c1 c2 c3 c4 c5 c6 f0 f1 f2 f3 f4 f5 f6; obtain ⟨⟨c0, c1, c2, c3, c4, c5, c6⟩, f0, f1, f2, f3, f4, f5, f6⟩ := cells_box ST5.out.box; have CG5 := Lib.hid ((show AdSt _ _ _ _ _ _ _ 6 #[.bool poll, .int .i64 fi, .int .i64 0, .bool false, .bool false, .int .i64 0, .slice none 0 0] _ from ST5.out).get 1 7 1 (last.toNat : Int) rfl rfl Hx5.out (by omega) (by rw [HN.out]; omega)))
    | ((with_reducible refine CG5.out.mono ?_); rintro e w7 ⟨rfl, hst⟩; have ST6 := Lib.hid (show AdSt _ _ _ _ _ _ _ 7 #[.bool poll, .int .i64 fi, .int .i64 0, .bool false, .bool false, .int .i64 0, .slice none 0 0] w7 from hst); clear hst CG5 c0 c1 c2 c3 c4 c5 c6 f0 f1 f2 f3 f4 f5 f6; obtain ⟨⟨c0, c1, c2, c3, c4, c5, c6⟩, f0, f1, f2, f3, f4, f5, f6⟩ := cells_box ST6.out.box; have CG6 := Lib.hid ((show AdSt _ _ _ _ _ _ _ 7 #[.bool poll, .int .i64 fi, .int .i64 0, .bool false, .bool last, .int .i64 0, .slice none 0 0] _ from (ST6.out.set 4 (.bool last))).get 1 8 1 1 rfl rfl Hx6.out (by omega) (by rw [HN.out]; omega)))
    | ((with_reducible refine CG6.out.mono ?_); rintro e w8 ⟨rfl, hst⟩; have ST7 := Lib.hid (show AdSt _ _ _ _ _ _ _ 8 #[.bool poll, .int .i64 fi, .int .i64 0, .bool false, .bool last, .int .i64 0, .slice none 0 0] w8 from hst); clear hst CG6 c0 c1 c2 c3 c4 c5 c6 f0 f1 f2 f3 f4 f5 f6; obtain ⟨⟨c0, c1, c2, c3, c4, c5, c6⟩, f0, f1, f2, f3, f4, f5, f6⟩ := cells_box ST7.out.box; have CG7 := Lib.hid ((show AdSt _ _ _ _ _ _ _ 8 #[.bool poll, .int .i64 fi, .int .i64 0, .bool false, .bool last, .int .i64 0, .slice none 0 0] _ from ST7.out).get 16 24 16 (sn : Int) rfl rfl Hx7.out (by omega) (by rw [HN.out]; omega)))
    | ((with_reducible refine CG7.out.mono ?_); rintro e w9 ⟨rfl, hst⟩; have ST8 := Lib.hid (show AdSt _ _ _ _ _ _ _ 24 #[.bool poll, .int .i64 fi, .int .i64 0, .bool false, .bool last, .int .i64 0, .slice none 0 0] w9 from hst); clear hst CG7 c0 c1 c2 c3 c4 c5 c6 f0 f1 f2 f3 f4 f5 f6; obtain ⟨⟨c0, c1, c2, c3, c4, c5, c6⟩, f0, f1, f2, f3, f4, f5, f6⟩ := cells_box ST8.out.box; obtain ⟨⟨d0, d1, d2, d3, d4, d5, d6⟩, e0, e1, e2, e3, e4, e5, e6⟩ := cells_box (ROW0.out.under ST8.out.below (Nat.lt_succ_self _)))
    | (go_at_call 283; (with_reducible refine (aoff_any _ _).mono ?_); rintro e v1 ⟨rfl, rfl⟩; rw [show owA 16 = 16 from rfl]))
  have HE := Lib.hid ((ST8.out.set 2 (.int .i64 sn)).below)
  have RR := Lib.hid ((Row.made w 57 #[.bool false, .int .i64 0, .int .i64 0, .bool false, .bool false, .int .i64 0, .slice none 0 0]).under HE.out (Nat.lt_succ_self _))
  obtain ⟨dd, hdd⟩ := underamd_parts
  have HB9 := Lib.hid (HB0.out.trans (HE.out.mono (Nat.le_succ _)))
  refine bodyPost_ret (results_three rfl _ _ w.heap.size 57 #[.bool false, .int .i64 0, .int .i64 0, .bool false, .bool false, .int .i64 0, .slice none 0 0] dd rfl (((((((RR.out.written 0 (.bool false)).written 1 (.int .i64 0)).written 2 (.int .i64 0)).written 3 (.bool false)).written 4 (.bool false)).written 5 (.int .i64 0)).written 6 (.slice none 0 0)) hdd Try.infoamd) rfl ?_
  exact ⟨rfl, (((((((HB9.out.setCell (p := ⟨w.heap.size, 0, none⟩) (Nat.le_refl _) (.bool false)).setCell (p := ⟨w.heap.size, 1, none⟩) (Nat.le_refl _) (.int .i64 0)).setCell (p := ⟨w.heap.size, 2, none⟩) (Nat.le_refl _) (.int .i64 0)).setCell (p := ⟨w.heap.size, 3, none⟩) (Nat.le_refl _) (.bool false)).setCell (p := ⟨w.heap.size, 4, none⟩) (Nat.le_refl _) (.bool false)).setCell (p := ⟨w.heap.size, 5, none⟩) (Nat.le_refl _) (.int .i64 0)).setCell (p := ⟨w.heap.size, 6, none⟩) (Nat.le_refl _) (.slice none 0 0))⟩
end Go.Proofs.Ytgdpjaojlhdhdaa
namespace Go.Proofs.Ytgdpjaojlhdhdaa
open Go.RowKit

/-- what a head tells -/
structure HdA where
  poll : Bool
  part : Bool
  last : Bool
  fi : Nat
  sn : Nat
  off : Nat
def hd0 : HdA := ⟨false, false, false, 0, 0, 0⟩
def HdA.v (h : HdA) (s : Value) : Value := .agg #[.bool h.poll, .int .i64 h.fi, .int .i64 h.sn, .bool h.part, .bool h.last, .int .i64 h.off, s]
/-- what a head tells, and whether there are two fields or more -/
def amdHd (hd : List Nat) (part : Bool) (wd : Nat) : Option (HdA × Bool) :=
  if wd = 10 then
    (if part then some (⟨bitAt hd 2, true, bitAt hd 16, val (seg hd 3 2), val (seg hd 6 10), val (seg hd 17 15)⟩, bitAt hd 5) else some (⟨bitAt hd 2, false, false, val (seg hd 3 2), val (seg hd 6 10), 0⟩, bitAt hd 5))
  else if bitAt hd 7 = true then none
  else if part then some (⟨bitAt hd 2, true, bitAt hd 6, val (seg hd 3 2), val (seg hd 8 16), val (seg hd 24 16)⟩, bitAt hd 5)
  else if bitAt hd 6 = true then none
  else some (⟨bitAt hd 2, false, false, val (seg hd 3 2), val (seg hd 8 16), 0⟩, bitAt hd 5)
theorem val_bit {hd : List Nat} {i : Nat} {b : Bool} (h : i < 8 * hd.length) (hb : bitAt hd i = b) : ((val (seg hd i 1) : Nat) : Int) = (b.toNat : Int) := by rw [one_bit h, hb]
theorem val_bit0 {hd : List Nat} {i : Nat} (h : i < 8 * hd.length) (hb : bitAt hd i = false) : ((val (seg hd i 1) : Nat) : Int) = 0 := val_bit h hb
theorem val_bit1 {hd : List Nat} {i : Nat} (h : i < 8 * hd.length) (hb : bitAt hd i = true) : ((val (seg hd i 1) : Nat) : Int) = 1 := val_bit h hb
theorem bit_not {b : Bool} (h : ¬ b = true) : b = false := by cases b <;> simp_all
theorem aread_some {A : Option Addr} {hd : List Nat} {part : Bool} {wd : Nat} {h : HdA} {more : Bool} (m cap : Nat) (w : World) (hw : wd = 10 ∨ wd = 16) (hm : headNA part wd = m) (hn : hd.length = m) (hc : m ≤ cap) (hs : Src w A (bts hd)) (hb : ∀ b ∈ hd, b < 256) (hp : bitAt hd 1 = part) (ha : amdHd hd part wd = some (h, more)) :
    Calls Try.prog 173 #[.slice A m cap, .int .i64 wd] w fun e w' => e = .returned (.tuple #[.agg #[.bool h.poll, .int .i64 h.fi, .int .i64 h.sn, .bool h.part, .bool h.last, .int .i64 h.off, .slice none 0 0], .bool more, .int .i64 0]) ∧ Below w.heap.size w w' := by
  subst hm
  rcases hw with rfl | rfl <;> cases part <;> simp only [amdHd, if_true] at ha
  · simp at ha
    obtain ⟨rfl, rfl⟩ := ha
    have hn : hd.length = 2 := hn
    exact aread_10f (bitAt hd 2) (bitAt hd 5) (val (seg hd 3 2)) (val (seg hd 6 10)) _ cap w hn hc hs hb rfl (val_bit0 (by omega) hp) (val_bit (by omega) rfl) rfl (val_bit (by omega) rfl) rfl
  · simp at ha
    obtain ⟨rfl, rfl⟩ := ha
    have hn : hd.length = 4 := hn
    cases hl : bitAt hd 16
    · exact aread_10tl0 (bitAt hd 2) (bitAt hd 5) (val (seg hd 3 2)) (val (seg hd 6 10)) (val (seg hd 17 15)) _ cap w hn hc hs hb rfl (val_bit1 (by omega) hp) (val_bit (by omega) rfl) rfl (val_bit (by omega) rfl) rfl (val_bit0 (by omega) hl) rfl
    · exact aread_10tl1 (bitAt hd 2) (bitAt hd 5) (val (seg hd 3 2)) (val (seg hd 6 10)) (val (seg hd 17 15)) _ cap w hn hc hs hb rfl (val_bit1 (by omega) hp) (val_bit (by omega) rfl) rfl (val_bit (by omega) rfl) rfl (val_bit1 (by omega) hl) rfl
  · have hn : hd.length = 3 := hn
    by_cases h7 : bitAt hd 7 = true
    · simp [h7] at ha
    · by_cases h6 : bitAt hd 6 = true
      · simp [h6] at ha
      · simp [h7, h6] at ha
        obtain ⟨rfl, rfl⟩ := ha
        exact aread_16fn0l0 (bitAt hd 2) (bitAt hd 5) (val (seg hd 3 2)) (val (seg hd 8 16)) _ cap w hn hc hs hb rfl (val_bit0 (by omega) hp) (val_bit (by omega) rfl) rfl (val_bit (by omega) rfl) (val_bit0 (by omega) (bit_not h6)) (val_bit0 (by omega) (bit_not h7)) rfl
  · have hn : hd.length = 5 := hn
    by_cases h7 : bitAt hd 7 = true
    · simp [h7] at ha
    · simp [h7] at ha
      obtain ⟨rfl, rfl⟩ := ha
      cases hl : bitAt hd 6
      · exact aread_16tn0l0 (bitAt hd 2) (bitAt hd 5) (val (seg hd 3 2)) (val (seg hd 8 16)) (val (seg hd 24 16)) _ cap w hn hc hs hb rfl (val_bit1 (by omega) hp) (val_bit (by omega) rfl) rfl (val_bit (by omega) rfl) (val_bit0 (by omega) hl) (val_bit0 (by omega) (bit_not h7)) rfl rfl
      · exact aread_16tn0l1 (bitAt hd 2) (bitAt hd 5) (val (seg hd 3 2)) (val (seg hd 8 16)) (val (seg hd 24 16)) _ cap w hn hc hs hb rfl (val_bit1 (by omega) hp) (val_bit (by omega) rfl) rfl (val_bit (by omega) rfl) (val_bit1 (by omega) hl) (val_bit0 (by omega) (bit_not h7)) rfl rfl
theorem aread_none {A : Option Addr} {hd : List Nat} {part : Bool} {wd : Nat} (m cap : Nat) (w : World) (hw : wd = 10 ∨ wd = 16) (hm : headNA part wd = m) (hn : hd.length = m) (hc : m ≤ cap) (hs : Src w A (bts hd)) (hb : ∀ b ∈ hd, b < 256) (hp : bitAt hd 1 = part) (ha : amdHd hd part wd = none) :
    Calls Try.prog 173 #[.slice A m cap, .int .i64 wd] w fun e w' => e = .returned (.tuple #[.agg #[.bool false, .int .i64 0, .int .i64 0, .bool false, .bool false, .int .i64 0, .slice none 0 0], .bool false, .int .i64 3]) ∧ Below w.heap.size w w' := by
  subst hm
  rcases hw with rfl | rfl <;> cases part <;> simp only [amdHd, if_true] at ha
  · simp at ha
  · simp at ha
  · have hn : hd.length = 3 := hn
    by_cases h7 : bitAt hd 7 = true
    · exact aread_16fn1 (bitAt hd 2) (bitAt hd 5) (bitAt hd 6) (val (seg hd 3 2)) (val (seg hd 8 16)) _ cap w hn hc hs hb rfl (val_bit0 (by omega) hp) (val_bit (by omega) rfl) rfl (val_bit (by omega) rfl) (val_bit (by omega) rfl) (val_bit1 (by omega) h7) rfl
    · by_cases h6 : bitAt hd 6 = true
      · exact aread_16fn0l1 (bitAt hd 2) (bitAt hd 5) (val (seg hd 3 2)) (val (seg hd 8 16)) _ cap w hn hc hs hb rfl (val_bit0 (by omega) hp) (val_bit (by omega) rfl) rfl (val_bit (by omega) rfl) (val_bit1 (by omega) h6) (val_bit0 (by omega) (bit_not h7)) rfl
      · simp [h7, h6] at ha
  · have hn : hd.length = 5 := hn
    by_cases h7 : bitAt hd 7 = true
    · exact aread_16tn1 (bitAt hd 2) (bitAt hd 5) (bitAt hd 6) (val (seg hd 3 2)) (val (seg hd 8 16)) (val (seg hd 24 16)) _ cap w hn hc hs hb rfl (val_bit1 (by omega) hp) (val_bit (by omega) rfl) rfl (val_bit (by omega) rfl) (val_bit (by omega) rfl) (val_bit1 (by omega) h7) rfl rfl
    · simp [h7] at ha
/-- what bytes behind a head tell -/
def amdRd2 (o : Option (HdA × Bool)) (rest : List Nat) (lw : Nat) : Int × HdA × List (List Nat) :=
  match o with
  | none => (3, hd0, [])
  | some (h, more) => if (fldR rest more lw).1 = 0 then (0, h, (fldR rest more lw).2) else ((fldR rest more lw).1, hd0, [])
/-- what a packet's bytes tell: why they are none, the head, the fields -/
def amdRd (bs : List Nat) (wd : Nat) : Int × HdA × List (List Nat) :=
  if (headR bs wd).2 = 0 then amdRd2 (amdHd (bs.take (headR bs wd).1) (bitAt bs 1) wd) (bs.drop (headR bs wd).1) (lwNA wd) else ((headR bs wd).2, hd0, [])
def ArdAns (B : Nat) (w : World) (r : Int × HdA × List (List Nat)) (e : Ending) (w' : World) : Prop :=
  ((r.1 = 0 ∧ ∃ v L, r.2.2 = texts L ∧ e = .returned (.tuple #[.agg #[.bool r.2.1.poll, .int .i64 r.2.1.fi, .int .i64 r.2.1.sn, .bool r.2.1.part, .bool r.2.1.last, .int .i64 r.2.1.off, v], .int .i64 0]) ∧ OwnR B w' v L) ∨
   (r.1 ≠ 0 ∧ e = .returned (.tuple #[.agg #[.bool false, .int .i64 0, .int .i64 0, .bool false, .bool false, .int .i64 0, .slice none 0 0], .int .i64 r.1]))) ∧ Below B w w'
theorem ard_bad {B : Nat} {w w' : World} {er : Int} {r : Int × HdA × List (List Nat)} (h : r.1 = er) (h0 : er ≠ 0) (hb : Below B w w') : ArdAns B w r (.returned (.tuple #[.agg #[.bool false, .int .i64 0, .int .i64 0, .bool false, .bool false, .int .i64 0, .slice none 0 0], .int .i64 er])) w' := by
  subst h
  exact ⟨.inr ⟨h0, rfl⟩, hb⟩
theorem ard_ok {B : Nat} {w w' : World} {v : Value} {L : List RowB} {h : HdA} {r : Int × HdA × List (List Nat)} (e : r = (0, h, texts L)) (ho : OwnR B w' v L) (hb : Below B w w') : ArdAns B w r (.returned (.tuple #[.agg #[.bool h.poll, .int .i64 h.fi, .int .i64 h.sn, .bool h.part, .bool h.last, .int .i64 h.off, v], .int .i64 0])) w' := by
  subst e
  exact ⟨.inl ⟨rfl, v, L, rfl, rfl, ho⟩, hb⟩
theorem bitAt_take {bs : List Nat} {m i : Nat} (h : i < 8 * m) (h2 : m ≤ bs.length) : bitAt (bs.take m) i = bitAt bs i := by
  have h1 : i / 8 < bs.length := by omega
  rw [bitAt_eq (bs := bs) (List.getElem?_eq_getElem h1), bitAt_eq (bs := bs.take m) (b := bs[i / 8]) (by rw [List.getElem?_take, if_pos (by omega), List.getElem?_eq_getElem h1])]
theorem headR_ok {bs : List Nat} {wd : Nat} (hw : wd = 10 ∨ wd = 16) (h : (headR bs wd).2 = 0) : bs.length ≤ 4000 ∧ 0 < bs.length ∧ bitAt bs 0 = true ∧ (headR bs wd).1 = headNA (bitAt bs 1) wd ∧ headNA (bitAt bs 1) wd ≤ bs.length ∧ headR bs wd = (headNA (bitAt bs 1) wd, 0) := by
  unfold headR at h ⊢
  rw [if_pos hw] at h ⊢
  by_cases h1 : 4000 < bs.length
  · rw [if_pos h1] at h; cases h
  · rw [if_neg h1] at h ⊢
    by_cases h2 : bs.length = 0
    · rw [if_pos h2] at h; cases h
    · rw [if_neg h2] at h ⊢
      by_cases h3 : bitAt bs 0 = false
      · rw [if_pos h3] at h; cases h
      · rw [if_neg h3] at h ⊢
        by_cases h4 : bs.length < headNA (bitAt bs 1) wd
        · rw [if_pos h4] at h; cases h
        · rw [if_neg h4]
          exact ⟨by omega, by omega, by simpa using h3, rfl, by omega, rfl⟩
theorem headNA_bd (part : Bool) (wd : Nat) : 2 ≤ headNA part wd ∧ headNA part wd ≤ 5 := by
  unfold headNA
  cases part <;> split <;> simp
end Go.Proofs.Ytgdpjaojlhdhdaa
