/-
  pdu: bytes are read: a status. pdu: bytes are read: a packet of amd. StatusBack: the law walked.
-/
import Derived.Test.YtfgjlhklioijmaaJPduKinds13
import Derived.Test.YtfgjlhklioijmaaJPduKinds12
import Derived.Test.YtfgjlhklioijmaaJPduKinds14
namespace Go.Proofs.Ytfgjlhklioijmaa
open Go.RowKit

set_option maxRecDepth 100000 in
set_option maxHeartbeats 6400000 in
theorem pread_st_ok {A : Option Addr} (bits win reo prx pro ppd pby mrx qb a : Int) (n cap : Nat) (w : World)
    (hck : checkF ⟨2, bits, win, reo, prx, pro, ppd, pby, mrx, qb⟩ = 0) (hkd : ∀ W, Below w.heap.size w W → Calls Try.prog 154 #[.int .i64 2, .slice A n cap] W fun e w' => e = .returned (.int .i64 3) ∧ W = w')
    
    (hcal : ∀ W, Below w.heap.size w W → Calls Try.prog 156 #[.slice A n cap, .int .i64 bits] W fun e w' => ∃ (A' : Option Addr) (n' c' : Nat), e = .returned (.tuple #[.agg #[.int .i64 a, .slice A' n' c'], .int .i64 0]) ∧ Below W.heap.size W w') :
    Calls Try.prog 37 #[.agg #[.int .i64 2, .int .i64 bits, .int .i64 win, .int .i64 reo, .int .i64 prx, .int .i64 pro, .int .i64 ppd, .int .i64 pby, .int .i64 mrx, .int .i64 qb], .slice A n cap] w fun e w' => ∃ (A' : Option Addr) (n' c' : Nat), e = .returned (.tuple #[.agg #[.int .i64 3, .slice none 0 0, .int .i64 0, .int .i64 0, .slice none 0 0, .bool false, .int .i64 0, .int .i64 0, .bool false, .bool false, .int .i64 0, .slice none 0 0, .int .i64 a, .slice A' n' c'], .int .i64 0]) ∧ Below w.heap.size w w' := by
  have ROW := Lib.hid (Row.made w 49 #[.int .i64 2, .int .i64 bits, .int .i64 win, .int .i64 reo, .int .i64 prx, .int .i64 pro, .int .i64 ppd, .int .i64 pby, .int .i64 mrx, .int .i64 qb])
  have ROWZ := Lib.hid (row_at2 (w.alloc (.cells #[.int .i64 2, .int .i64 bits, .int .i64 win, .int .i64 reo, .int .i64 prx, .int .i64 pro, .int .i64 ppd, .int .i64 pby, .int .i64 mrx, .int .i64 qb] 49)) (w.heap.size + 1) 56 #[.int .i64 0, .slice none 0 0, .int .i64 0, .int .i64 0, .slice none 0 0, .bool false, .int .i64 0, .int .i64 0, .bool false, .bool false, .int .i64 0, .slice none 0 0, .int .i64 0, .slice none 0 0] (size_1 _ _))
  have HB0 := Lib.hid (bl_alloc (bl_alloc (Below.refl w.heap.size w) (.cells #[.int .i64 2, .int .i64 bits, .int .i64 win, .int .i64 reo, .int .i64 prx, .int .i64 pro, .int .i64 ppd, .int .i64 pby, .int .i64 mrx, .int .i64 qb] 49)) (.cells #[.int .i64 0, .slice none 0 0, .int .i64 0, .int .i64 0, .slice none 0 0, .bool false, .int .i64 0, .int .i64 0, .bool false, .bool false, .int .i64 0, .slice none 0 0, .int .i64 0, .slice none 0 0] 56))
  have ROWC := Lib.hid (ROW.out.more (.cells #[.int .i64 0, .slice none 0 0, .int .i64 0, .int .i64 0, .slice none 0 0, .bool false, .int .i64 0, .int .i64 0, .bool false, .bool false, .int .i64 0, .slice none 0 0, .int .i64 0, .slice none 0 0] 56))
  have HCK := Lib.hid (fun W => pcheck_any ⟨2, bits, win, reo, prx, pro, ppd, pby, mrx, qb⟩ W)
  rw [hck] at HCK
  unfold Cf.a at HCK
  have HKD := Lib.hid hkd
  have HCAL := Lib.hid hcal
  clear hck hkd hcal
  generalize hW : (w.alloc (.cells #[.int .i64 2, .int .i64 bits, .int .i64 win, .int .i64 reo, .int .i64 prx, .int .i64 pro, .int .i64 ppd, .int .i64 pby, .int .i64 mrx, .int .i64 qb] 49)).alloc (.cells #[.int .i64 0, .slice none 0 0, .int .i64 0, .int .i64 0, .slice none 0 0, .bool false, .int .i64 0, .int .i64 0, .bool false, .bool false, .int .i64 0, .slice none 0 0, .int .i64 0, .slice none 0 0] 56) = W0 at *
  obtain ⟨c0, c1, c2, c3, c4, c5, c6, c7, c8, c9⟩ := cells10 ROWC.out
  go_enter Try.func37, Try.ntmps37
  go_wp2_with fail
  clear hW
  go_wp2_with (first
    | (go_at_call 38; (with_reducible refine (HCK.out _).mono ?_); rintro e w1 ⟨rfl, hb1⟩; (have HB1 := Lib.hid (bl_step HB0.out hb1); have ROWC1 := Lib.hid (ROWC.out.later hb1); have ROWZ1 := Lib.hid (ROWZ.out.later hb1); clear hb1 c0 c1 c2 c3 c4 c5 c6 c7 c8 c9; obtain ⟨c0, c1, c2, c3, c4, c5, c6, c7, c8, c9⟩ := cells10 ROWC1.out))
    | (go_at_call 154; (with_reducible refine (HKD.out _ HB1.out).mono ?_); rintro e wx ⟨rfl, rfl⟩; obtain ⟨C0, C1, -⟩ := cells10 (ROWC1.out.more (.cells #[.int .i64 3, .slice none 0 0, .int .i64 0, .int .i64 0, .slice none 0 0, .bool false, .int .i64 0, .int .i64 0, .bool false, .bool false, .int .i64 0, .slice none 0 0, .int .i64 0, .slice none 0 0] 56)))
    | (go_at_call 156; (with_reducible refine (HCAL.out _ (bl_alloc HB1.out _)).mono ?_); rintro e w3 ⟨A', n', c', rfl, hb3⟩; (have HB3 := Lib.hid (bl_step (bl_alloc HB1.out (.cells #[.int .i64 3, .slice none 0 0, .int .i64 0, .int .i64 0, .slice none 0 0, .bool false, .int .i64 0, .int .i64 0, .bool false, .bool false, .int .i64 0, .slice none 0 0, .int .i64 0, .slice none 0 0] 56)) hb3); have ROWZ3 := Lib.hid ((ROWZ1.out.more (.cells #[.int .i64 3, .slice none 0 0, .int .i64 0, .int .i64 0, .slice none 0 0, .bool false, .int .i64 0, .int .i64 0, .bool false, .bool false, .int .i64 0, .slice none 0 0, .int .i64 0, .slice none 0 0] 56)).later hb3); have ROWQ3 := Lib.hid ((Row.made w1 56 #[.int .i64 3, .slice none 0 0, .int .i64 0, .int .i64 0, .slice none 0 0, .bool false, .int .i64 0, .int .i64 0, .bool false, .bool false, .int .i64 0, .slice none 0 0, .int .i64 0, .slice none 0 0]).later hb3); have hq : w.heap.size + 1 < w1.heap.size := ROWZ1.out.inside; clear hb3; generalize w1.heap.size = q at *; have RZ4 := Lib.hid (show Row ((w3.setCell ⟨q, 12, none⟩ (.int .i64 a)).setCell ⟨q, 13, none⟩ (.slice A' n' c')) (w.heap.size + 1) 56 #[.int .i64 0, .slice none 0 0, .int .i64 0, .int .i64 0, .slice none 0 0, .bool false, .int .i64 0, .int .i64 0, .bool false, .bool false, .int .i64 0, .slice none 0 0, .int .i64 0, .slice none 0 0] from ((ROWZ3.out.elsewhere (p := ⟨q, 12, none⟩) (Nat.ne_of_lt hq) (.int .i64 a)).elsewhere (p := ⟨q, 13, none⟩) (Nat.ne_of_lt hq) (.slice A' n' c'))); have RQ4 := Lib.hid (show Row ((w3.setCell ⟨q, 12, none⟩ (.int .i64 a)).setCell ⟨q, 13, none⟩ (.slice A' n' c')) q 56 #[.int .i64 3, .slice none 0 0, .int .i64 0, .int .i64 0, .slice none 0 0, .bool false, .int .i64 0, .int .i64 0, .bool false, .bool false, .int .i64 0, .slice none 0 0, .int .i64 a, .slice A' n' c'] from ((ROWQ3.out.written 12 (.int .i64 a)).written 13 (.slice A' n' c'))); have HB4 := Lib.hid (show Below w.heap.size w ((w3.setCell ⟨q, 12, none⟩ (.int .i64 a)).setCell ⟨q, 13, none⟩ (.slice A' n' c')) from ((HB3.out.setCell (p := ⟨q, 12, none⟩) (by show w.heap.size ≤ q; omega) (.int .i64 a)).setCell (p := ⟨q, 13, none⟩) (by show w.heap.size ≤ q; omega) (.slice A' n' c'))); obtain ⟨q0, q1, q2, q3, q4, q5, q6, q7, q8, q9, q10, q11, q12, q13⟩ := cells14 ROWQ3.out; obtain ⟨f0, f1, f2, f3, f4, f5, f6, f7, f8, f9, f10, f11, f12, f13⟩ := free14 ROWQ3.out; obtain ⟨r0, r1, r2, r3, r4, r5, r6, r7, r8, r9, r10, r11, r12, r13⟩ := cells14 RQ4.out; obtain ⟨z0, z1, z2, z3, z4, z5, z6, z7, z8, z9, z10, z11, z12, z13⟩ := cells14 RZ4.out; obtain ⟨y0, y1, y2, y3, y4, y5, y6, y7, y8, y9, y10, y11, y12, y13⟩ := free14 RZ4.out)))
  obtain ⟨dd, hdd⟩ := underun_parts
  refine bodyPost_ret (st_results_two rfl _ _ (w.heap.size + 1) 56 #[.int .i64 3, .slice none 0 0, .int .i64 0, .int .i64 0, .slice none 0 0, .bool false, .int .i64 0, .int .i64 0, .bool false, .bool false, .int .i64 0, .slice none 0 0, .int .i64 a, .slice A' n' c'] dd rfl (row_set14 RZ4.out) hdd Try.infoun) rfl ?_
  exact ⟨A', n', c', rfl, below_set14 HB4.out (Nat.le_succ _) _ _ _ _ _ _ _ _ _ _ _ _ _ _⟩
set_option maxRecDepth 100000 in
set_option maxHeartbeats 6400000 in
theorem pread_st_err {A : Option Addr} (bits win reo prx pro ppd pby mrx qb er : Int) (n cap : Nat) (w : World)
    (hck : checkF ⟨2, bits, win, reo, prx, pro, ppd, pby, mrx, qb⟩ = 0) (hkd : ∀ W, Below w.heap.size w W → Calls Try.prog 154 #[.int .i64 2, .slice A n cap] W fun e w' => e = .returned (.int .i64 3) ∧ W = w')
    (her : er ≠ 0)
    (hcal : ∀ W, Below w.heap.size w W → Calls Try.prog 156 #[.slice A n cap, .int .i64 bits] W fun e w' => e = .returned (.tuple #[.agg #[.int .i64 0, .slice none 0 0], .int .i64 er]) ∧ Below W.heap.size W w') :
    Calls Try.prog 37 #[.agg #[.int .i64 2, .int .i64 bits, .int .i64 win, .int .i64 reo, .int .i64 prx, .int .i64 pro, .int .i64 ppd, .int .i64 pby, .int .i64 mrx, .int .i64 qb], .slice A n cap] w fun e w' => e = .returned (.tuple #[.agg #[.int .i64 0, .slice none 0 0, .int .i64 0, .int .i64 0, .slice none 0 0, .bool false, .int .i64 0, .int .i64 0, .bool false, .bool false, .int .i64 0, .slice none 0 0, .int .i64 0, .slice none 0 0], .int .i64 er]) ∧ Below w.heap.size w w' := by
  have ROW := Lib.hid (Row.made w 49 #[.int .i64 2, .int .i64 bits, .int .i64 win, .int .i64 reo, .int .i64 prx, .int .i64 pro, .int .i64 ppd, .int .i64 pby, .int .i64 mrx, .int .i64 qb])
  have ROWZ := Lib.hid (row_at2 (w.alloc (.cells #[.int .i64 2, .int .i64 bits, .int .i64 win, .int .i64 reo, .int .i64 prx, .int .i64 pro, .int .i64 ppd, .int .i64 pby, .int .i64 mrx, .int .i64 qb] 49)) (w.heap.size + 1) 56 #[.int .i64 0, .slice none 0 0, .int .i64 0, .int .i64 0, .slice none 0 0, .bool false, .int .i64 0, .int .i64 0, .bool false, .bool false, .int .i64 0, .slice none 0 0, .int .i64 0, .slice none 0 0] (size_1 _ _))
  have HB0 := Lib.hid (bl_alloc (bl_alloc (Below.refl w.heap.size w) (.cells #[.int .i64 2, .int .i64 bits, .int .i64 win, .int .i64 reo, .int .i64 prx, .int .i64 pro, .int .i64 ppd, .int .i64 pby, .int .i64 mrx, .int .i64 qb] 49)) (.cells #[.int .i64 0, .slice none 0 0, .int .i64 0, .int .i64 0, .slice none 0 0, .bool false, .int .i64 0, .int .i64 0, .bool false, .bool false, .int .i64 0, .slice none 0 0, .int .i64 0, .slice none 0 0] 56))
  have ROWC := Lib.hid (ROW.out.more (.cells #[.int .i64 0, .slice none 0 0, .int .i64 0, .int .i64 0, .slice none 0 0, .bool false, .int .i64 0, .int .i64 0, .bool false, .bool false, .int .i64 0, .slice none 0 0, .int .i64 0, .slice none 0 0] 56))
  have HCK := Lib.hid (fun W => pcheck_any ⟨2, bits, win, reo, prx, pro, ppd, pby, mrx, qb⟩ W)
  rw [hck] at HCK
  unfold Cf.a at HCK
  have HKD := Lib.hid hkd
  have HCAL := Lib.hid hcal
  clear hck hkd hcal
  have hne : (er != 0) = true := by simpa using her
  clear her
  generalize hW : (w.alloc (.cells #[.int .i64 2, .int .i64 bits, .int .i64 win, .int .i64 reo, .int .i64 prx, .int .i64 pro, .int .i64 ppd, .int .i64 pby, .int .i64 mrx, .int .i64 qb] 49)).alloc (.cells #[.int .i64 0, .slice none 0 0, .int .i64 0, .int .i64 0, .slice none 0 0, .bool false, .int .i64 0, .int .i64 0, .bool false, .bool false, .int .i64 0, .slice none 0 0, .int .i64 0, .slice none 0 0] 56) = W0 at *
  obtain ⟨c0, c1, c2, c3, c4, c5, c6, c7, c8, c9⟩ := cells10 ROWC.out
  go_enter Try.func37, Try.ntmps37
  go_wp2_with fail
  clear hW
  go_wp2_with (first
    | (go_at_call 38; (with_reducible refine (HCK.out _).mono ?_); rintro e w1 ⟨rfl, hb1⟩; (have HB1 := Lib.hid (bl_step HB0.out hb1); have ROWC1 := Lib.hid (ROWC.out.later hb1); have ROWZ1 := Lib.hid (ROWZ.out.later hb1); clear hb1 c0 c1 c2 c3 c4 c5 c6 c7 c8 c9; obtain ⟨c0, c1, c2, c3, c4, c5, c6, c7, c8, c9⟩ := cells10 ROWC1.out))
    | (go_at_call 154; (with_reducible refine (HKD.out _ HB1.out).mono ?_); rintro e wx ⟨rfl, rfl⟩; obtain ⟨C0, C1, -⟩ := cells10 (ROWC1.out.more (.cells #[.int .i64 3, .slice none 0 0, .int .i64 0, .int .i64 0, .slice none 0 0, .bool false, .int .i64 0, .int .i64 0, .bool false, .bool false, .int .i64 0, .slice none 0 0, .int .i64 0, .slice none 0 0] 56)))
    | (go_at_call 156; (with_reducible refine (HCAL.out _ (bl_alloc HB1.out _)).mono ?_); rintro e w3 ⟨rfl, hb3⟩; (have HB3 := Lib.hid (bl_step (bl_alloc HB1.out (.cells #[.int .i64 3, .slice none 0 0, .int .i64 0, .int .i64 0, .slice none 0 0, .bool false, .int .i64 0, .int .i64 0, .bool false, .bool false, .int .i64 0, .slice none 0 0, .int .i64 0, .slice none 0 0] 56)) hb3); have ROWZ3 := Lib.hid ((ROWZ1.out.more (.cells #[.int .i64 3, .slice none 0 0, .int .i64 0, .int .i64 0, .slice none 0 0, .bool false, .int .i64 0, .int .i64 0, .bool false, .bool false, .int .i64 0, .slice none 0 0, .int .i64 0, .slice none 0 0] 56)).later hb3); have ROWQ3 := Lib.hid ((Row.made w1 56 #[.int .i64 3, .slice none 0 0, .int .i64 0, .int .i64 0, .slice none 0 0, .bool false, .int .i64 0, .int .i64 0, .bool false, .bool false, .int .i64 0, .slice none 0 0, .int .i64 0, .slice none 0 0]).later hb3); have hq : w.heap.size + 1 < w1.heap.size := ROWZ1.out.inside; clear hb3; generalize w1.heap.size = q at *; have RZ4 := Lib.hid (show Row ((w3.setCell ⟨q, 12, none⟩ (.int .i64 0)).setCell ⟨q, 13, none⟩ (.slice none 0 0)) (w.heap.size + 1) 56 #[.int .i64 0, .slice none 0 0, .int .i64 0, .int .i64 0, .slice none 0 0, .bool false, .int .i64 0, .int .i64 0, .bool false, .bool false, .int .i64 0, .slice none 0 0, .int .i64 0, .slice none 0 0] from ((ROWZ3.out.elsewhere (p := ⟨q, 12, none⟩) (Nat.ne_of_lt hq) (.int .i64 0)).elsewhere (p := ⟨q, 13, none⟩) (Nat.ne_of_lt hq) (.slice none 0 0))); have RQ4 := Lib.hid (show Row ((w3.setCell ⟨q, 12, none⟩ (.int .i64 0)).setCell ⟨q, 13, none⟩ (.slice none 0 0)) q 56 #[.int .i64 3, .slice none 0 0, .int .i64 0, .int .i64 0, .slice none 0 0, .bool false, .int .i64 0, .int .i64 0, .bool false, .bool false, .int .i64 0, .slice none 0 0, .int .i64 0, .slice none 0 0] from ((ROWQ3.out.written 12 (.int .i64 0)).written 13 (.slice none 0 0))); have HB4 := Lib.hid (show Below w.heap.size w ((w3.setCell ⟨q, 12, none⟩ (.int .i64 0)).setCell ⟨q, 13, none⟩ (.slice none 0 0)) from ((HB3.out.setCell (p := ⟨q, 12, none⟩) (by show w.heap.size ≤ q; omega) (.int .i64 0)).setCell (p := ⟨q, 13, none⟩) (by show w.heap.size ≤ q; omega) (.slice none 0 0))); obtain ⟨q0, q1, q2, q3, q4, q5, q6, q7, q8, q9, q10, q11, q12, q13⟩ := cells14 ROWQ3.out; obtain ⟨f0, f1, f2, f3, f4, f5, f6, f7, f8, f9, f10, f11, f12, f13⟩ := free14 ROWQ3.out; obtain ⟨r0, r1, r2, r3, r4, r5, r6, r7, r8, r9, r10, r11, r12, r13⟩ := cells14 RQ4.out; obtain ⟨z0, z1, z2, z3, z4, z5, z6, z7, z8, z9, z10, z11, z12, z13⟩ := cells14 RZ4.out; obtain ⟨y0, y1, y2, y3, y4, y5, y6, y7, y8, y9, y10, y11, y12, y13⟩ := free14 RZ4.out)))
  obtain ⟨dd, hdd⟩ := underun_parts
  refine bodyPost_ret (st_results_two rfl _ _ (w.heap.size + 1) 56 #[.int .i64 0, .slice none 0 0, .int .i64 0, .int .i64 0, .slice none 0 0, .bool false, .int .i64 0, .int .i64 0, .bool false, .bool false, .int .i64 0, .slice none 0 0, .int .i64 0, .slice none 0 0] dd rfl (row_set14 RZ4.out) hdd Try.infoun) rfl ?_
  exact ⟨rfl, below_set14 HB4.out (Nat.le_succ _) _ _ _ _ _ _ _ _ _ _ _ _ _ _⟩
end Go.Proofs.Ytfgjlhklioijmaa
namespace Go.Proofs.Ytfgjlhklioijmaa
open Go.RowKit

set_option maxRecDepth 100000 in
set_option maxHeartbeats 6400000 in
theorem pread_am_ok {A : Option Addr} (bits win reo prx pro ppd pby mrx qb a : Int) (n cap : Nat) (w : World)
    (hck : checkF ⟨2, bits, win, reo, prx, pro, ppd, pby, mrx, qb⟩ = 0) (hkd : ∀ W, Below w.heap.size w W → Calls Try.prog 154 #[.int .i64 2, .slice A n cap] W fun e w' => e = .returned (.int .i64 2) ∧ W = w')
    
    (hcal : ∀ W, Below w.heap.size w W → Calls Try.prog 34 #[.slice A n cap, .int .i64 bits] W fun e w' => ∃ (p' pt' ls' : Bool) (fi' of' : Int) (A' : Option Addr) (n' c' : Nat), e = .returned (.tuple #[.agg #[.bool p', .int .i64 fi', .int .i64 a, .bool pt', .bool ls', .int .i64 of', .slice A' n' c'], .int .i64 0]) ∧ Below W.heap.size W w') :
    Calls Try.prog 37 #[.agg #[.int .i64 2, .int .i64 bits, .int .i64 win, .int .i64 reo, .int .i64 prx, .int .i64 pro, .int .i64 ppd, .int .i64 pby, .int .i64 mrx, .int .i64 qb], .slice A n cap] w fun e w' => ∃ (p' pt' ls' : Bool) (fi' of' : Int) (A' : Option Addr) (n' c' : Nat), e = .returned (.tuple #[.agg #[.int .i64 2, .slice none 0 0, .int .i64 0, .int .i64 0, .slice none 0 0, .bool p', .int .i64 fi', .int .i64 a, .bool pt', .bool ls', .int .i64 of', .slice A' n' c', .int .i64 0, .slice none 0 0], .int .i64 0]) ∧ Below w.heap.size w w' := by
  have ROW := Lib.hid (Row.made w 49 #[.int .i64 2, .int .i64 bits, .int .i64 win, .int .i64 reo, .int .i64 prx, .int .i64 pro, .int .i64 ppd, .int .i64 pby, .int .i64 mrx, .int .i64 qb])
  have ROWZ := Lib.hid (row_at2 (w.alloc (.cells #[.int .i64 2, .int .i64 bits, .int .i64 win, .int .i64 reo, .int .i64 prx, .int .i64 pro, .int .i64 ppd, .int .i64 pby, .int .i64 mrx, .int .i64 qb] 49)) (w.heap.size + 1) 56 #[.int .i64 0, .slice none 0 0, .int .i64 0, .int .i64 0, .slice none 0 0, .bool false, .int .i64 0, .int .i64 0, .bool false, .bool false, .int .i64 0, .slice none 0 0, .int .i64 0, .slice none 0 0] (size_1 _ _))
  have HB0 := Lib.hid (bl_alloc (bl_alloc (Below.refl w.heap.size w) (.cells #[.int .i64 2, .int .i64 bits, .int .i64 win, .int .i64 reo, .int .i64 prx, .int .i64 pro, .int .i64 ppd, .int .i64 pby, .int .i64 mrx, .int .i64 qb] 49)) (.cells #[.int .i64 0, .slice none 0 0, .int .i64 0, .int .i64 0, .slice none 0 0, .bool false, .int .i64 0, .int .i64 0, .bool false, .bool false, .int .i64 0, .slice none 0 0, .int .i64 0, .slice none 0 0] 56))
  have ROWC := Lib.hid (ROW.out.more (.cells #[.int .i64 0, .slice none 0 0, .int .i64 0, .int .i64 0, .slice none 0 0, .bool false, .int .i64 0, .int .i64 0, .bool false, .bool false, .int .i64 0, .slice none 0 0, .int .i64 0, .slice none 0 0] 56))
  have HCK := Lib.hid (fun W => pcheck_any ⟨2, bits, win, reo, prx, pro, ppd, pby, mrx, qb⟩ W)
  rw [hck] at HCK
  unfold Cf.a at HCK
  have HKD := Lib.hid hkd
  have HCAL := Lib.hid hcal
  clear hck hkd hcal
  generalize hW : (w.alloc (.cells #[.int .i64 2, .int .i64 bits, .int .i64 win, .int .i64 reo, .int .i64 prx, .int .i64 pro, .int .i64 ppd, .int .i64 pby, .int .i64 mrx, .int .i64 qb] 49)).alloc (.cells #[.int .i64 0, .slice none 0 0, .int .i64 0, .int .i64 0, .slice none 0 0, .bool false, .int .i64 0, .int .i64 0, .bool false, .bool false, .int .i64 0, .slice none 0 0, .int .i64 0, .slice none 0 0] 56) = W0 at *
  obtain ⟨c0, c1, c2, c3, c4, c5, c6, c7, c8, c9⟩ := cells10 ROWC.out
  go_enter Try.func37, Try.ntmps37
  go_wp2_with fail
  clear hW
  go_wp2_with (first
    | (go_at_call 38; (with_reducible refine (HCK.out _).mono ?_); rintro e w1 ⟨rfl, hb1⟩; (have HB1 := Lib.hid (bl_step HB0.out hb1); have ROWC1 := Lib.hid (ROWC.out.later hb1); have ROWZ1 := Lib.hid (ROWZ.out.later hb1); clear hb1 c0 c1 c2 c3 c4 c5 c6 c7 c8 c9; obtain ⟨c0, c1, c2, c3, c4, c5, c6, c7, c8, c9⟩ := cells10 ROWC1.out))
    | (go_at_call 154; (with_reducible refine (HKD.out _ HB1.out).mono ?_); rintro e wx ⟨rfl, rfl⟩; obtain ⟨C0, C1, -⟩ := cells10 (ROWC1.out.more (.cells #[.int .i64 2, .slice none 0 0, .int .i64 0, .int .i64 0, .slice none 0 0, .bool false, .int .i64 0, .int .i64 0, .bool false, .bool false, .int .i64 0, .slice none 0 0, .int .i64 0, .slice none 0 0] 56)))
    | (go_at_call 34; (with_reducible refine (HCAL.out _ (bl_alloc HB1.out _)).mono ?_); rintro e w3 ⟨p', pt', ls', fi', of', A', n', c', rfl, hb3⟩; (have HB3 := Lib.hid (bl_step (bl_alloc HB1.out (.cells #[.int .i64 2, .slice none 0 0, .int .i64 0, .int .i64 0, .slice none 0 0, .bool false, .int .i64 0, .int .i64 0, .bool false, .bool false, .int .i64 0, .slice none 0 0, .int .i64 0, .slice none 0 0] 56)) hb3); have ROWZ3 := Lib.hid ((ROWZ1.out.more (.cells #[.int .i64 2, .slice none 0 0, .int .i64 0, .int .i64 0, .slice none 0 0, .bool false, .int .i64 0, .int .i64 0, .bool false, .bool false, .int .i64 0, .slice none 0 0, .int .i64 0, .slice none 0 0] 56)).later hb3); have ROWQ3 := Lib.hid ((Row.made w1 56 #[.int .i64 2, .slice none 0 0, .int .i64 0, .int .i64 0, .slice none 0 0, .bool false, .int .i64 0, .int .i64 0, .bool false, .bool false, .int .i64 0, .slice none 0 0, .int .i64 0, .slice none 0 0]).later hb3); have hq : w.heap.size + 1 < w1.heap.size := ROWZ1.out.inside; clear hb3; generalize w1.heap.size = q at *; have RZ4 := Lib.hid (show Row (((((((w3.setCell ⟨q, 5, none⟩ (.bool p')).setCell ⟨q, 6, none⟩ (.int .i64 fi')).setCell ⟨q, 7, none⟩ (.int .i64 a)).setCell ⟨q, 8, none⟩ (.bool pt')).setCell ⟨q, 9, none⟩ (.bool ls')).setCell ⟨q, 10, none⟩ (.int .i64 of')).setCell ⟨q, 11, none⟩ (.slice A' n' c')) (w.heap.size + 1) 56 #[.int .i64 0, .slice none 0 0, .int .i64 0, .int .i64 0, .slice none 0 0, .bool false, .int .i64 0, .int .i64 0, .bool false, .bool false, .int .i64 0, .slice none 0 0, .int .i64 0, .slice none 0 0] from (((((((ROWZ3.out.elsewhere (p := ⟨q, 5, none⟩) (Nat.ne_of_lt hq) (.bool p')).elsewhere (p := ⟨q, 6, none⟩) (Nat.ne_of_lt hq) (.int .i64 fi')).elsewhere (p := ⟨q, 7, none⟩) (Nat.ne_of_lt hq) (.int .i64 a)).elsewhere (p := ⟨q, 8, none⟩) (Nat.ne_of_lt hq) (.bool pt')).elsewhere (p := ⟨q, 9, none⟩) (Nat.ne_of_lt hq) (.bool ls')).elsewhere (p := ⟨q, 10, none⟩) (Nat.ne_of_lt hq) (.int .i64 of')).elsewhere (p := ⟨q, 11, none⟩) (Nat.ne_of_lt hq) (.slice A' n' c'))); have RQ4 := Lib.hid (show Row (((((((w3.setCell ⟨q, 5, none⟩ (.bool p')).setCell ⟨q, 6, none⟩ (.int .i64 fi')).setCell ⟨q, 7, none⟩ (.int .i64 a)).setCell ⟨q, 8, none⟩ (.bool pt')).setCell ⟨q, 9, none⟩ (.bool ls')).setCell ⟨q, 10, none⟩ (.int .i64 of')).setCell ⟨q, 11, none⟩ (.slice A' n' c')) q 56 #[.int .i64 2, .slice none 0 0, .int .i64 0, .int .i64 0, .slice none 0 0, .bool p', .int .i64 fi', .int .i64 a, .bool pt', .bool ls', .int .i64 of', .slice A' n' c', .int .i64 0, .slice none 0 0] from (((((((ROWQ3.out.written 5 (.bool p')).written 6 (.int .i64 fi')).written 7 (.int .i64 a)).written 8 (.bool pt')).written 9 (.bool ls')).written 10 (.int .i64 of')).written 11 (.slice A' n' c'))); have HB4 := Lib.hid (show Below w.heap.size w (((((((w3.setCell ⟨q, 5, none⟩ (.bool p')).setCell ⟨q, 6, none⟩ (.int .i64 fi')).setCell ⟨q, 7, none⟩ (.int .i64 a)).setCell ⟨q, 8, none⟩ (.bool pt')).setCell ⟨q, 9, none⟩ (.bool ls')).setCell ⟨q, 10, none⟩ (.int .i64 of')).setCell ⟨q, 11, none⟩ (.slice A' n' c')) from (((((((HB3.out.setCell (p := ⟨q, 5, none⟩) (by show w.heap.size ≤ q; omega) (.bool p')).setCell (p := ⟨q, 6, none⟩) (by show w.heap.size ≤ q; omega) (.int .i64 fi')).setCell (p := ⟨q, 7, none⟩) (by show w.heap.size ≤ q; omega) (.int .i64 a)).setCell (p := ⟨q, 8, none⟩) (by show w.heap.size ≤ q; omega) (.bool pt')).setCell (p := ⟨q, 9, none⟩) (by show w.heap.size ≤ q; omega) (.bool ls')).setCell (p := ⟨q, 10, none⟩) (by show w.heap.size ≤ q; omega) (.int .i64 of')).setCell (p := ⟨q, 11, none⟩) (by show w.heap.size ≤ q; omega) (.slice A' n' c'))); obtain ⟨q0, q1, q2, q3, q4, q5, q6, q7, q8, q9, q10, q11, q12, q13⟩ := cells14 ROWQ3.out; obtain ⟨f0, f1, f2, f3, f4, f5, f6, f7, f8, f9, f10, f11, f12, f13⟩ := free14 ROWQ3.out; obtain ⟨r0, r1, r2, r3, r4, r5, r6, r7, r8, r9, r10, r11, r12, r13⟩ := cells14 RQ4.out; obtain ⟨z0, z1, z2, z3, z4, z5, z6, z7, z8, z9, z10, z11, z12, z13⟩ := cells14 RZ4.out; obtain ⟨y0, y1, y2, y3, y4, y5, y6, y7, y8, y9, y10, y11, y12, y13⟩ := free14 RZ4.out)))
  obtain ⟨dd, hdd⟩ := underun_parts
  refine bodyPost_ret (st_results_two rfl _ _ (w.heap.size + 1) 56 #[.int .i64 2, .slice none 0 0, .int .i64 0, .int .i64 0, .slice none 0 0, .bool p', .int .i64 fi', .int .i64 a, .bool pt', .bool ls', .int .i64 of', .slice A' n' c', .int .i64 0, .slice none 0 0] dd rfl (row_set14 RZ4.out) hdd Try.infoun) rfl ?_
  exact ⟨p', pt', ls', fi', of', A', n', c', rfl, below_set14 HB4.out (Nat.le_succ _) _ _ _ _ _ _ _ _ _ _ _ _ _ _⟩
set_option maxRecDepth 100000 in
set_option maxHeartbeats 6400000 in
theorem pread_am_err {A : Option Addr} (bits win reo prx pro ppd pby mrx qb er : Int) (n cap : Nat) (w : World)
    (hck : checkF ⟨2, bits, win, reo, prx, pro, ppd, pby, mrx, qb⟩ = 0) (hkd : ∀ W, Below w.heap.size w W → Calls Try.prog 154 #[.int .i64 2, .slice A n cap] W fun e w' => e = .returned (.int .i64 2) ∧ W = w')
    (her : er ≠ 0)
    (hcal : ∀ W, Below w.heap.size w W → Calls Try.prog 34 #[.slice A n cap, .int .i64 bits] W fun e w' => e = .returned (.tuple #[.agg #[.bool false, .int .i64 0, .int .i64 0, .bool false, .bool false, .int .i64 0, .slice none 0 0], .int .i64 er]) ∧ Below W.heap.size W w') :
    Calls Try.prog 37 #[.agg #[.int .i64 2, .int .i64 bits, .int .i64 win, .int .i64 reo, .int .i64 prx, .int .i64 pro, .int .i64 ppd, .int .i64 pby, .int .i64 mrx, .int .i64 qb], .slice A n cap] w fun e w' => e = .returned (.tuple #[.agg #[.int .i64 0, .slice none 0 0, .int .i64 0, .int .i64 0, .slice none 0 0, .bool false, .int .i64 0, .int .i64 0, .bool false, .bool false, .int .i64 0, .slice none 0 0, .int .i64 0, .slice none 0 0], .int .i64 er]) ∧ Below w.heap.size w w' := by
  have ROW := Lib.hid (Row.made w 49 #[.int .i64 2, .int .i64 bits, .int .i64 win, .int .i64 reo, .int .i64 prx, .int .i64 pro, .int .i64 ppd, .int .i64 pby, .int .i64 mrx, .int .i64 qb])
  have ROWZ := Lib.hid (row_at2 (w.alloc (.cells #[.int .i64 2, .int .i64 bits, .int .i64 win, .int .i64 reo, .int .i64 prx, .int .i64 pro, .int .i64 ppd, .int .i64 pby, .int .i64 mrx, .int .i64 qb] 49)) (w.heap.size + 1) 56 #[.int .i64 0, .slice none 0 0, .int .i64 0, .int .i64 0, .slice none 0 0, .bool false, .int .i64 0, .int .i64 0, .bool false, .bool false, .int .i64 0, .slice none 0 0, .int .i64 0, .slice none 0 0] (size_1 _ _))
  have HB0 := Lib.hid (bl_alloc (bl_alloc (Below.refl w.heap.size w) (.cells #[.int .i64 2, .int .i64 bits, .int .i64 win, .int .i64 reo, .int .i64 prx, .int .i64 pro, .int .i64 ppd, .int .i64 pby, .int .i64 mrx, .int .i64 qb] 49)) (.cells #[.int .i64 0, .slice none 0 0, .int .i64 0, .int .i64 0, .slice none 0 0, .bool false, .int .i64 0, .int .i64 0, .bool false, .bool false, .int .i64 0, .slice none 0 0, .int .i64 0, .slice none 0 0] 56))
  have ROWC := Lib.hid (ROW.out.more (.cells #[.int .i64 0, .slice none 0 0, .int .i64 0, .int .i64 0, .slice none 0 0, .bool false, .int .i64 0, .int .i64 0, .bool false, .bool false, .int .i64 0, .slice none 0 0, .int .i64 0, .slice none 0 0] 56))
  have HCK := Lib.hid (fun W => pcheck_any ⟨2, bits, win, reo, prx, pro, ppd, pby, mrx, qb⟩ W)
  rw [hck] at HCK
  unfold Cf.a at HCK
  have HKD := Lib.hid hkd
  have HCAL := Lib.hid hcal
  clear hck hkd hcal
  have hne : (er != 0) = true := by simpa using her
  clear her
  generalize hW : (w.alloc (.cells #[.int .i64 2, .int .i64 bits, .int .i64 win, .int .i64 reo, .int .i64 prx, .int .i64 pro, .int .i64 ppd, .int .i64 pby, .int .i64 mrx, .int .i64 qb] 49)).alloc (.cells #[.int .i64 0, .slice none 0 0, .int .i64 0, .int .i64 0, .slice none 0 0, .bool false, .int .i64 0, .int .i64 0, .bool false, .bool false, .int .i64 0, .slice none 0 0, .int .i64 0, .slice none 0 0] 56) = W0 at *
  obtain ⟨c0, c1, c2, c3, c4, c5, c6, c7, c8, c9⟩ := cells10 ROWC.out
  go_enter Try.func37, Try.ntmps37
  go_wp2_with fail
  clear hW
  go_wp2_with (first
    | (go_at_call 38; (with_reducible refine (HCK.out _).mono ?_); rintro e w1 ⟨rfl, hb1⟩; (have HB1 := Lib.hid (bl_step HB0.out hb1); have ROWC1 := Lib.hid (ROWC.out.later hb1); have ROWZ1 := Lib.hid (ROWZ.out.later hb1); clear hb1 c0 c1 c2 c3 c4 c5 c6 c7 c8 c9; obtain ⟨c0, c1, c2, c3, c4, c5, c6, c7, c8, c9⟩ := cells10 ROWC1.out))
    | (go_at_call 154; (with_reducible refine (HKD.out _ HB1.out).mono ?_); rintro e wx ⟨rfl, rfl⟩; obtain ⟨C0, C1, -⟩ := cells10 (ROWC1.out.more (.cells #[.int .i64 2, .slice none 0 0, .int .i64 0, .int .i64 0, .slice none 0 0, .bool false, .int .i64 0, .int .i64 0, .bool false, .bool false, .int .i64 0, .slice none 0 0, .int .i64 0, .slice none 0 0] 56)))
    | (go_at_call 34; (with_reducible refine (HCAL.out _ (bl_alloc HB1.out _)).mono ?_); rintro e w3 ⟨rfl, hb3⟩; (have HB3 := Lib.hid (bl_step (bl_alloc HB1.out (.cells #[.int .i64 2, .slice none 0 0, .int .i64 0, .int .i64 0, .slice none 0 0, .bool false, .int .i64 0, .int .i64 0, .bool false, .bool false, .int .i64 0, .slice none 0 0, .int .i64 0, .slice none 0 0] 56)) hb3); have ROWZ3 := Lib.hid ((ROWZ1.out.more (.cells #[.int .i64 2, .slice none 0 0, .int .i64 0, .int .i64 0, .slice none 0 0, .bool false, .int .i64 0, .int .i64 0, .bool false, .bool false, .int .i64 0, .slice none 0 0, .int .i64 0, .slice none 0 0] 56)).later hb3); have ROWQ3 := Lib.hid ((Row.made w1 56 #[.int .i64 2, .slice none 0 0, .int .i64 0, .int .i64 0, .slice none 0 0, .bool false, .int .i64 0, .int .i64 0, .bool false, .bool false, .int .i64 0, .slice none 0 0, .int .i64 0, .slice none 0 0]).later hb3); have hq : w.heap.size + 1 < w1.heap.size := ROWZ1.out.inside; clear hb3; generalize w1.heap.size = q at *; have RZ4 := Lib.hid (show Row (((((((w3.setCell ⟨q, 5, none⟩ (.bool false)).setCell ⟨q, 6, none⟩ (.int .i64 0)).setCell ⟨q, 7, none⟩ (.int .i64 0)).setCell ⟨q, 8, none⟩ (.bool false)).setCell ⟨q, 9, none⟩ (.bool false)).setCell ⟨q, 10, none⟩ (.int .i64 0)).setCell ⟨q, 11, none⟩ (.slice none 0 0)) (w.heap.size + 1) 56 #[.int .i64 0, .slice none 0 0, .int .i64 0, .int .i64 0, .slice none 0 0, .bool false, .int .i64 0, .int .i64 0, .bool false, .bool false, .int .i64 0, .slice none 0 0, .int .i64 0, .slice none 0 0] from (((((((ROWZ3.out.elsewhere (p := ⟨q, 5, none⟩) (Nat.ne_of_lt hq) (.bool false)).elsewhere (p := ⟨q, 6, none⟩) (Nat.ne_of_lt hq) (.int .i64 0)).elsewhere (p := ⟨q, 7, none⟩) (Nat.ne_of_lt hq) (.int .i64 0)).elsewhere (p := ⟨q, 8, none⟩) (Nat.ne_of_lt hq) (.bool false)).elsewhere (p := ⟨q, 9, none⟩) (Nat.ne_of_lt hq) (.bool false)).elsewhere (p := ⟨q, 10, none⟩) (Nat.ne_of_lt hq) (.int .i64 0)).elsewhere (p := ⟨q, 11, none⟩) (Nat.ne_of_lt hq) (.slice none 0 0))); have RQ4 := Lib.hid (show Row (((((((w3.setCell ⟨q, 5, none⟩ (.bool false)).setCell ⟨q, 6, none⟩ (.int .i64 0)).setCell ⟨q, 7, none⟩ (.int .i64 0)).setCell ⟨q, 8, none⟩ (.bool false)).setCell ⟨q, 9, none⟩ (.bool false)).setCell ⟨q, 10, none⟩ (.int .i64 0)).setCell ⟨q, 11, none⟩ (.slice none 0 0)) q 56 #[.int .i64 2, .slice none 0 0, .int .i64 0, .int .i64 0, .slice none 0 0, .bool false, .int .i64 0, .int .i64 0, .bool false, .bool false, .int .i64 0, .slice none 0 0, .int .i64 0, .slice none 0 0] from (((((((ROWQ3.out.written 5 (.bool false)).written 6 (.int .i64 0)).written 7 (.int .i64 0)).written 8 (.bool false)).written 9 (.bool false)).written 10 (.int .i64 0)).written 11 (.slice none 0 0))); have HB4 := Lib.hid (show Below w.heap.size w (((((((w3.setCell ⟨q, 5, none⟩ (.bool false)).setCell ⟨q, 6, none⟩ (.int .i64 0)).setCell ⟨q, 7, none⟩ (.int .i64 0)).setCell ⟨q, 8, none⟩ (.bool false)).setCell ⟨q, 9, none⟩ (.bool false)).setCell ⟨q, 10, none⟩ (.int .i64 0)).setCell ⟨q, 11, none⟩ (.slice none 0 0)) from (((((((HB3.out.setCell (p := ⟨q, 5, none⟩) (by show w.heap.size ≤ q; omega) (.bool false)).setCell (p := ⟨q, 6, none⟩) (by show w.heap.size ≤ q; omega) (.int .i64 0)).setCell (p := ⟨q, 7, none⟩) (by show w.heap.size ≤ q; omega) (.int .i64 0)).setCell (p := ⟨q, 8, none⟩) (by show w.heap.size ≤ q; omega) (.bool false)).setCell (p := ⟨q, 9, none⟩) (by show w.heap.size ≤ q; omega) (.bool false)).setCell (p := ⟨q, 10, none⟩) (by show w.heap.size ≤ q; omega) (.int .i64 0)).setCell (p := ⟨q, 11, none⟩) (by show w.heap.size ≤ q; omega) (.slice none 0 0))); obtain ⟨q0, q1, q2, q3, q4, q5, q6, q7, q8, q9, q10, q11, q12, q13⟩ := cells14 ROWQ3.out; obtain ⟨f0, f1, f2, f3, f4, f5, f6, f7, f8, f9, f10, f11, f12, f13⟩ := free14 ROWQ3.out; obtain ⟨r0, r1, r2, r3, r4, r5, r6, r7, r8, r9, r10, r11, r12, r13⟩ := cells14 RQ4.out; obtain ⟨z0, z1, z2, z3, z4, z5, z6, z7, z8, z9, z10, z11, z12, z13⟩ := cells14 RZ4.out; obtain ⟨y0, y1, y2, y3, y4, y5, y6, y7, y8, y9, y10, y11, y12, y13⟩ := free14 RZ4.out)))
  obtain ⟨dd, hdd⟩ := underun_parts
  refine bodyPost_ret (st_results_two rfl _ _ (w.heap.size + 1) 56 #[.int .i64 0, .slice none 0 0, .int .i64 0, .int .i64 0, .slice none 0 0, .bool false, .int .i64 0, .int .i64 0, .bool false, .bool false, .int .i64 0, .slice none 0 0, .int .i64 0, .slice none 0 0] dd rfl (row_set14 RZ4.out) hdd Try.infoun) rfl ?_
  exact ⟨rfl, below_set14 HB4.out (Nat.le_succ _) _ _ _ _ _ _ _ _ _ _ _ _ _ _⟩
end Go.Proofs.Ytfgjlhklioijmaa
namespace Go.Proofs.Ytfgjlhklioijmaa
open Go.RowKit

theorem eqMs_refl (L : List MissM) : eqMs L L = true := by
  induction L with
  | nil => rfl
  | cons m t ih => simp [eqMs, ih, (eqM_iff m m).2 rfl]
theorem sread_yes {A : Option Addr} {bs : List Nat} {M : List MissM} {a : Int} (x n cap : Nat) (w : World) (hn : bs.length = n) (hm : n ≤ 8192) (hc : n ≤ cap) (hs : Src w A (bts bs)) (hb : ∀ b ∈ bs, b < 256) (h : stRd bs x = (0, a, M)) :
    Calls Try.prog 156 #[.slice A n cap, .int .i64 x] w fun e w' => ∃ A' c, e = .returned (.tuple #[.agg #[.int .i64 a, .slice A' M.length c], .int .i64 0]) ∧ M.length ≤ c ∧ c ≤ 9223372036854775807 ∧ MSrc w' A' M ∧ Below w.heap.size w w' := by
  refine (sread_any x n cap w hn hm hc hs hb).mono ?_
  rintro e w' ⟨h1, h2, _⟩
  rw [h] at h2
  obtain ⟨A', c, e1, e2, e3, e4⟩ := h2 rfl
  exact ⟨A', c, e1, e2, e3, e4, h1⟩
theorem sread_err {A : Option Addr} {bs : List Nat} {M : List MissM} {a c : Int} (x n cap : Nat) (w : World) (hn : bs.length = n) (hm : n ≤ 8192) (hc : n ≤ cap) (hs : Src w A (bts bs)) (hb : ∀ b ∈ bs, b < 256) (h : stRd bs x = (c, a, M)) (h0 : c ≠ 0) :
    Calls Try.prog 156 #[.slice A n cap, .int .i64 x] w fun e w' => e = .returned (.tuple #[.agg #[.int .i64 0, .slice none 0 0], .int .i64 c]) ∧ Below w.heap.size w w' := by
  refine (sread_any x n cap w hn hm hc hs hb).mono ?_
  rintro e w' ⟨h1, _, h3⟩
  rw [h] at h3
  exact ⟨h3 h0, h1⟩
theorem swrite_zero (x : Nat) (w : World) (hk : okS (x : Int) = true) : Calls Try.prog 243 #[.agg #[.int .i64 0, .slice none 0 0], .int .i64 x] w fun e w' => ∃ g n, e = .returned (.tuple #[.slice (some ⟨g, 0, none⟩) n n, .int .i64 0]) ∧ Below w.heap.size w w' := by
  have hr0 : rightB ((0 : Nat) : Int) [] x = true := by
    rcases okS_nat hk with h | h
    · obtain rfl : x = 10 := by omega
      decide +kernel
    · obtain rfl : x = 16 := by omega
      decide +kernel
  refine (stwrite_ok (A := none) (L := []) 0 x 0 0 w rfl (fun h => absurd h (by decide)) hr0).mono ?_
  rintro e w' ⟨g, rfl, _, _, hb⟩
  exact ⟨g, _, rfl, hb⟩
theorem cells2x {w : World} {g : Nat} {t : TypeId} {a b : Value} (hr : Row w g t #[a, b]) : w.cell? ⟨g, 0, none⟩ = some a ∧ w.cell? ⟨g, 1, none⟩ = some b := ⟨hr.read rfl, hr.read rfl⟩
set_option maxRecDepth 100000 in
set_option maxHeartbeats 1600000 in
theorem sread_kind {A : Option Addr} (x : Int) (n cap : Nat) (w : World) (h : okS x = false) :
    Calls Try.prog 156 #[.slice A n cap, .int .i64 x] w fun e w' => e = .returned (.tuple #[.agg #[.int .i64 0, .slice none 0 0], .int .i64 9]) ∧ Below w.heap.size w w' := by
  have HM := Lib.hid (fun W => smay_any x W)
  rw [h] at HM
  have HF : Calls Try.prog 245 #[.slice A n cap, .int .i64 x] (w.alloc (.cells #[.int .i64 0, .slice none 0 0] 54)) fun e w' => e = .returned (.int .i64 9) ∧ w.alloc (.cells #[.int .i64 0, .slice none 0 0] 54) = w' := by
    generalize w.alloc (.cells #[.int .i64 0, .slice none 0 0] 54) = W
    clear h
    go_enter Try.func245, Try.ntmps245
    go_wp2_with (go_at_call 283; refine (HM.out _).mono ?_; rintro e w1 ⟨rfl, rfl⟩)
    go_ret
    exact ⟨rfl, rfl⟩
  have HFH := Lib.hid HF
  have ROW := Lib.hid (Row.made w 54 #[.int .i64 0, .slice none 0 0])
  obtain ⟨⟨c0, c1⟩, f0, f1⟩ := cells2 ROW.out
  clear h HF
  go_enter Try.func156, Try.ntmps156
  go_wp2
  refine st_scope_through 0 (fun _ _ => False) (fun _ _ => 0) rfl (fun _ => ?_) (fun _ _ h => h.elim)
  go_wp2_with (go_at_call 245; (with_reducible refine HFH.out.mono ?_); rintro e w1 ⟨rfl, rfl⟩)
  simp only [Exit.jump]
  obtain ⟨dd, hdd⟩ := understat_parts
  refine bodyPost_ret (st_results_two rfl _ _ w.heap.size 54 #[.int .i64 0, .slice none 0 0] dd rfl ROW.out hdd Try.infostat) rfl ?_
  exact ⟨rfl, bl_alloc (Below.refl _ _) _⟩
end Go.Proofs.Ytfgjlhklioijmaa
