/-
  pdu: bytes are read: a packet of amd. How many bytes fields have; whether two are equal. StatusBack: the law walked.
-/
import Derived.Test.YtfgjlhklioijmaaJUmtxNumbers13
import Derived.Test.YtfgjlhklioijmaaJUmtxNumbers12
import Derived.Laws.Strings
namespace Go.Proofs.Ytfgjlhklioijmaa
open Go.RowKit

set_option maxRecDepth 100000 in
set_option maxHeartbeats 6400000 in
theorem pread_am_ok {A : Option Addr} (bits win reo prx pro ppd pby mrx qb a : Int) (n cap : Nat) (w : World)
    (hck : checkF ⟨2, bits, win, reo, prx, pro, ppd, pby, mrx, qb⟩ = 0) (hkd : ∀ W, Below w.heap.size w W → Calls Try.prog 154 #[.int .i64 2, .slice A n cap] W fun e w' => e = .returned (.int .i64 2) ∧ W = w')
    
    (hcal : ∀ W, Below w.heap.size w W → Calls Try.prog 34 #[.slice A n cap, .int .i64 bits] W fun e w' => ∃ (p' pt' ls' : Bool) (fi' of' : Int) (A' : Option Addr) (n' c' : Nat), e = .returned (.tuple #[.agg #[.bool p', .int .i64 fi', .int .i64 a, .bool pt', .bool ls', .int .i64 of', .slice A' n' c'], .int .i64 0]) ∧ Below W.heap.size W w') :
    Calls Try.prog 37 #[.agg #[.int .i64 2, .int .i64 bits, .int .i64 win, .int .i64 reo, .int .i64 prx, .int .i64 pro, .int .i64 ppd, .int .i64 pby, .int .i64 mrx, .int .i64 qb], .slice A n cap] w fun e w' => ∃ (p' pt' ls' : Bool) (fi' of' : Int) (A' : Option Addr) (n' c' : Nat), e = .returned (.tuple #[.agg #[.int .i64 2, .slice none 0 0, .int .i64 0, .int .i64 0, .slice none 0 0, .bool p', .int .i64 fi', .int .i64 a, .bool pt', .bool ls', .int .i64 of', .slice A' n' c', .int .i64 0, .slice none 0 0], .int .i64 0]) ∧ Below w.heap.size w w' := by
  have ROW := Lib.hid (Row.made w 49 #[.int .i64 2, .int .i64 bits, .int .i64 win, .int .i64 reo, .int .i64 prx, .int .i64 pro, .int .i64 ppd, .int .i64 pby, .int .i64 mrx, .int .i64 qb])
  have ROWZ := Lib.hid (row_at2 (w.alloc (.cells #[.int .i64 2, .int .i64 bits, .int .i64 win, .int .i64 reo, .int .i64 prx, .int .i64 pro, .int .i64 ppd, .int .i64 pby, .int .i64 mrx, .int .i64 qb] 49)) (w.heap.size + 1) 56 #[.int .i64 0, .slice none 0 0, .int .i64 0, .int .i64 0, .slice none 0 0, .bool false, .int .i64 0, .int .i64 0, .bool false, .bool false, .int .i64 0, .slice none 0 0, .int .i64 0, .slice none 0 0] (size_1 _ _))
  have HB0 := Lib.hid (bl_alloc (bl_alloc (Below.refl w.heap.size w) (.cells #[.int .i64 2, .int .i64 bits, .int .i64 win, .int .i64 reo, .int .i64 prx, .int .i64 pro, .int .i64 ppd, .int .i64 pby, .int .i64 mrx, .int .i64 qb] 49)) (.cells #[.int .i64 0, .slice none 0 0, .int .i64 0, .int .i64 0, .slice none 0 0, .bool false, .int .i64 0, .int .i64 0, .bool false, .bool false, .int .i64 0, .slice none 0 0, .int .i64 0, .slice none 0 0] 56))
  have ROWC := Lib.hid (ROW.out.more (.cells #[.int .i64 0, .slice none 0 0, .int .i64 0, .int .i64 0, .slice none 0 0, .bool false, .int .i64 0, .int .i64 0, .bool false, .bool false, .int .i64 0, .slice none 0 0, .int .i64 0, .slice none 0 0] 56))
  have HCK := Lib.hid (fun W => pcheck_any ⟨2, bits, win, reo, prx, pro, ppd, pby, mrx, qb⟩ W)
  rw [hck] at HCK
  unfold Cf.a at HCK
  have HKD := Lib.hid hkd
  have HCAL := Lib.hid hcal
  clear hck hkd hcal
  generalize hW : (w.alloc (.cells #[.int .i64 2, .int .i64 bits, .int .i64 win, .int .i64 reo, .int .i64 prx, .int .i64 pro, .int .i64 ppd, .int .i64 pby, .int .i64 mrx, .int .i64 qb] 49)).alloc (.cells #[.int .i64 0, .slice none 0 0, .int .i64 0, .int .i64 0, .slice none 0 0, .bool false, .int .i64 0, .int .i64 0, .bool false, .bool false, .int .i64 0, .slice none 0 0, .int .i64 0, .slice none 0 0] 56) = W0 at *
  obtain ⟨c0, c1, c2, c3, c4, c5, c6, c7, c8, c9⟩ := cells10 ROWC.out
  go_enter Try.func37, Try.ntmps37
  go_wp2_with fail
  clear hW
  go_wp2_with (first
    | (go_at_call 38; (with_reducible refine (HCK.out _).mono ?_); rintro e w1 ⟨rfl, hb1⟩; (have HB1 := Lib.hid (bl_step HB0.out hb1); have ROWC1 := Lib.hid (ROWC.out.later hb1); have ROWZ1 := Lib.hid (ROWZ.out.later hb1); clear hb1 c0 c1 c2 c3 c4 c5 c6 c7 c8 c9; obtain ⟨c0, c1, c2, c3, c4, c5, c6, c7, c8, c9⟩ := cells10 ROWC1.out))
    | (go_at_call 154; (with_reducible refine (HKD.out _ HB1.out).mono ?_); rintro e wx ⟨rfl, rfl⟩; obtain ⟨C0, C1, -⟩ := cells10 (ROWC1.out.more (.cells #[.int .i64 2, .slice none 0 0, .int .i64 0, .int .i64 0, .slice none 0 0, .bool false, .int .i64 0, .int .i64 0, .bool false, .bool false, .int .i64 0, .slice none 0 0, .int .i64 0, .slice none 0 0] 56)))
    | (go_at_call 34; (with_reducible refine (HCAL.out _ (bl_alloc HB1.out _)).mono ?_); rintro e w3 ⟨p', pt', ls', fi', of', A', n', c', rfl, hb3⟩; (have HB3 := Lib.hid (bl_step (bl_alloc HB1.out (.cells #[.int .i64 2, .slice none 0 0, .int .i64 0, .int .i64 0, .slice none 0 0, .bool false, .int .i64 0, .int .i64 0, .bool false, .bool false, .int .i64 0, .slice none 0 0, .int .i64 0, .slice none 0 0] 56)) hb3); have ROWZ3 := Lib.hid ((ROWZ1.out.more (.cells #[.int .i64 2, .slice none 0 0, .int .i64 0, .int .i64 0, .slice none 0 0, .bool false, .int .i64 0, .int .i64 0, .bool false, .bool false, .int .i64 0, .slice none 0 0, .int .i64 0, .slice none 0 0] 56)).later hb3); have ROWQ3 := Lib.hid ((Row.made w1 56 #[.int .i64 2, .slice none 0 0, .int .i64 0, .int .i64 0, .slice none 0 0, .bool false, .int .i64 0, .int .i64 0, .bool false, .bool false, .int .i64 0, .slice none 0 0, .int .i64 0, .slice none 0 0]).later hb3); have hq : w.heap.size + 1 < w1.heap.size := ROWZ1.out.inside; clear hb3; generalize w1.heap.size = q at *; have RZ4 := Lib.hid (show Row (((((((w3.setCell ⟨q, 5, none⟩ (.bool p')).setCell ⟨q, 6, none⟩ (.int .i64 fi')).setCell ⟨q, 7, none⟩ (.int .i64 a)).setCell ⟨q, 8, none⟩ (.bool pt')).setCell ⟨q, 9, none⟩ (.bool ls')).setCell ⟨q, 10, none⟩ (.int .i64 of')).setCell ⟨q, 11, none⟩ (.slice A' n' c')) (w.heap.size + 1) 56 #[.int .i64 0, .slice none 0 0, .int .i64 0, .int .i64 0, .slice none 0 0, .bool false, .int .i64 0, .int .i64 0, .bool false, .bool false, .int .i64 0, .slice none 0 0, .int .i64 0, .slice none 0 0] from (((((((ROWZ3.out.elsewhere (p := ⟨q, 5, none⟩) (Nat.ne_of_lt hq) (.bool p')).elsewhere (p := ⟨q, 6, none⟩) (Nat.ne_of_lt hq) (.int .i64 fi')).elsewhere (p := ⟨q, 7, none⟩) (Nat.ne_of_lt hq) (.int .i64 a)).elsewhere (p := ⟨q, 8, none⟩) (Nat.ne_of_lt hq) (.bool pt')).elsewhere (p := ⟨q, 9, none⟩) (Nat.ne_of_lt hq) (.bool ls')).elsewhere (p := ⟨q, 10, none⟩) (Nat.ne_of_lt hq) (.int .i64 of')).elsewhere (p := ⟨q, 11, none⟩) (Nat.ne_of_lt hq) (.slice A' n' c'))); have RQ4 := Lib.hid (show Row (((((((w3.setCell ⟨q, 5, none⟩ (.bool p')).setCell ⟨q, 6, none⟩ (.int .i64 fi')).setCell ⟨q, 7, none⟩ (.int .i64 a)).setCell ⟨q, 8, none⟩ (.bool pt')).setCell ⟨q, 9, none⟩ (.bool ls')).setCell ⟨q, 10, none⟩ (.int .i64 of')).setCell ⟨q, 11, none⟩ (.slice A' n' c')) q 56 #[.int .i64 2, .slice none 0 0, .int .i64 0, .int .i64 0, .slice none 0 0, .bool p', .int .i64 fi', .int .i64 a, .bool pt', .bool ls', .int .i64 of', .slice A' n' c', .int .i64 0, .slice none 0 0] from (((((((ROWQ3.out.written 5 (.bool p')).written 6 (.int .i64 fi')).written 7 (.int .i64 a)).written 8 (.bool pt')).written 9 (.bool ls')).written 10 (.int .i64 of')).written 11 (.slice A' n' c'))); have HB4 := Lib.hid (show Below w.heap.size w (((((((w3.setCell ⟨q, 5, none⟩ (.bool p')).setCell ⟨q, 6, none⟩ (.int .i64 fi')).setCell ⟨q, 7, none⟩ (.int .i64 a)).setCell ⟨q, 8, none⟩ (.bool pt')).setCell ⟨q, 9, none⟩ (.bool ls')).setCell ⟨q, 10, none⟩ (.int .i64 of')).setCell ⟨q, 11, none⟩ (.slice A' n' c')) from (((((((HB3.out.setCell (p := ⟨q, 5, none⟩) (by show w.heap.size ≤ q; omega) (.bool p')).setCell (p := ⟨q, 6, none⟩) (by show w.heap.size ≤ q; omega) (.int .i64 fi')).setCell (p := ⟨q, 7, none⟩) (by show w.heap.size ≤ q; omega) (.int .i64 a)).setCell (p := ⟨q, 8, none⟩) (by show w.heap.size ≤ q; omega) (.bool pt')).setCell (p := ⟨q, 9, none⟩) (by show w.heap.size ≤ q; omega) (.bool ls')).setCell (p := ⟨q, 10, none⟩) (by show w.heap.size ≤ q; omega) (.int .i64 of')).setCell (p := ⟨q, 11, none⟩) (by show w.heap.size ≤ q; omega) (.slice A' n' c'))); obtain ⟨q0, q1, q2, q3, q4, q5, q6, q7, q8, q9, q10, q11, q12, q13⟩ := cells14 ROWQ3.out; obtain ⟨f0, f1, f2, f3, f4, f5, f6, f7, f8, f9, f10, f11, f12, f13⟩ := free14 ROWQ3.out; obtain ⟨r0, r1, r2, r3, r4, r5, r6, r7, r8, r9, r10, r11, r12, r13⟩ := cells14 RQ4.out; obtain ⟨z0, z1, z2, z3, z4, z5, z6, z7, z8, z9, z10, z11, z12, z13⟩ := cells14 RZ4.out; obtain ⟨y0, y1, y2, y3, y4, y5, y6, y7, y8, y9, y10, y11, y12, y13⟩ := free14 RZ4.out)))
  obtain ⟨dd, hdd⟩ := underun_parts
  refine bodyPost_ret (st_results_two rfl _ _ (w.heap.size + 1) 56 #[.int .i64 2, .slice none 0 0, .int .i64 0, .int .i64 0, .slice none 0 0, .bool p', .int .i64 fi', .int .i64 a, .bool pt', .bool ls', .int .i64 of', .slice A' n' c', .int .i64 0, .slice none 0 0] dd rfl (row_set14 RZ4.out) hdd Try.infoun) rfl ?_
  exact ⟨p', pt', ls', fi', of', A', n', c', rfl, below_set14 HB4.out (Nat.le_succ _) _ _ _ _ _ _ _ _ _ _ _ _ _ _⟩
set_option maxRecDepth 100000 in
set_option maxHeartbeats 6400000 in
theorem pread_am_err {A : Option Addr} (bits win reo prx pro ppd pby mrx qb er : Int) (n cap : Nat) (w : World)
    (hck : checkF ⟨2, bits, win, reo, prx, pro, ppd, pby, mrx, qb⟩ = 0) (hkd : ∀ W, Below w.heap.size w W → Calls Try.prog 154 #[.int .i64 2, .slice A n cap] W fun e w' => e = .returned (.int .i64 2) ∧ W = w')
    (her : er ≠ 0)
    (hcal : ∀ W, Below w.heap.size w W → Calls Try.prog 34 #[.slice A n cap, .int .i64 bits] W fun e w' => e = .returned (.tuple #[.agg #[.bool false, .int .i64 0, .int .i64 0, .bool false, .bool false, .int .i64 0, .slice none 0 0], .int .i64 er]) ∧ Below W.heap.size W w') :
    Calls Try.prog 37 #[.agg #[.int .i64 2, .int .i64 bits, .int .i64 win, .int .i64 reo, .int .i64 prx, .int .i64 pro, .int .i64 ppd, .int .i64 pby, .int .i64 mrx, .int .i64 qb], .slice A n cap] w fun e w' => e = .returned (.tuple #[.agg #[.int .i64 0, .slice none 0 0, .int .i64 0, .int .i64 0, .slice none 0 0, .bool false, .int .i64 0, .int .i64 0, .bool false, .bool false, .int .i64 0, .slice none 0 0, .int .i64 0, .slice none 0 0], .int .i64 er]) ∧ Below w.heap.size w w' := by
  have ROW := Lib.hid (Row.made w 49 #[.int .i64 2, .int .i64 bits, .int .i64 win, .int .i64 reo, .int .i64 prx, .int .i64 pro, .int .i64 ppd, .int .i64 pby, .int .i64 mrx, .int .i64 qb])
  have ROWZ := Lib.hid (row_at2 (w.alloc (.cells #[.int .i64 2, .int .i64 bits, .int .i64 win, .int .i64 reo, .int .i64 prx, .int .i64 pro, .int .i64 ppd, .int .i64 pby, .int .i64 mrx, .int .i64 qb] 49)) (w.heap.size + 1) 56 #[.int .i64 0, .slice none 0 0, .int .i64 0, .int .i64 0, .slice none 0 0, .bool false, .int .i64 0, .int .i64 0, .bool false, .bool false, .int .i64 0, .slice none 0 0, .int .i64 0, .slice none 0 0] (size_1 _ _))
  have HB0 := Lib.hid (bl_alloc (bl_alloc (Below.refl w.heap.size w) (.cells #[.int .i64 2, .int .i64 bits, .int .i64 win, .int .i64 reo, .int .i64 prx, .int .i64 pro, .int .i64 ppd, .int .i64 pby, .int .i64 mrx, .int .i64 qb] 49)) (.cells #[.int .i64 0, .slice none 0 0, .int .i64 0, .int .i64 0, .slice none 0 0, .bool false, .int .i64 0, .int .i64 0, .bool false, .bool false, .int .i64 0, .slice none 0 0, .int .i64 0, .slice none 0 0] 56))
  have ROWC := Lib.hid (ROW.out.more (.cells #[.int .i64 0, .slice none 0 0, .int .i64 0, .int .i64 0, .slice none 0 0, .bool false, .int .i64 0, .int .i64 0, .bool false, .bool false, .int .i64 0, .slice none 0 0, .int .i64 0, .slice none 0 0] 56))
  have HCK := Lib.hid (fun W => pcheck_any ⟨2, bits, win, reo, prx, pro, ppd, pby, mrx, qb⟩ W)
  rw [hck] at HCK
  unfold Cf.a at HCK
  have HKD := Lib.hid hkd
  have HCAL := Lib.hid hcal
  clear hck hkd hcal
  have hne : (er != 0) = true := by simpa using her
  clear her
  generalize hW : (w.alloc (.cells #[.int .i64 2, .int .i64 bits, .int .i64 win, .int .i64 reo, .int .i64 prx, .int .i64 pro, .int .i64 ppd, .int .i64 pby, .int .i64 mrx, .int .i64 qb] 49)).alloc (.cells #[.int .i64 0, .slice none 0 0, .int .i64 0, .int .i64 0, .slice none 0 0, .bool false, .int .i64 0, .int .i64 0, .bool false, .bool false, .int .i64 0, .slice none 0 0, .int .i64 0, .slice none 0 0] 56) = W0 at *
  obtain ⟨c0, c1, c2, c3, c4, c5, c6, c7, c8, c9⟩ := cells10 ROWC.out
  go_enter Try.func37, Try.ntmps37
  go_wp2_with fail
  clear hW
  go_wp2_with (first
    | (go_at_call 38; (with_reducible refine (HCK.out _).mono ?_); rintro e w1 ⟨rfl, hb1⟩; (have HB1 := Lib.hid (bl_step HB0.out hb1); have ROWC1 := Lib.hid (ROWC.out.later hb1); have ROWZ1 := Lib.hid (ROWZ.out.later hb1); clear hb1 c0 c1 c2 c3 c4 c5 c6 c7 c8 c9; obtain ⟨c0, c1, c2, c3, c4, c5, c6, c7, c8, c9⟩ := cells10 ROWC1.out))
    | (go_at_call 154; (with_reducible refine (HKD.out _ HB1.out).mono ?_); rintro e wx ⟨rfl, rfl⟩; obtain ⟨C0, C1, -⟩ := cells10 (ROWC1.out.more (.cells #[.int .i64 2, .slice none 0 0, .int .i64 0, .int .i64 0, .slice none 0 0, .bool false, .int .i64 0, .int .i64 0, .bool false, .bool false, .int .i64 0, .slice none 0 0, .int .i64 0, .slice none 0 0] 56)))
    | (go_at_call 34; (with_reducible refine (HCAL.out _ (bl_alloc HB1.out _)).mono ?_); rintro e w3 ⟨rfl, hb3⟩; (have HB3 := Lib.hid (bl_step (bl_alloc HB1.out (.cells #[.int .i64 2, .slice none 0 0, .int .i64 0, .int .i64 0, .slice none 0 0, .bool false, .int .i64 0, .int .i64 0, .bool false, .bool false, .int .i64 0, .slice none 0 0, .int .i64 0, .slice none 0 0] 56)) hb3); have ROWZ3 := Lib.hid ((ROWZ1.out.more (.cells #[.int .i64 2, .slice none 0 0, .int .i64 0, .int .i64 0, .slice none 0 0, .bool false, .int .i64 0, .int .i64 0, .bool false, .bool false, .int .i64 0, .slice none 0 0, .int .i64 0, .slice none 0 0] 56)).later hb3); have ROWQ3 := Lib.hid ((Row.made w1 56 #[.int .i64 2, .slice none 0 0, .int .i64 0, .int .i64 0, .slice none 0 0, .bool false, .int .i64 0, .int .i64 0, .bool false, .bool false, .int .i64 0, .slice none 0 0, .int .i64 0, .slice none 0 0]).later hb3); have hq : w.heap.size + 1 < w1.heap.size := ROWZ1.out.inside; clear hb3; generalize w1.heap.size = q at *; have RZ4 := Lib.hid (show Row (((((((w3.setCell ⟨q, 5, none⟩ (.bool false)).setCell ⟨q, 6, none⟩ (.int .i64 0)).setCell ⟨q, 7, none⟩ (.int .i64 0)).setCell ⟨q, 8, none⟩ (.bool false)).setCell ⟨q, 9, none⟩ (.bool false)).setCell ⟨q, 10, none⟩ (.int .i64 0)).setCell ⟨q, 11, none⟩ (.slice none 0 0)) (w.heap.size + 1) 56 #[.int .i64 0, .slice none 0 0, .int .i64 0, .int .i64 0, .slice none 0 0, .bool false, .int .i64 0, .int .i64 0, .bool false, .bool false, .int .i64 0, .slice none 0 0, .int .i64 0, .slice none 0 0] from (((((((ROWZ3.out.elsewhere (p := ⟨q, 5, none⟩) (Nat.ne_of_lt hq) (.bool false)).elsewhere (p := ⟨q, 6, none⟩) (Nat.ne_of_lt hq) (.int .i64 0)).elsewhere (p := ⟨q, 7, none⟩) (Nat.ne_of_lt hq) (.int .i64 0)).elsewhere (p := ⟨q, 8, none⟩) (Nat.ne_of_lt hq) (.bool false)).elsewhere (p := ⟨q, 9, none⟩) (Nat.ne_of_lt hq) (.bool false)).elsewhere (p := ⟨q, 10, none⟩) (Nat.ne_of_lt hq) (.int .i64 0)).elsewhere (p := ⟨q, 11, none⟩) (Nat.ne_of_lt hq) (.slice none 0 0))); have RQ4 := Lib.hid (show Row (((((((w3.setCell ⟨q, 5, none⟩ (.bool false)).setCell ⟨q, 6, none⟩ (.int .i64 0)).setCell ⟨q, 7, none⟩ (.int .i64 0)).setCell ⟨q, 8, none⟩ (.bool false)).setCell ⟨q, 9, none⟩ (.bool false)).setCell ⟨q, 10, none⟩ (.int .i64 0)).setCell ⟨q, 11, none⟩ (.slice none 0 0)) q 56 #[.int .i64 2, .slice none 0 0, .int .i64 0, .int .i64 0, .slice none 0 0, .bool false, .int .i64 0, .int .i64 0, .bool false, .bool false, .int .i64 0, .slice none 0 0, .int .i64 0, .slice none 0 0] from (((((((ROWQ3.out.written 5 (.bool false)).written 6 (.int .i64 0)).written 7 (.int .i64 0)).written 8 (.bool false)).written 9 (.bool false)).written 10 (.int .i64 0)).written 11 (.slice none 0 0))); have HB4 := Lib.hid (show Below w.heap.size w (((((((w3.setCell ⟨q, 5, none⟩ (.bool false)).setCell ⟨q, 6, none⟩ (.int .i64 0)).setCell ⟨q, 7, none⟩ (.int .i64 0)).setCell ⟨q, 8, none⟩ (.bool false)).setCell ⟨q, 9, none⟩ (.bool false)).setCell ⟨q, 10, none⟩ (.int .i64 0)).setCell ⟨q, 11, none⟩ (.slice none 0 0)) from (((((((HB3.out.setCell (p := ⟨q, 5, none⟩) (by show w.heap.size ≤ q; omega) (.bool false)).setCell (p := ⟨q, 6, none⟩) (by show w.heap.size ≤ q; omega) (.int .i64 0)).setCell (p := ⟨q, 7, none⟩) (by show w.heap.size ≤ q; omega) (.int .i64 0)).setCell (p := ⟨q, 8, none⟩) (by show w.heap.size ≤ q; omega) (.bool false)).setCell (p := ⟨q, 9, none⟩) (by show w.heap.size ≤ q; omega) (.bool false)).setCell (p := ⟨q, 10, none⟩) (by show w.heap.size ≤ q; omega) (.int .i64 0)).setCell (p := ⟨q, 11, none⟩) (by show w.heap.size ≤ q; omega) (.slice none 0 0))); obtain ⟨q0, q1, q2, q3, q4, q5, q6, q7, q8, q9, q10, q11, q12, q13⟩ := cells14 ROWQ3.out; obtain ⟨f0, f1, f2, f3, f4, f5, f6, f7, f8, f9, f10, f11, f12, f13⟩ := free14 ROWQ3.out; obtain ⟨r0, r1, r2, r3, r4, r5, r6, r7, r8, r9, r10, r11, r12, r13⟩ := cells14 RQ4.out; obtain ⟨z0, z1, z2, z3, z4, z5, z6, z7, z8, z9, z10, z11, z12, z13⟩ := cells14 RZ4.out; obtain ⟨y0, y1, y2, y3, y4, y5, y6, y7, y8, y9, y10, y11, y12, y13⟩ := free14 RZ4.out)))
  obtain ⟨dd, hdd⟩ := underun_parts
  refine bodyPost_ret (st_results_two rfl _ _ (w.heap.size + 1) 56 #[.int .i64 0, .slice none 0 0, .int .i64 0, .int .i64 0, .slice none 0 0, .bool false, .int .i64 0, .int .i64 0, .bool false, .bool false, .int .i64 0, .slice none 0 0, .int .i64 0, .slice none 0 0] dd rfl (row_set14 RZ4.out) hdd Try.infoun) rfl ?_
  exact ⟨rfl, below_set14 HB4.out (Nat.le_succ _) _ _ _ _ _ _ _ _ _ _ _ _ _ _⟩
end Go.Proofs.Ytfgjlhklioijmaa
namespace Go.Proofs.Ytfgjlhklioijmaa
open Go.RowKit


theorem longest_b (b : Bool) (w : World) : Calls Try.prog 230 #[.bool b] w fun e w' => e = .returned (.int .i64 (if b then 4000 else 2047)) ∧ w = w' := by
  cases b
  · go_enter Try.func230, Try.ntmps230
    go_wp2
    go_ret
    exact ⟨rfl, rfl⟩
  · go_enter Try.func230, Try.ntmps230
    go_wp2
    go_ret
    exact ⟨rfl, rfl⟩

/-- a field's length is added, if it may be -/
def Size1 (n k m ps : Nat) (sz : Int) (w : World) (e : Ending) (w' : World) : Prop :=
  (okAt n k m = true ∧ e = .returned (.bool true) ∧ Row w' ps 3 #[.int .i64 (sz + m)] ∧ Only (fun b => b = ps) w w') ∨ (okAt n k m = false ∧ e = .returned (.bool false) ∧ w = w')
set_option maxRecDepth 100000 in
set_option maxHeartbeats 1600000 in
theorem size1_any {pl ps n cap : Nat} {A Af : Option Addr} {sz : Int} (k m c : Nat) (w : World) (hl : Row w pl 22 #[.slice A n cap]) (hs : Row w ps 3 #[.int .i64 sz]) (hk : k < n) (hn : n ≤ 24) (h0 : 0 ≤ sz) (h1 : sz ≤ 1000000) (hm : m ≤ 9223372036854775807) :
    Calls Try.prog 229 #[.int .i64 k, .slice Af m c, .pointer (some ⟨pl, 0, none⟩), .pointer (some ⟨ps, 0, none⟩)] w (Size1 n k m ps sz w) := by
  have hcl : w.cell? ⟨pl, 0, none⟩ = some (.slice A n cap) := hl.read rfl
  have hcs : w.cell? ⟨ps, 0, none⟩ = some (.int .i64 sz) := hs.read rfl
  have hfs := hs.free 0
  have HROW := Lib.hid (hs.written 0 (.int .i64 (sz + m)))
  have HON := Lib.hid ((Only.refl (fun b => b = ps) w).set (p := ⟨ps, 0, none⟩) (.inl rfl) (.int .i64 (sz + m)))
  clear hs hl
  rcases Nat.eq_zero_or_pos m with hm0 | hm0
  · have HF := Lib.hid (show okAt n k m = false by unfold okAt; rw [decide_eq_false (by omega)]; rfl)
    subst hm0
    go_enter Try.func229, Try.ntmps229
    go_wp2
    go_ret
    exact .inr ⟨HF.out, rfl, rfl⟩
  · have hm1 : ¬ (m : Int) < 1 := by omega
    have hn1 : (1 : Int) ≤ n := by omega
    by_cases hl : k + 1 = n
    · have hb : ((k : Int) == (n : Int) - 1) = true := by simp; omega
      rcases Nat.lt_or_ge 4000 m with h4 | h4
      · have HF := Lib.hid (show okAt n k m = false by unfold okAt; rw [if_pos hl, decide_eq_false (show ¬ m ≤ 4000 by omega)]; simp)
        have h4' : (4000 : Int) < m := by omega
        clear hl
        go_enter Try.func229, Try.ntmps229
        go_wp2_with (go_at_call 230; refine (longest_b true _).mono ?_; rintro e w1 ⟨rfl, rfl⟩)
        go_ret
        exact .inr ⟨HF.out, rfl, rfl⟩
      · have HF := Lib.hid (show okAt n k m = true by unfold okAt; rw [if_pos hl, decide_eq_true h4, decide_eq_true (show 1 ≤ m by omega)]; rfl)
        have h4' : ¬ (4000 : Int) < m := by omega
        clear hl
        go_enter Try.func229, Try.ntmps229
        go_wp2_with (go_at_call 230; refine (longest_b true _).mono ?_; rintro e w1 ⟨rfl, rfl⟩)
        go_ret
        exact .inl ⟨HF.out, rfl, HROW.out, HON.out⟩
    · have hb : ((k : Int) == (n : Int) - 1) = false := by simp; omega
      rcases Nat.lt_or_ge 2047 m with h4 | h4
      · have HF := Lib.hid (show okAt n k m = false by unfold okAt; rw [if_neg hl, decide_eq_false (show ¬ m ≤ 2047 by omega)]; simp)
        have h4' : (2047 : Int) < m := by omega
        clear hl
        go_enter Try.func229, Try.ntmps229
        go_wp2_with (go_at_call 230; refine (longest_b false _).mono ?_; rintro e w1 ⟨rfl, rfl⟩)
        go_ret
        exact .inr ⟨HF.out, rfl, rfl⟩
      · have HF := Lib.hid (show okAt n k m = true by unfold okAt; rw [if_neg hl, decide_eq_true h4, decide_eq_true (show 1 ≤ m by omega)]; rfl)
        have h4' : ¬ (2047 : Int) < m := by omega
        clear hl
        go_enter Try.func229, Try.ntmps229
        go_wp2_with (go_at_call 230; refine (longest_b false _).mono ?_; rintro e w1 ⟨rfl, rfl⟩)
        go_ret
        exact .inl ⟨HF.out, rfl, HROW.out, HON.out⟩

/-- .. while fields are gone through -/
structure SizeInv (B pl ps n cap : Nat) (A : Option Addr) (sz : Int) (ls : List Nat) (w : World) (k : Nat) (w' : World) : Prop where
  box : Row w' pl 22 #[.slice A n cap]
  sum : Row w' ps 3 #[.int .i64 (sz + sumTo ls k)]
  ok : okTo ls k = true
  below : Below B w w'
theorem only_below {B : Nat} {w w' : World} {p : Nat} (h : Only (fun b => b = p) w w') (hp : B ≤ p) (hB : B ≤ w.heap.size) : Below B w w' := h.below hB (fun k hk hk' => by omega)
theorem each_size {A : Option Addr} {L : List RowB} {B pl ps n cap : Nat} {sz : Int} (w : World) (hL : L.length = n) (hn : n ≤ 24) (hs : ∀ W, Below B w W → RSrc W A L) (hm : ∀ m ∈ lens L, m ≤ 9223372036854775807) (hz0 : 0 ≤ sz) (hz1 : sz ≤ 46)
    (hB : B ≤ w.heap.size) (hps : B ≤ ps) (hne : ps ≠ pl) (h1 : Row w pl 22 #[.slice A n cap]) (h2 : Row w ps 3 #[.int .i64 sz]) :
    Calls Try.prog 228 #[.slice A n cap, .func (.func 229) #[] #[.pointer (some ⟨pl, 0, none⟩), .pointer (some ⟨ps, 0, none⟩)]] w fun e w' =>
      (e = .returned (.bool true) ∧ SizeInv B pl ps n cap A sz (lens L) w n w') ∨ (e = .returned (.bool false) ∧ okTo (lens L) n = false ∧ Below B w w') := by
  have hll : (lens L).length = n := by rw [length_lens, hL]
  refine each_any (K := 229) (caps := #[.pointer (some ⟨pl, 0, none⟩), .pointer (some ⟨ps, 0, none⟩)]) n cap (fun a W => enters Try.func229 (by kernel_rfl) rfl a W)
        (SizeInv B pl ps n cap A sz (lens L) w) (fun W' => okTo (lens L) n = false ∧ Below B w W') w hL (by omega)
        ⟨h1, by rw [sumTo_zero]; simpa using h2, okTo_zero _, Below.refl _ _⟩ (fun k W' hi => hs W' hi.below)
        (fun k W' r hr hi => ?_)
  have hk : k < n := by rw [← hL]; exact (List.getElem?_eq_some_iff.1 hr).1
  have hm9 : r.bs.length ≤ 9223372036854775807 := hm _ (List.mem_of_getElem? (lens_at hr))
  have hst := sumTo_bound hi.ok (by rw [hll]; omega)
  have hB' : B ≤ W'.heap.size := Nat.le_trans hB hi.below.size
  refine (size1_any (Af := r.A) (c := r.cap) k r.bs.length W' hi.box hi.sum hk hn (by omega) (by omega) hm9).mono ?_
  rintro e W2 (⟨g1, rfl, g2, g3⟩ | ⟨g1, rfl, rfl⟩)
  · refine .inl ⟨rfl, hi.box.only g3 (fun h => hne h.symm), ?_, ?_, hi.below.trans (only_below g3 hps hB')⟩
    · rw [sumTo_succ (lens_at hr)]
      have e9 : sz + ((sumTo (lens L) k + r.bs.length : Nat) : Int) = sz + (sumTo (lens L) k : Int) + (r.bs.length : Int) := by omega
      rw [e9]
      exact g2
    · rw [okTo_at (lens_at hr) hi.ok, hll, g1]
  · refine .inr ⟨rfl, ?_, hi.below⟩
    refine okTo_later (k := k + 1) ?_ (by omega)
    rw [okTo_at (lens_at hr) hi.ok, hll, g1]

set_option maxRecDepth 100000 in
set_option maxHeartbeats 1600000 in
theorem fsize_any {A : Option Addr} {L : List RowB} (n cap : Nat) (wd : Int) (w : World) (hL : L.length = n) (hn : n ≤ 9223372036854775807) (hs : RSrc w A L) (hm : ∀ m ∈ lens L, m ≤ 9223372036854775807) :
    Calls Try.prog 137 #[.slice A n cap, .int .i64 wd] w fun e w' => e = .returned (.int .i64 (szF (lens L) wd)) ∧ Below w.heap.size w w' := by
  have hll : (lens L).length = n := by rw [length_lens, hL]
  rcases Nat.eq_zero_or_pos n with h0 | h0
  · have HF := Lib.hid (show szF (lens L) wd = 0 by unfold szF; rw [if_neg (by omega)])
    subst h0
    clear hL hll hs hm
    go_enter Try.func137, Try.ntmps137
    go_wp2
    go_ret
    exact ⟨by rw [HF.out]; rfl, bl_alloc (Below.refl _ _) _⟩
  · have h0' : ¬ (n : Int) < 1 := by omega
    rcases Nat.lt_or_ge 24 n with h1 | h1
    · have HF := Lib.hid (show szF (lens L) wd = 0 by unfold szF; rw [if_neg (by omega)])
      have h1' : (24 : Int) < n := by omega
      clear hL hll hs hm
      go_enter Try.func137, Try.ntmps137
      go_wp2
      go_ret
      exact ⟨by rw [HF.out]; rfl, bl_alloc (Below.refl _ _) _⟩
    · have h1' : ¬ (24 : Int) < n := by omega
      have HF := Lib.hid (show szF (lens L) wd = if okTo (lens L) n = true then sizeF ((n : Int) - 1) wd + (lens L).sum else 0 by
        unfold szF
        rw [hll]
        by_cases h9 : okTo (lens L) n = true
        · rw [if_pos ⟨by omega, by omega, h9⟩, if_pos h9]
        · rw [if_neg (fun h => h9 h.2.2), if_neg h9])
      have HZ := Lib.hid (fun W => size_any ((n : Int) - 1) wd W)
      have hz := sizeF_nonneg ((n : Int) - 1) wd
      generalize sizeF ((n : Int) - 1) wd = sz at *
      obtain ⟨hz0, hz1⟩ := hz
      have HSUM := Lib.hid (show sumTo (lens L) n = (lens L).sum by rw [← hll]; exact sumTo_all _)
      have HE := Lib.hid (fun W hb (x1 : Row W w.heap.size 22 #[.slice A n cap]) x2 => each_size (B := w.heap.size) (pl := w.heap.size) (ps := w.heap.size + 1) (cap := cap) (sz := sz) W hL h1 (fun W' hb' => hs.later (Below.trans hb hb')) hm hz0 hz1 (Below.size hb) (by omega) (by omega) x1 x2)
      clear hL hll hs hm
      go_enter Try.func137, Try.ntmps137
      go_wp2_with (first
        | (go_at_call 187; refine (HZ.out _).mono ?_; rintro e w1 ⟨rfl, rfl⟩)
        | (go_at_call 228; refine (HE.out _ ?b ?x1 ?x2).mono ?_; rotate_left 3; rintro e w2 (⟨rfl, hi⟩ | ⟨rfl, hi, hb⟩); (have hc := hi.sum.read (i := 0) rfl; have HI := Lib.hid hi; clear hi); rotate_left 1; (have HI := Lib.hid hi; have HB := Lib.hid hb; clear hi hb); rotate_left 1))
      case b => exact bl_alloc (bl_alloc (Below.refl _ _) _) _
      case x1 => exact (Row.made _ _ _).more _
      case x2 => exact (by simpa using Row.made (w.alloc (.cells #[.slice A n cap] 22)) 3 #[.int .i64 sz])
      · go_ret
        refine ⟨?_, (bl_alloc (bl_alloc (Below.refl _ _) _) _).trans HI.out.below⟩
        rw [HF.out, if_pos HI.out.ok, ← HSUM.out]
        rfl
      · go_ret
        refine ⟨?_, (bl_alloc (bl_alloc (Below.refl _ _) _) _).trans HB.out⟩
        rw [HF.out, if_neg (by rw [HI.out]; decide)]
        rfl

theorem conv_src {w : World} {A : Option Addr} {l : List Nat} (n c : Nat) (hl : l.length = n) (h : Src w A (bts l)) (hb : ∀ b ∈ l, b < 256) : (convert 30 9 (.slice A n c)).run Try.prog w = .ok (.string (strOf l)) w := by
  subst hl
  cases A with
  | none =>
    have hl : l.length = 0 := by
      rcases Nat.eq_zero_or_pos l.length with h0 | h0
      · exact h0
      · obtain ⟨ad, h1, _⟩ := h (by rw [length_bts]; exact h0)
        cases h1
    have e : l = [] := List.eq_nil_of_length_eq_zero hl
    subst e
    exact run_convert_bytes_nil w 30 5 Try.underlying30 Try.underlying5 0 c 9 Try.underlying9
  | some ad =>
    have hx := run_convert_bytes_back (P := Try.prog) w 30 9 5 ad c (l.map UInt8.ofNat) Try.underlying30 Try.underlying5 Try.underlying9 (fun j hj => by
      have hj' : j < l.length := by simpa using hj
      have h1 : (bts l)[j]? = some (.int .u8 (l[j] : Nat)) := bts_at (List.getElem?_eq_getElem hj')
      obtain ⟨ad', h2, h3⟩ := h (by rw [length_bts]; omega)
      injection h2 with h2
      subst h2
      rw [h3 j _ h1, List.getElem_map]
      have h4 : (UInt8.ofNat l[j]).toNat = l[j] := UInt8.toNat_ofNat_of_lt' (hb _ (List.getElem_mem hj'))
      rw [h4])
    rw [List.length_map] at hx
    exact hx
theorem strOf_inj {a b : List Nat} (ha : ∀ x ∈ a, x < 256) (hb : ∀ x ∈ b, x < 256) (h : strOf a = strOf b) : a = b := by
  unfold strOf at h
  injection h with h
  have h1 : a.map UInt8.ofNat = b.map UInt8.ofNat := by
    have := congrArg Array.toList h
    simpa using this
  have h2 := congrArg (List.map UInt8.toNat) h1
  rw [List.map_map, List.map_map] at h2
  have e : ∀ l : List Nat, (∀ x ∈ l, x < 256) → l.map (UInt8.toNat ∘ UInt8.ofNat) = l := fun l hl => by
    have : l.map (UInt8.toNat ∘ UInt8.ofNat) = l.map id := List.map_congr_left fun x hx => UInt8.toNat_ofNat_of_lt' (hl x hx)
    rw [this, List.map_id]
  rw [e a ha, e b hb] at h2
  exact h2
theorem strOf_list (a : List Nat) : (strOf a).toList = a.map UInt8.ofNat := ByteArray.toList_mk _
theorem strOf_beq {a b : List Nat} (ha : ∀ x ∈ a, x < 256) (hb : ∀ x ∈ b, x < 256) : ((strOf a).toList == (strOf b).toList) = decide (a = b) := by
  rw [Bool.eq_iff_iff, decide_eq_true_iff, beq_iff_eq]
  refine ⟨fun h => strOf_inj ha hb ?_, fun h => by rw [h]⟩
  rw [strOf_list, strOf_list] at h
  unfold strOf
  rw [h]
set_option maxHeartbeats 400000 in
theorem equal_any {A B : Option Addr} {a b : List Nat} (n m c d : Nat) (w : World) (hn : a.length = n) (hm : b.length = m) (hA : Src w A (bts a)) (hB : Src w B (bts b)) (ha : ∀ x ∈ a, x < 256) (hb : ∀ x ∈ b, x < 256) :
    Calls Try.prog 233 #[.slice A n c, .slice B m d] w fun e w' => e = .returned (.bool (decide (a = b))) ∧ w = w' := by
  have c1 := conv_src n c hn hA ha
  have c2 := conv_src m d hm hB hb
  have HQ := Lib.hid (strOf_beq ha hb)
  clear hn hm hA hB ha hb
  go_enter Try.func233, Try.ntmps233
  go_wp2
  go_ret
  exact ⟨ret_bool HQ.out, rfl⟩

set_option maxHeartbeats 400000 in
theorem same1_any {pb nb capb : Nat} {ad : Addr} {r r' : RowB} (k : Nat) (w : World) (hp : Row w pb 22 #[.slice (some ad) nb capb]) (hc : w.cell? (ad.add k) = some r'.v) (hr : r.ok w) (hr' : r'.ok w) (hk : k < nb) :
    Calls Try.prog 232 #[.int .i64 k, .slice r.A r.bs.length r.cap, .pointer (some ⟨pb, 0, none⟩)] w fun e w' => e = .returned (.bool (decide (r.bs = r'.bs))) ∧ w = w' := by
  have hcb : w.cell? ⟨pb, 0, none⟩ = some (.slice (some ad) nb capb) := hp.read rfl
  have hc' : w.cell? (ad.add k) = some (.slice r'.A r'.bs.length r'.cap) := hc
  have HE := Lib.hid (equal_any r.bs.length r'.bs.length r.cap r'.cap w rfl rfl hr.1 hr'.1 hr.2.2.2 hr'.2.2.2)
  clear hp hc hr hr'
  generalize decide (r.bs = r'.bs) = q at *
  generalize r.bs.length = n1 at *
  generalize r'.bs.length = n2 at *
  go_enter Try.func232, Try.ntmps232
  go_wp2_with (go_at_call 233; refine HE.out.mono ?_; rintro e w1 ⟨rfl, rfl⟩)
  go_ret
  exact ⟨rfl, rfl⟩

/-- fields are the same so far -/
def sameTo (a b : List (List Nat)) (k : Nat) : Prop := ∀ j, j < k → a[j]? = b[j]?
theorem texts_at {L : List RowB} {k : Nat} {r : RowB} (h : L[k]? = some r) : (texts L)[k]? = some r.bs := by simp [texts, h]
theorem length_texts (L : List RowB) : (texts L).length = L.length := by simp [texts]
theorem sameTo_all {a b : List (List Nat)} (hl : a.length = b.length) (h : sameTo a b a.length) : a = b := by
  apply List.ext_getElem?
  intro j
  rcases Nat.lt_or_ge j a.length with h1 | h1
  · exact h j h1
  · rw [List.getElem?_eq_none h1, List.getElem?_eq_none (by omega)]
theorem ret_b {a b : Bool} (h : a = b) : Ending.returned (.bool a) = .returned (.bool b) := by rw [h]
theorem each_same {A B : Option Addr} {L M : List RowB} {pb n cap capb : Nat} (w : World) (hL : L.length = n) (hM : M.length = n) (hn : n ≤ 9223372036854775807) (hs : RSrc w A L) (hs' : RSrc w B M) (hp : Row w pb 22 #[.slice B n capb]) :
    Calls Try.prog 228 #[.slice A n cap, .func (.func 232) #[] #[.pointer (some ⟨pb, 0, none⟩)]] w fun e w' => e = .returned (.bool (decide (texts L = texts M))) ∧ w = w' := by
  refine (each_any (K := 232) (caps := #[.pointer (some ⟨pb, 0, none⟩)]) n cap (fun a W => enters Try.func232 (by kernel_rfl) rfl a W) (fun k W => sameTo (texts L) (texts M) k ∧ w = W) (fun W => texts L ≠ texts M ∧ w = W) w hL hn
    ⟨fun j hj => by omega, rfl⟩ (fun k W h => by rw [← h.2]; exact hs) (fun k W r hr h => ?_)).mono ?_
  · obtain ⟨h1, rfl⟩ := h
    have hk : k < n := by rw [← hL]; exact (List.getElem?_eq_some_iff.1 hr).1
    obtain ⟨ad, rfl, hc⟩ := hs' (by omega)
    obtain ⟨r', hr'⟩ : ∃ r', M[k]? = some r' := ⟨_, List.getElem?_eq_getElem (by omega)⟩
    obtain ⟨ad2, _, hc2⟩ := hs (by omega)
    refine (same1_any k w hp (hc k r' hr').1 (hc2 k r hr).2 (hc k r' hr').2 hk).mono ?_
    rintro e W2 ⟨rfl, rfl⟩
    by_cases he : r.bs = r'.bs
    · refine .inl ⟨ret_b (decide_eq_true he), fun j hj => ?_, rfl⟩
      rcases Nat.lt_or_ge j k with h2 | h2
      · exact h1 j h2
      · obtain rfl : j = k := by omega
        rw [texts_at hr, texts_at hr', he]
    · refine .inr ⟨ret_b (decide_eq_false he), fun h2 => he ?_, rfl⟩
      have h3 := texts_at hr
      rw [h2, texts_at hr'] at h3
      injection h3 with h3
      exact h3.symm
  · rintro e W (⟨rfl, h, rfl⟩ | ⟨rfl, h, rfl⟩)
    · exact ⟨ret_b (decide_eq_true (sameTo_all (by rw [length_texts, length_texts, hL, hM]) (by rw [length_texts, hL]; exact h))).symm, rfl⟩
    · exact ⟨ret_b (decide_eq_false h).symm, rfl⟩
set_option maxRecDepth 100000 in
set_option maxHeartbeats 400000 in
theorem fsame_any {A B : Option Addr} {L M : List RowB} (n m cap capb : Nat) (w : World) (hL : L.length = n) (hM : M.length = m) (hn : n ≤ 9223372036854775807) (hs : RSrc w A L) (hs' : RSrc w B M) :
    Calls Try.prog 140 #[.slice A n cap, .slice B m capb] w fun e w' => e = .returned (.bool (decide (texts L = texts M))) ∧ Below w.heap.size w w' := by
  by_cases h : n = m
  · subst h
    have HE := Lib.hid (fun W (hb : Below w.heap.size w W) (x : Row W w.heap.size 22 #[.slice B n capb]) => each_same (cap := cap) W hL hM hn (hs.later hb) (hs'.later hb) x)
    clear hL hM hs hs'
    generalize decide (texts L = texts M) = q at *
    have hnn : ((n : Int) == (n : Int)) = true := by simp
    go_enter Try.func140, Try.ntmps140
    go_wp2_with (go_at_call 228; refine (HE.out _ (bl_alloc (Below.refl _ _) _) (Row.made _ _ _)).mono ?_; rintro e w2 ⟨rfl, rfl⟩)
    go_ret
    exact ⟨rfl, bl_alloc (Below.refl _ _) _⟩
  · have HF := Lib.hid (show decide (texts L = texts M) = false from decide_eq_false fun h1 => h (by have := congrArg List.length h1; rw [length_texts, length_texts] at this; omega))
    have hnm : ((n : Int) == (m : Int)) = false := by simp; omega
    clear hL hM hs hs' h
    go_enter Try.func140, Try.ntmps140
    go_wp2
    go_ret
    exact ⟨by rw [HF.out]; rfl, bl_alloc (Below.refl _ _) _⟩
end Go.Proofs.Ytfgjlhklioijmaa
namespace Go.Proofs.Ytfgjlhklioijmaa
open Go.RowKit

theorem eqMs_refl (L : List MissM) : eqMs L L = true := by
  induction L with
  | nil => rfl
  | cons m t ih => simp [eqMs, ih, (eqM_iff m m).2 rfl]
theorem sread_yes {A : Option Addr} {bs : List Nat} {M : List MissM} {a : Int} (x n cap : Nat) (w : World) (hn : bs.length = n) (hm : n ≤ 8192) (hc : n ≤ cap) (hs : Src w A (bts bs)) (hb : ∀ b ∈ bs, b < 256) (h : stRd bs x = (0, a, M)) :
    Calls Try.prog 156 #[.slice A n cap, .int .i64 x] w fun e w' => ∃ A' c, e = .returned (.tuple #[.agg #[.int .i64 a, .slice A' M.length c], .int .i64 0]) ∧ M.length ≤ c ∧ c ≤ 9223372036854775807 ∧ MSrc w' A' M ∧ Below w.heap.size w w' := by
  refine (sread_any x n cap w hn hm hc hs hb).mono ?_
  rintro e w' ⟨h1, h2, _⟩
  rw [h] at h2
  obtain ⟨A', c, e1, e2, e3, e4⟩ := h2 rfl
  exact ⟨A', c, e1, e2, e3, e4, h1⟩
theorem sread_err {A : Option Addr} {bs : List Nat} {M : List MissM} {a c : Int} (x n cap : Nat) (w : World) (hn : bs.length = n) (hm : n ≤ 8192) (hc : n ≤ cap) (hs : Src w A (bts bs)) (hb : ∀ b ∈ bs, b < 256) (h : stRd bs x = (c, a, M)) (h0 : c ≠ 0) :
    Calls Try.prog 156 #[.slice A n cap, .int .i64 x] w fun e w' => e = .returned (.tuple #[.agg #[.int .i64 0, .slice none 0 0], .int .i64 c]) ∧ Below w.heap.size w w' := by
  refine (sread_any x n cap w hn hm hc hs hb).mono ?_
  rintro e w' ⟨h1, _, h3⟩
  rw [h] at h3
  exact ⟨h3 h0, h1⟩
theorem swrite_zero (x : Nat) (w : World) (hk : okS (x : Int) = true) : Calls Try.prog 243 #[.agg #[.int .i64 0, .slice none 0 0], .int .i64 x] w fun e w' => ∃ g n, e = .returned (.tuple #[.slice (some ⟨g, 0, none⟩) n n, .int .i64 0]) ∧ Below w.heap.size w w' := by
  have hr0 : rightB ((0 : Nat) : Int) [] x = true := by
    rcases okS_nat hk with h | h
    · obtain rfl : x = 10 := by omega
      decide +kernel
    · obtain rfl : x = 16 := by omega
      decide +kernel
  refine (stwrite_ok (A := none) (L := []) 0 x 0 0 w rfl (fun h => absurd h (by decide)) hr0).mono ?_
  rintro e w' ⟨g, rfl, _, _, hb⟩
  exact ⟨g, _, rfl, hb⟩
theorem cells2x {w : World} {g : Nat} {t : TypeId} {a b : Value} (hr : Row w g t #[a, b]) : w.cell? ⟨g, 0, none⟩ = some a ∧ w.cell? ⟨g, 1, none⟩ = some b := ⟨hr.read rfl, hr.read rfl⟩
set_option maxRecDepth 100000 in
set_option maxHeartbeats 1600000 in
theorem sread_kind {A : Option Addr} (x : Int) (n cap : Nat) (w : World) (h : okS x = false) :
    Calls Try.prog 156 #[.slice A n cap, .int .i64 x] w fun e w' => e = .returned (.tuple #[.agg #[.int .i64 0, .slice none 0 0], .int .i64 9]) ∧ Below w.heap.size w w' := by
  have HM := Lib.hid (fun W => smay_any x W)
  rw [h] at HM
  have HF : Calls Try.prog 245 #[.slice A n cap, .int .i64 x] (w.alloc (.cells #[.int .i64 0, .slice none 0 0] 54)) fun e w' => e = .returned (.int .i64 9) ∧ w.alloc (.cells #[.int .i64 0, .slice none 0 0] 54) = w' := by
    generalize w.alloc (.cells #[.int .i64 0, .slice none 0 0] 54) = W
    clear h
    go_enter Try.func245, Try.ntmps245
    go_wp2_with (go_at_call 283; refine (HM.out _).mono ?_; rintro e w1 ⟨rfl, rfl⟩)
    go_ret
    exact ⟨rfl, rfl⟩
  have HFH := Lib.hid HF
  have ROW := Lib.hid (Row.made w 54 #[.int .i64 0, .slice none 0 0])
  obtain ⟨⟨c0, c1⟩, f0, f1⟩ := cells2 ROW.out
  clear h HF
  go_enter Try.func156, Try.ntmps156
  go_wp2
  refine st_scope_through 0 (fun _ _ => False) (fun _ _ => 0) rfl (fun _ => ?_) (fun _ _ h => h.elim)
  go_wp2_with (go_at_call 245; (with_reducible refine HFH.out.mono ?_); rintro e w1 ⟨rfl, rfl⟩)
  simp only [Exit.jump]
  obtain ⟨dd, hdd⟩ := understat_parts
  refine bodyPost_ret (st_results_two rfl _ _ w.heap.size 54 #[.int .i64 0, .slice none 0 0] dd rfl ROW.out hdd Try.infostat) rfl ?_
  exact ⟨rfl, bl_alloc (Below.refl _ _) _⟩
end Go.Proofs.Ytfgjlhklioijmaa
