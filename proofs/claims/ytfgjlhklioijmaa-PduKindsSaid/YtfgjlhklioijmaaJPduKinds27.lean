/-
  pdu: what bytes are: a text. pdu: what bytes are: a packet of umd. pdu: what bytes are: a status, a packet of amd. pdu: what bytes are: a packet of amd. pdu: bytes are read: a packet of umd. Fields go there and back: plain lists.
-/
import Derived.Test.YtfgjlhklioijmaaJPduKinds26
import Derived.Test.YtfgjlhklioijmaaJPduKinds13
import Derived.Test.YtfgjlhklioijmaaJPduKinds16
namespace Go.Proofs.Ytfgjlhklioijmaa
open Go.RowKit

theorem pre_src {W : World} {g : Nat} {cs : Array Value} {bs : List Nat} (hr : Row W g 5 cs) (hp : Pre bs cs) : Src W (some ⟨g, 0, none⟩) (bts bs) := by
  intro _
  refine ⟨_, rfl, fun j u hj => ?_⟩
  obtain ⟨b, hb, rfl⟩ : ∃ b, bs[j]? = some b ∧ u = .int .u8 b := by
    unfold bts at hj
    rw [List.getElem?_map] at hj
    obtain ⟨b, hb, e⟩ := Option.map_eq_some_iff.1 hj
    exact ⟨b, hb, e.symm⟩
  have := hr.read (hp j b hb)
  by_cases h0 : j = 0
  · subst h0
    simpa [Addr.add] using this
  · simpa [Addr.add, h0] using this
set_option maxRecDepth 100000 in
set_option maxHeartbeats 6400000 in
theorem pk_tm {A : Option Addr} {bs : List Nat} (bits win reo prx pro ppd pby mrx qb : Int) (n cap : Nat) (w : World) (h : n ≤ 4100) (hck : checkF ⟨0, bits, win, reo, prx, pro, ppd, pby, mrx, qb⟩ = 0) (hn : bs.length = n) (hs : Src w A (bts bs)) (hb : ∀ b ∈ bs, b < 256)
    (hrd : ∀ W, Below w.heap.size w W → Calls Try.prog 37 #[.agg #[.int .i64 0, .int .i64 bits, .int .i64 win, .int .i64 reo, .int .i64 prx, .int .i64 pro, .int .i64 ppd, .int .i64 pby, .int .i64 mrx, .int .i64 qb], .slice A n cap] W fun e w' => ∃ (g : Nat) (cs : Array Value), e = .returned (.tuple #[.agg #[.int .i64 0, .slice (some ⟨g, 0, none⟩) n n, .int .i64 0, .int .i64 0, .slice none 0 0, .bool false, .int .i64 0, .int .i64 0, .bool false, .bool false, .int .i64 0, .slice none 0 0, .int .i64 0, .slice none 0 0], .int .i64 0]) ∧ Row w' g 5 cs ∧ Pre bs cs ∧ Below W.heap.size W w') : Calls Try.prog 5 #[.agg #[.int .i64 0, .int .i64 bits, .int .i64 win, .int .i64 reo, .int .i64 prx, .int .i64 pro, .int .i64 ppd, .int .i64 pby, .int .i64 mrx, .int .i64 qb], .slice A n cap] w fun e w' => e = .returned (.bool true) ∧ Below w.heap.size w w' := by
  have ROW := Lib.hid (Row.made w 49 #[.int .i64 0, .int .i64 bits, .int .i64 win, .int .i64 reo, .int .i64 prx, .int .i64 pro, .int .i64 ppd, .int .i64 pby, .int .i64 mrx, .int .i64 qb])
  have HB0 := Lib.hid (bl_alloc (Below.refl w.heap.size w) (.cells #[.int .i64 0, .int .i64 bits, .int .i64 win, .int .i64 reo, .int .i64 prx, .int .i64 pro, .int .i64 ppd, .int .i64 pby, .int .i64 mrx, .int .i64 qb] 49))
  have HRD := Lib.hid hrd
  have HCA := Lib.hid (fun W (hw : Below w.heap.size w W) => conv_src n cap hn (st_src_later hs hw) hb)
  have HCG := Lib.hid (fun W (g : Nat) (cs : Array Value) (hp : Pre bs cs) (hr : Row W g 5 cs) => conv_src (w := W) (A := some ⟨g, 0, none⟩) n n hn (pre_src hr hp) hb)
  clear hrd hs hb hn
  have g1 : decide ((4100 : Int) < n) = false := decide_eq_false (by omega)
  have g2 : decide (4100 < n) = false := decide_eq_false (by omega)
  clear h
  have HCK := Lib.hid (fun W => pcheck_any ⟨0, bits, win, reo, prx, pro, ppd, pby, mrx, qb⟩ W)
  rw [hck] at HCK
  unfold Cf.a at HCK
  clear hck
  obtain ⟨c0, c1, c2, c3, c4, c5, c6, c7, c8, c9⟩ := cells10 ROW.out
  go_enter Try.func5, Try.ntmps5
  go_wp2_with (first
    | (go_at_call 37; (with_reducible refine (HRD.out _ HB0.out).mono ?_); rintro e w2 ⟨g, cs, rfl, hr0, hp0, hb1⟩; (have HB1 := Lib.hid (bl_step HB0.out hb1); have ROWC1 := Lib.hid (ROW.out.later hb1); have HP := Lib.hid hp0; have RG := Lib.hid hr0; clear hr0 hp0; clear hb1 c0 c1 c2 c3 c4 c5 c6 c7 c8 c9; have RG1 := Lib.hid (RG.out.more (.cells #[.int .i64 0, .slice (some ⟨g, 0, none⟩) n n, .int .i64 0, .int .i64 0, .slice none 0 0, .bool false, .int .i64 0, .int .i64 0, .bool false, .bool false, .int .i64 0, .slice none 0 0, .int .i64 0, .slice none 0 0] 56)); have RU := Lib.hid (Row.made w2 56 #[.int .i64 0, .slice (some ⟨g, 0, none⟩) n n, .int .i64 0, .int .i64 0, .slice none 0 0, .bool false, .int .i64 0, .int .i64 0, .bool false, .bool false, .int .i64 0, .slice none 0 0, .int .i64 0, .slice none 0 0]); have BU := Lib.hid (bl_alloc HB1.out (.cells #[.int .i64 0, .slice (some ⟨g, 0, none⟩) n n, .int .i64 0, .int .i64 0, .slice none 0 0, .bool false, .int .i64 0, .int .i64 0, .bool false, .bool false, .int .i64 0, .slice none 0 0, .int .i64 0, .slice none 0 0] 56)); have RC := Lib.hid (ROWC1.out.more (.cells #[.int .i64 0, .slice (some ⟨g, 0, none⟩) n n, .int .i64 0, .int .i64 0, .slice none 0 0, .bool false, .int .i64 0, .int .i64 0, .bool false, .bool false, .int .i64 0, .slice none 0 0, .int .i64 0, .slice none 0 0] 56)); obtain ⟨c0, c1, c2, c3, c4, c5, c6, c7, c8, c9⟩ := cells10 RC.out))
    | (go_at_call 38; (with_reducible refine (HCK.out _).mono ?_); rintro e w3 ⟨rfl, hb3⟩; (have B3 := Lib.hid (bl_step BU.out hb3); have RC3 := Lib.hid (RC.out.later hb3); have RU3 := Lib.hid (RU.out.later hb3); have RG3 := Lib.hid (RG1.out.later hb3); clear hb3 c0 c1 c2 c3 c4 c5 c6 c7 c8 c9; obtain ⟨c0, c1, c2, c3, c4, c5, c6, c7, c8, c9⟩ := cells10 RC3.out; obtain ⟨u0, u1, u2, u3, u4, u5, u6, u7, u8, u9, u10, u11, u12, u13⟩ := cells14 RU3.out))
    | (go_at_call 36; (with_reducible refine (palive_any _).mono ?_); rintro e w4 ⟨rfl, hb4⟩; (have B4 := Lib.hid (bl_step B3.out hb4); have RC4 := Lib.hid (RC3.out.later hb4); have RU4 := Lib.hid (RU3.out.later hb4); have k1 := HCG.out w4 g cs HP.out (RG3.out.later hb4); have k2 := HCA.out w4 B4.out; clear hb4 c0 c1 c2 c3 c4 c5 c6 c7 c8 c9 u0 u1 u2 u3 u4 u5 u6 u7 u8 u9 u10 u11 u12 u13; obtain ⟨c0, c1, c2, c3, c4, c5, c6, c7, c8, c9⟩ := cells10 RC4.out; obtain ⟨u0, u1, u2, u3, u4, u5, u6, u7, u8, u9, u10, u11, u12, u13⟩ := cells14 RU4.out)))
  go_ret
  exact ⟨ret_bool (by simp), B4.out⟩
end Go.Proofs.Ytfgjlhklioijmaa
namespace Go.Proofs.Ytfgjlhklioijmaa
open Go.RowKit

set_option maxRecDepth 100000 in
set_option maxHeartbeats 6400000 in
theorem pk_um {A : Option Addr} (bits win reo prx pro ppd pby mrx qb : Int) (n cap : Nat) (w : World) (h : n ≤ 4100) (hck : checkF ⟨1, bits, win, reo, prx, pro, ppd, pby, mrx, qb⟩ = 0)
    (hrd : ∀ W, Below w.heap.size w W → Calls Try.prog 37 #[.agg #[.int .i64 1, .int .i64 bits, .int .i64 win, .int .i64 reo, .int .i64 prx, .int .i64 pro, .int .i64 ppd, .int .i64 pby, .int .i64 mrx, .int .i64 qb], .slice A n cap] W fun e w' => ∃ (fi' sn' : Int) (A' : Option Addr) (n' c' : Nat), 0 < n' ∧ e = .returned (.tuple #[.agg #[.int .i64 1, .slice none 0 0, .int .i64 fi', .int .i64 sn', .slice A' n' c', .bool false, .int .i64 0, .int .i64 0, .bool false, .bool false, .int .i64 0, .slice none 0 0, .int .i64 0, .slice none 0 0], .int .i64 0]) ∧ Below W.heap.size W w') : Calls Try.prog 5 #[.agg #[.int .i64 1, .int .i64 bits, .int .i64 win, .int .i64 reo, .int .i64 prx, .int .i64 pro, .int .i64 ppd, .int .i64 pby, .int .i64 mrx, .int .i64 qb], .slice A n cap] w fun e w' => e = .returned (.bool true) ∧ Below w.heap.size w w' := by
  have ROW := Lib.hid (Row.made w 49 #[.int .i64 1, .int .i64 bits, .int .i64 win, .int .i64 reo, .int .i64 prx, .int .i64 pro, .int .i64 ppd, .int .i64 pby, .int .i64 mrx, .int .i64 qb])
  have HB0 := Lib.hid (bl_alloc (Below.refl w.heap.size w) (.cells #[.int .i64 1, .int .i64 bits, .int .i64 win, .int .i64 reo, .int .i64 prx, .int .i64 pro, .int .i64 ppd, .int .i64 pby, .int .i64 mrx, .int .i64 qb] 49))
  have HRD := Lib.hid hrd
  clear hrd
  have g1 : decide ((4100 : Int) < n) = false := decide_eq_false (by omega)
  have g2 : decide (4100 < n) = false := decide_eq_false (by omega)
  clear h
  have HCK := Lib.hid (fun W => pcheck_any ⟨1, bits, win, reo, prx, pro, ppd, pby, mrx, qb⟩ W)
  rw [hck] at HCK
  unfold Cf.a at HCK
  clear hck
  obtain ⟨c0, c1, c2, c3, c4, c5, c6, c7, c8, c9⟩ := cells10 ROW.out
  go_enter Try.func5, Try.ntmps5
  go_wp2_with (first
    | (go_at_call 37; (with_reducible refine (HRD.out _ HB0.out).mono ?_); rintro e w2 ⟨fi', sn', A', n', c', hp, rfl, hb1⟩; (have HB1 := Lib.hid (bl_step HB0.out hb1); have ROWC1 := Lib.hid (ROW.out.later hb1); have p1 : decide ((0 : Int) < n') = true := decide_eq_true (by omega); have p2 : decide (0 < n') = true := decide_eq_true hp; clear hp; clear hb1 c0 c1 c2 c3 c4 c5 c6 c7 c8 c9; have RU := Lib.hid (Row.made w2 56 #[.int .i64 1, .slice none 0 0, .int .i64 fi', .int .i64 sn', .slice A' n' c', .bool false, .int .i64 0, .int .i64 0, .bool false, .bool false, .int .i64 0, .slice none 0 0, .int .i64 0, .slice none 0 0]); have BU := Lib.hid (bl_alloc HB1.out (.cells #[.int .i64 1, .slice none 0 0, .int .i64 fi', .int .i64 sn', .slice A' n' c', .bool false, .int .i64 0, .int .i64 0, .bool false, .bool false, .int .i64 0, .slice none 0 0, .int .i64 0, .slice none 0 0] 56)); have RC := Lib.hid (ROWC1.out.more (.cells #[.int .i64 1, .slice none 0 0, .int .i64 fi', .int .i64 sn', .slice A' n' c', .bool false, .int .i64 0, .int .i64 0, .bool false, .bool false, .int .i64 0, .slice none 0 0, .int .i64 0, .slice none 0 0] 56)); obtain ⟨c0, c1, c2, c3, c4, c5, c6, c7, c8, c9⟩ := cells10 RC.out))
    | (go_at_call 38; (with_reducible refine (HCK.out _).mono ?_); rintro e w3 ⟨rfl, hb3⟩; (have B3 := Lib.hid (bl_step BU.out hb3); have RC3 := Lib.hid (RC.out.later hb3); have RU3 := Lib.hid (RU.out.later hb3); clear hb3 c0 c1 c2 c3 c4 c5 c6 c7 c8 c9; obtain ⟨c0, c1, c2, c3, c4, c5, c6, c7, c8, c9⟩ := cells10 RC3.out; obtain ⟨u0, u1, u2, u3, u4, u5, u6, u7, u8, u9, u10, u11, u12, u13⟩ := cells14 RU3.out))
    | (go_at_call 36; (with_reducible refine (palive_any _).mono ?_); rintro e w4 ⟨rfl, hb4⟩; (have B4 := Lib.hid (bl_step B3.out hb4); have RC4 := Lib.hid (RC3.out.later hb4); have RU4 := Lib.hid (RU3.out.later hb4); clear hb4 c0 c1 c2 c3 c4 c5 c6 c7 c8 c9 u0 u1 u2 u3 u4 u5 u6 u7 u8 u9 u10 u11 u12 u13; obtain ⟨c0, c1, c2, c3, c4, c5, c6, c7, c8, c9⟩ := cells10 RC4.out; obtain ⟨u0, u1, u2, u3, u4, u5, u6, u7, u8, u9, u10, u11, u12, u13⟩ := cells14 RU4.out)))
  all_goals (go_ret; exact ⟨ret_bool (by simp), B4.out⟩)
end Go.Proofs.Ytfgjlhklioijmaa
namespace Go.Proofs.Ytfgjlhklioijmaa
open Go.RowKit

set_option maxRecDepth 100000 in
set_option maxHeartbeats 6400000 in
theorem pk_st {ad : Addr} {b : Nat} (bits win reo prx pro ppd pby mrx qb a : Int) (n cap : Nat) (w : World) (h : n ≤ 4100) (h0 : 0 < n) (hck : checkF ⟨2, bits, win, reo, prx, pro, ppd, pby, mrx, qb⟩ = 0) (hlt : b < 128) (hc : ∀ W, Below w.heap.size w W → W.cell? ad = some (.int .u8 b))
    (hrd : ∀ W, Below w.heap.size w W → Calls Try.prog 37 #[.agg #[.int .i64 2, .int .i64 bits, .int .i64 win, .int .i64 reo, .int .i64 prx, .int .i64 pro, .int .i64 ppd, .int .i64 pby, .int .i64 mrx, .int .i64 qb], .slice (some ad) n cap] W fun e w' => ∃ (A' : Option Addr) (n' c' : Nat), e = .returned (.tuple #[.agg #[.int .i64 3, .slice none 0 0, .int .i64 0, .int .i64 0, .slice none 0 0, .bool false, .int .i64 0, .int .i64 0, .bool false, .bool false, .int .i64 0, .slice none 0 0, .int .i64 a, .slice A' n' c'], .int .i64 0]) ∧ Below W.heap.size W w') : Calls Try.prog 5 #[.agg #[.int .i64 2, .int .i64 bits, .int .i64 win, .int .i64 reo, .int .i64 prx, .int .i64 pro, .int .i64 ppd, .int .i64 pby, .int .i64 mrx, .int .i64 qb], .slice (some ad) n cap] w fun e w' => e = .returned (.bool true) ∧ Below w.heap.size w w' := by
  have ROW := Lib.hid (Row.made w 49 #[.int .i64 2, .int .i64 bits, .int .i64 win, .int .i64 reo, .int .i64 prx, .int .i64 pro, .int .i64 ppd, .int .i64 pby, .int .i64 mrx, .int .i64 qb])
  have HB0 := Lib.hid (bl_alloc (Below.refl w.heap.size w) (.cells #[.int .i64 2, .int .i64 bits, .int .i64 win, .int .i64 reo, .int .i64 prx, .int .i64 pro, .int .i64 ppd, .int .i64 pby, .int .i64 mrx, .int .i64 qb] 49))
  have HRD := Lib.hid hrd
  have HC := Lib.hid hc
  clear hrd hc
  have g1 : decide ((4100 : Int) < n) = false := decide_eq_false (by omega)
  have g2 : decide (4100 < n) = false := decide_eq_false (by omega)
  clear h
  have p1 : decide ((b : Int) < 128) = true := decide_eq_true (by omega)
  have p2 : decide (b < 128) = true := decide_eq_true (by omega)
  have p3 : decide ((128 : Int) ≤ b) = false := decide_eq_false (by omega)
  have p4 : decide (128 ≤ b) = false := decide_eq_false (by omega)
  clear hlt
  have HCK := Lib.hid (fun W => pcheck_any ⟨2, bits, win, reo, prx, pro, ppd, pby, mrx, qb⟩ W)
  rw [hck] at HCK
  unfold Cf.a at HCK
  clear hck
  obtain ⟨c0, c1, c2, c3, c4, c5, c6, c7, c8, c9⟩ := cells10 ROW.out
  go_enter Try.func5, Try.ntmps5
  go_wp2_with (first
    | (go_at_call 37; (with_reducible refine (HRD.out _ HB0.out).mono ?_); rintro e w2 ⟨A', n', c', rfl, hb1⟩; (have HB1 := Lib.hid (bl_step HB0.out hb1); have ROWC1 := Lib.hid (ROW.out.later hb1); clear hb1 c0 c1 c2 c3 c4 c5 c6 c7 c8 c9; have RU := Lib.hid (Row.made w2 56 #[.int .i64 3, .slice none 0 0, .int .i64 0, .int .i64 0, .slice none 0 0, .bool false, .int .i64 0, .int .i64 0, .bool false, .bool false, .int .i64 0, .slice none 0 0, .int .i64 a, .slice A' n' c']); have BU := Lib.hid (bl_alloc HB1.out (.cells #[.int .i64 3, .slice none 0 0, .int .i64 0, .int .i64 0, .slice none 0 0, .bool false, .int .i64 0, .int .i64 0, .bool false, .bool false, .int .i64 0, .slice none 0 0, .int .i64 a, .slice A' n' c'] 56)); have RC := Lib.hid (ROWC1.out.more (.cells #[.int .i64 3, .slice none 0 0, .int .i64 0, .int .i64 0, .slice none 0 0, .bool false, .int .i64 0, .int .i64 0, .bool false, .bool false, .int .i64 0, .slice none 0 0, .int .i64 a, .slice A' n' c'] 56)); obtain ⟨c0, c1, c2, c3, c4, c5, c6, c7, c8, c9⟩ := cells10 RC.out))
    | (go_at_call 38; (with_reducible refine (HCK.out _).mono ?_); rintro e w3 ⟨rfl, hb3⟩; (have B3 := Lib.hid (bl_step BU.out hb3); have RC3 := Lib.hid (RC.out.later hb3); have RU3 := Lib.hid (RU.out.later hb3); clear hb3 c0 c1 c2 c3 c4 c5 c6 c7 c8 c9; obtain ⟨c0, c1, c2, c3, c4, c5, c6, c7, c8, c9⟩ := cells10 RC3.out; obtain ⟨u0, u1, u2, u3, u4, u5, u6, u7, u8, u9, u10, u11, u12, u13⟩ := cells14 RU3.out)))
  generalize w2.heap.size = q at *
  generalize w3 = WX at *
  have d0 := (cells14 RU3.out.drawn).1
  have d1 := HC.out WX.drew (bl_drew B3.out)
  clear c0 c1 c2 c3 c4 c5 c6 c7 c8 c9 u0 u1 u2 u3 u4 u5 u6 u7 u8 u9 u10 u11 u12 u13
  go_region_held3 (fun w' => w'.cell? ⟨q, 0, none⟩ = some (.int .i64 3) ∧ w'.cell? ad = some (.int .u8 b)) (first | assumption | exact ⟨d0, d1⟩ | exact k4 | go_keep) (first
    | (go_at_call 36; (with_reducible refine (palive_any _).mono ?_); rintro e v4 ⟨rfl, hb4⟩; have B4 := Lib.hid (show Below WX.heap.size WX v4 from bl_step (bl_drew (Below.refl _ _)) hb4); have k4 : v4.cell? ⟨q, 0, none⟩ = some (.int .i64 3) ∧ v4.cell? ad = some (.int .u8 b) := ⟨(cells14 (RU3.out.later B4.out)).1, HC.out v4 (bl_step B3.out B4.out)⟩; clear hb4))
  go_wp2
  go_ret
  exact ⟨ret_bool (by simp), bl_step B3.out B4.out⟩
end Go.Proofs.Ytfgjlhklioijmaa
namespace Go.Proofs.Ytfgjlhklioijmaa
open Go.RowKit

set_option maxRecDepth 100000 in
set_option maxHeartbeats 6400000 in
theorem pk_am {ad : Addr} {b : Nat} (bits win reo prx pro ppd pby mrx qb a : Int) (n cap : Nat) (w : World) (h : n ≤ 4100) (h0 : 0 < n) (hck : checkF ⟨2, bits, win, reo, prx, pro, ppd, pby, mrx, qb⟩ = 0) (hlt : 128 ≤ b) (hc : ∀ W, Below w.heap.size w W → W.cell? ad = some (.int .u8 b))
    (hrd : ∀ W, Below w.heap.size w W → Calls Try.prog 37 #[.agg #[.int .i64 2, .int .i64 bits, .int .i64 win, .int .i64 reo, .int .i64 prx, .int .i64 pro, .int .i64 ppd, .int .i64 pby, .int .i64 mrx, .int .i64 qb], .slice (some ad) n cap] W fun e w' => ∃ (p' pt' ls' : Bool) (fi' of' : Int) (A' : Option Addr) (n' c' : Nat), e = .returned (.tuple #[.agg #[.int .i64 2, .slice none 0 0, .int .i64 0, .int .i64 0, .slice none 0 0, .bool p', .int .i64 fi', .int .i64 a, .bool pt', .bool ls', .int .i64 of', .slice A' n' c', .int .i64 0, .slice none 0 0], .int .i64 0]) ∧ Below W.heap.size W w') : Calls Try.prog 5 #[.agg #[.int .i64 2, .int .i64 bits, .int .i64 win, .int .i64 reo, .int .i64 prx, .int .i64 pro, .int .i64 ppd, .int .i64 pby, .int .i64 mrx, .int .i64 qb], .slice (some ad) n cap] w fun e w' => e = .returned (.bool true) ∧ Below w.heap.size w w' := by
  have ROW := Lib.hid (Row.made w 49 #[.int .i64 2, .int .i64 bits, .int .i64 win, .int .i64 reo, .int .i64 prx, .int .i64 pro, .int .i64 ppd, .int .i64 pby, .int .i64 mrx, .int .i64 qb])
  have HB0 := Lib.hid (bl_alloc (Below.refl w.heap.size w) (.cells #[.int .i64 2, .int .i64 bits, .int .i64 win, .int .i64 reo, .int .i64 prx, .int .i64 pro, .int .i64 ppd, .int .i64 pby, .int .i64 mrx, .int .i64 qb] 49))
  have HRD := Lib.hid hrd
  have HC := Lib.hid hc
  clear hrd hc
  have g1 : decide ((4100 : Int) < n) = false := decide_eq_false (by omega)
  have g2 : decide (4100 < n) = false := decide_eq_false (by omega)
  clear h
  have p1 : decide ((b : Int) < 128) = false := decide_eq_false (by omega)
  have p2 : decide (b < 128) = false := decide_eq_false (by omega)
  have p3 : decide ((128 : Int) ≤ b) = true := decide_eq_true (by omega)
  have p4 : decide (128 ≤ b) = true := decide_eq_true (by omega)
  clear hlt
  have HCK := Lib.hid (fun W => pcheck_any ⟨2, bits, win, reo, prx, pro, ppd, pby, mrx, qb⟩ W)
  rw [hck] at HCK
  unfold Cf.a at HCK
  clear hck
  obtain ⟨c0, c1, c2, c3, c4, c5, c6, c7, c8, c9⟩ := cells10 ROW.out
  go_enter Try.func5, Try.ntmps5
  go_wp2_with (first
    | (go_at_call 37; (with_reducible refine (HRD.out _ HB0.out).mono ?_); rintro e w2 ⟨p', pt', ls', fi', of', A', n', c', rfl, hb1⟩; (have HB1 := Lib.hid (bl_step HB0.out hb1); have ROWC1 := Lib.hid (ROW.out.later hb1); clear hb1 c0 c1 c2 c3 c4 c5 c6 c7 c8 c9; have RU := Lib.hid (Row.made w2 56 #[.int .i64 2, .slice none 0 0, .int .i64 0, .int .i64 0, .slice none 0 0, .bool p', .int .i64 fi', .int .i64 a, .bool pt', .bool ls', .int .i64 of', .slice A' n' c', .int .i64 0, .slice none 0 0]); have BU := Lib.hid (bl_alloc HB1.out (.cells #[.int .i64 2, .slice none 0 0, .int .i64 0, .int .i64 0, .slice none 0 0, .bool p', .int .i64 fi', .int .i64 a, .bool pt', .bool ls', .int .i64 of', .slice A' n' c', .int .i64 0, .slice none 0 0] 56)); have RC := Lib.hid (ROWC1.out.more (.cells #[.int .i64 2, .slice none 0 0, .int .i64 0, .int .i64 0, .slice none 0 0, .bool p', .int .i64 fi', .int .i64 a, .bool pt', .bool ls', .int .i64 of', .slice A' n' c', .int .i64 0, .slice none 0 0] 56)); obtain ⟨c0, c1, c2, c3, c4, c5, c6, c7, c8, c9⟩ := cells10 RC.out))
    | (go_at_call 38; (with_reducible refine (HCK.out _).mono ?_); rintro e w3 ⟨rfl, hb3⟩; (have B3 := Lib.hid (bl_step BU.out hb3); have RC3 := Lib.hid (RC.out.later hb3); have RU3 := Lib.hid (RU.out.later hb3); clear hb3 c0 c1 c2 c3 c4 c5 c6 c7 c8 c9; obtain ⟨c0, c1, c2, c3, c4, c5, c6, c7, c8, c9⟩ := cells10 RC3.out; obtain ⟨u0, u1, u2, u3, u4, u5, u6, u7, u8, u9, u10, u11, u12, u13⟩ := cells14 RU3.out)))
  generalize w2.heap.size = q at *
  generalize w3 = WX at *
  have d0 := (cells14 RU3.out.drawn).1
  have d1 := HC.out WX.drew (bl_drew B3.out)
  clear c0 c1 c2 c3 c4 c5 c6 c7 c8 c9 u0 u1 u2 u3 u4 u5 u6 u7 u8 u9 u10 u11 u12 u13
  go_region_held3 (fun w' => w'.cell? ⟨q, 0, none⟩ = some (.int .i64 2) ∧ w'.cell? ad = some (.int .u8 b)) (first | assumption | exact ⟨d0, d1⟩ | exact k4 | go_keep) (first
    | (go_at_call 36; (with_reducible refine (palive_any _).mono ?_); rintro e v4 ⟨rfl, hb4⟩; have B4 := Lib.hid (show Below WX.heap.size WX v4 from bl_step (bl_drew (Below.refl _ _)) hb4); have k4 : v4.cell? ⟨q, 0, none⟩ = some (.int .i64 2) ∧ v4.cell? ad = some (.int .u8 b) := ⟨(cells14 (RU3.out.later B4.out)).1, HC.out v4 (bl_step B3.out B4.out)⟩; clear hb4))
  go_wp2
  go_ret
  exact ⟨ret_bool (by simp), bl_step B3.out B4.out⟩
end Go.Proofs.Ytfgjlhklioijmaa
namespace Go.Proofs.Ytfgjlhklioijmaa
open Go.RowKit

set_option maxRecDepth 100000 in
set_option maxHeartbeats 6400000 in
theorem pread_um_ok {A : Option Addr} (bits win reo prx pro ppd pby mrx qb : Int) (n cap : Nat) (w : World)
    (hck : checkF ⟨1, bits, win, reo, prx, pro, ppd, pby, mrx, qb⟩ = 0) (hkd : ∀ W, Below w.heap.size w W → Calls Try.prog 154 #[.int .i64 1, .slice A n cap] W fun e w' => e = .returned (.int .i64 1) ∧ W = w')
    
    (hcal : ∀ W, Below w.heap.size w W → Calls Try.prog 103 #[.slice A n cap, .int .i64 bits] W fun e w' => ∃ (fi' sn' : Int) (A' : Option Addr) (n' c' : Nat), 0 < n' ∧ e = .returned (.tuple #[.agg #[.int .i64 fi', .int .i64 sn', .slice A' n' c'], .int .i64 0]) ∧ Below W.heap.size W w') :
    Calls Try.prog 37 #[.agg #[.int .i64 1, .int .i64 bits, .int .i64 win, .int .i64 reo, .int .i64 prx, .int .i64 pro, .int .i64 ppd, .int .i64 pby, .int .i64 mrx, .int .i64 qb], .slice A n cap] w fun e w' => ∃ (fi' sn' : Int) (A' : Option Addr) (n' c' : Nat), 0 < n' ∧ e = .returned (.tuple #[.agg #[.int .i64 1, .slice none 0 0, .int .i64 fi', .int .i64 sn', .slice A' n' c', .bool false, .int .i64 0, .int .i64 0, .bool false, .bool false, .int .i64 0, .slice none 0 0, .int .i64 0, .slice none 0 0], .int .i64 0]) ∧ Below w.heap.size w w' := by
  have ROW := Lib.hid (Row.made w 49 #[.int .i64 1, .int .i64 bits, .int .i64 win, .int .i64 reo, .int .i64 prx, .int .i64 pro, .int .i64 ppd, .int .i64 pby, .int .i64 mrx, .int .i64 qb])
  have ROWZ := Lib.hid (row_at2 (w.alloc (.cells #[.int .i64 1, .int .i64 bits, .int .i64 win, .int .i64 reo, .int .i64 prx, .int .i64 pro, .int .i64 ppd, .int .i64 pby, .int .i64 mrx, .int .i64 qb] 49)) (w.heap.size + 1) 56 #[.int .i64 0, .slice none 0 0, .int .i64 0, .int .i64 0, .slice none 0 0, .bool false, .int .i64 0, .int .i64 0, .bool false, .bool false, .int .i64 0, .slice none 0 0, .int .i64 0, .slice none 0 0] (size_1 _ _))
  have HB0 := Lib.hid (bl_alloc (bl_alloc (Below.refl w.heap.size w) (.cells #[.int .i64 1, .int .i64 bits, .int .i64 win, .int .i64 reo, .int .i64 prx, .int .i64 pro, .int .i64 ppd, .int .i64 pby, .int .i64 mrx, .int .i64 qb] 49)) (.cells #[.int .i64 0, .slice none 0 0, .int .i64 0, .int .i64 0, .slice none 0 0, .bool false, .int .i64 0, .int .i64 0, .bool false, .bool false, .int .i64 0, .slice none 0 0, .int .i64 0, .slice none 0 0] 56))
  have ROWC := Lib.hid (ROW.out.more (.cells #[.int .i64 0, .slice none 0 0, .int .i64 0, .int .i64 0, .slice none 0 0, .bool false, .int .i64 0, .int .i64 0, .bool false, .bool false, .int .i64 0, .slice none 0 0, .int .i64 0, .slice none 0 0] 56))
  have HCK := Lib.hid (fun W => pcheck_any ⟨1, bits, win, reo, prx, pro, ppd, pby, mrx, qb⟩ W)
  rw [hck] at HCK
  unfold Cf.a at HCK
  have HKD := Lib.hid hkd
  have HCAL := Lib.hid hcal
  clear hck hkd hcal
  generalize hW : (w.alloc (.cells #[.int .i64 1, .int .i64 bits, .int .i64 win, .int .i64 reo, .int .i64 prx, .int .i64 pro, .int .i64 ppd, .int .i64 pby, .int .i64 mrx, .int .i64 qb] 49)).alloc (.cells #[.int .i64 0, .slice none 0 0, .int .i64 0, .int .i64 0, .slice none 0 0, .bool false, .int .i64 0, .int .i64 0, .bool false, .bool false, .int .i64 0, .slice none 0 0, .int .i64 0, .slice none 0 0] 56) = W0 at *
  obtain ⟨c0, c1, c2, c3, c4, c5, c6, c7, c8, c9⟩ := cells10 ROWC.out
  go_enter Try.func37, Try.ntmps37
  go_wp2_with fail
  clear hW
  go_wp2_with (first
    | (go_at_call 38; (with_reducible refine (HCK.out _).mono ?_); rintro e w1 ⟨rfl, hb1⟩; (have HB1 := Lib.hid (bl_step HB0.out hb1); have ROWC1 := Lib.hid (ROWC.out.later hb1); have ROWZ1 := Lib.hid (ROWZ.out.later hb1); clear hb1 c0 c1 c2 c3 c4 c5 c6 c7 c8 c9; obtain ⟨c0, c1, c2, c3, c4, c5, c6, c7, c8, c9⟩ := cells10 ROWC1.out))
    | (go_at_call 154; (with_reducible refine (HKD.out _ HB1.out).mono ?_); rintro e wx ⟨rfl, rfl⟩; obtain ⟨C0, C1, -⟩ := cells10 (ROWC1.out.more (.cells #[.int .i64 1, .slice none 0 0, .int .i64 0, .int .i64 0, .slice none 0 0, .bool false, .int .i64 0, .int .i64 0, .bool false, .bool false, .int .i64 0, .slice none 0 0, .int .i64 0, .slice none 0 0] 56)))
    | (go_at_call 103; (with_reducible refine (HCAL.out _ (bl_alloc HB1.out _)).mono ?_); rintro e w3 ⟨fi', sn', A', n', c', hpn, rfl, hb3⟩; (have HB3 := Lib.hid (bl_step (bl_alloc HB1.out (.cells #[.int .i64 1, .slice none 0 0, .int .i64 0, .int .i64 0, .slice none 0 0, .bool false, .int .i64 0, .int .i64 0, .bool false, .bool false, .int .i64 0, .slice none 0 0, .int .i64 0, .slice none 0 0] 56)) hb3); have ROWZ3 := Lib.hid ((ROWZ1.out.more (.cells #[.int .i64 1, .slice none 0 0, .int .i64 0, .int .i64 0, .slice none 0 0, .bool false, .int .i64 0, .int .i64 0, .bool false, .bool false, .int .i64 0, .slice none 0 0, .int .i64 0, .slice none 0 0] 56)).later hb3); have ROWQ3 := Lib.hid ((Row.made w1 56 #[.int .i64 1, .slice none 0 0, .int .i64 0, .int .i64 0, .slice none 0 0, .bool false, .int .i64 0, .int .i64 0, .bool false, .bool false, .int .i64 0, .slice none 0 0, .int .i64 0, .slice none 0 0]).later hb3); have hq : w.heap.size + 1 < w1.heap.size := ROWZ1.out.inside; clear hb3; generalize w1.heap.size = q at *; have RZ4 := Lib.hid (show Row (((w3.setCell ⟨q, 2, none⟩ (.int .i64 fi')).setCell ⟨q, 3, none⟩ (.int .i64 sn')).setCell ⟨q, 4, none⟩ (.slice A' n' c')) (w.heap.size + 1) 56 #[.int .i64 0, .slice none 0 0, .int .i64 0, .int .i64 0, .slice none 0 0, .bool false, .int .i64 0, .int .i64 0, .bool false, .bool false, .int .i64 0, .slice none 0 0, .int .i64 0, .slice none 0 0] from (((ROWZ3.out.elsewhere (p := ⟨q, 2, none⟩) (Nat.ne_of_lt hq) (.int .i64 fi')).elsewhere (p := ⟨q, 3, none⟩) (Nat.ne_of_lt hq) (.int .i64 sn')).elsewhere (p := ⟨q, 4, none⟩) (Nat.ne_of_lt hq) (.slice A' n' c'))); have RQ4 := Lib.hid (show Row (((w3.setCell ⟨q, 2, none⟩ (.int .i64 fi')).setCell ⟨q, 3, none⟩ (.int .i64 sn')).setCell ⟨q, 4, none⟩ (.slice A' n' c')) q 56 #[.int .i64 1, .slice none 0 0, .int .i64 fi', .int .i64 sn', .slice A' n' c', .bool false, .int .i64 0, .int .i64 0, .bool false, .bool false, .int .i64 0, .slice none 0 0, .int .i64 0, .slice none 0 0] from (((ROWQ3.out.written 2 (.int .i64 fi')).written 3 (.int .i64 sn')).written 4 (.slice A' n' c'))); have HB4 := Lib.hid (show Below w.heap.size w (((w3.setCell ⟨q, 2, none⟩ (.int .i64 fi')).setCell ⟨q, 3, none⟩ (.int .i64 sn')).setCell ⟨q, 4, none⟩ (.slice A' n' c')) from (((HB3.out.setCell (p := ⟨q, 2, none⟩) (by show w.heap.size ≤ q; omega) (.int .i64 fi')).setCell (p := ⟨q, 3, none⟩) (by show w.heap.size ≤ q; omega) (.int .i64 sn')).setCell (p := ⟨q, 4, none⟩) (by show w.heap.size ≤ q; omega) (.slice A' n' c'))); obtain ⟨q0, q1, q2, q3, q4, q5, q6, q7, q8, q9, q10, q11, q12, q13⟩ := cells14 ROWQ3.out; obtain ⟨f0, f1, f2, f3, f4, f5, f6, f7, f8, f9, f10, f11, f12, f13⟩ := free14 ROWQ3.out; obtain ⟨r0, r1, r2, r3, r4, r5, r6, r7, r8, r9, r10, r11, r12, r13⟩ := cells14 RQ4.out; obtain ⟨z0, z1, z2, z3, z4, z5, z6, z7, z8, z9, z10, z11, z12, z13⟩ := cells14 RZ4.out; obtain ⟨y0, y1, y2, y3, y4, y5, y6, y7, y8, y9, y10, y11, y12, y13⟩ := free14 RZ4.out)))
  obtain ⟨dd, hdd⟩ := underun_parts
  refine bodyPost_ret (st_results_two rfl _ _ (w.heap.size + 1) 56 #[.int .i64 1, .slice none 0 0, .int .i64 fi', .int .i64 sn', .slice A' n' c', .bool false, .int .i64 0, .int .i64 0, .bool false, .bool false, .int .i64 0, .slice none 0 0, .int .i64 0, .slice none 0 0] dd rfl (row_set14 RZ4.out) hdd Try.infoun) rfl ?_
  exact ⟨fi', sn', A', n', c', hpn, rfl, below_set14 HB4.out (Nat.le_succ _) _ _ _ _ _ _ _ _ _ _ _ _ _ _⟩
set_option maxRecDepth 100000 in
set_option maxHeartbeats 6400000 in
theorem pread_um_err {A : Option Addr} (bits win reo prx pro ppd pby mrx qb er : Int) (n cap : Nat) (w : World)
    (hck : checkF ⟨1, bits, win, reo, prx, pro, ppd, pby, mrx, qb⟩ = 0) (hkd : ∀ W, Below w.heap.size w W → Calls Try.prog 154 #[.int .i64 1, .slice A n cap] W fun e w' => e = .returned (.int .i64 1) ∧ W = w')
    (her : er ≠ 0)
    (hcal : ∀ W, Below w.heap.size w W → Calls Try.prog 103 #[.slice A n cap, .int .i64 bits] W fun e w' => e = .returned (.tuple #[.agg #[.int .i64 0, .int .i64 0, .slice none 0 0], .int .i64 er]) ∧ Below W.heap.size W w') :
    Calls Try.prog 37 #[.agg #[.int .i64 1, .int .i64 bits, .int .i64 win, .int .i64 reo, .int .i64 prx, .int .i64 pro, .int .i64 ppd, .int .i64 pby, .int .i64 mrx, .int .i64 qb], .slice A n cap] w fun e w' => e = .returned (.tuple #[.agg #[.int .i64 0, .slice none 0 0, .int .i64 0, .int .i64 0, .slice none 0 0, .bool false, .int .i64 0, .int .i64 0, .bool false, .bool false, .int .i64 0, .slice none 0 0, .int .i64 0, .slice none 0 0], .int .i64 er]) ∧ Below w.heap.size w w' := by
  have ROW := Lib.hid (Row.made w 49 #[.int .i64 1, .int .i64 bits, .int .i64 win, .int .i64 reo, .int .i64 prx, .int .i64 pro, .int .i64 ppd, .int .i64 pby, .int .i64 mrx, .int .i64 qb])
  have ROWZ := Lib.hid (row_at2 (w.alloc (.cells #[.int .i64 1, .int .i64 bits, .int .i64 win, .int .i64 reo, .int .i64 prx, .int .i64 pro, .int .i64 ppd, .int .i64 pby, .int .i64 mrx, .int .i64 qb] 49)) (w.heap.size + 1) 56 #[.int .i64 0, .slice none 0 0, .int .i64 0, .int .i64 0, .slice none 0 0, .bool false, .int .i64 0, .int .i64 0, .bool false, .bool false, .int .i64 0, .slice none 0 0, .int .i64 0, .slice none 0 0] (size_1 _ _))
  have HB0 := Lib.hid (bl_alloc (bl_alloc (Below.refl w.heap.size w) (.cells #[.int .i64 1, .int .i64 bits, .int .i64 win, .int .i64 reo, .int .i64 prx, .int .i64 pro, .int .i64 ppd, .int .i64 pby, .int .i64 mrx, .int .i64 qb] 49)) (.cells #[.int .i64 0, .slice none 0 0, .int .i64 0, .int .i64 0, .slice none 0 0, .bool false, .int .i64 0, .int .i64 0, .bool false, .bool false, .int .i64 0, .slice none 0 0, .int .i64 0, .slice none 0 0] 56))
  have ROWC := Lib.hid (ROW.out.more (.cells #[.int .i64 0, .slice none 0 0, .int .i64 0, .int .i64 0, .slice none 0 0, .bool false, .int .i64 0, .int .i64 0, .bool false, .bool false, .int .i64 0, .slice none 0 0, .int .i64 0, .slice none 0 0] 56))
  have HCK := Lib.hid (fun W => pcheck_any ⟨1, bits, win, reo, prx, pro, ppd, pby, mrx, qb⟩ W)
  rw [hck] at HCK
  unfold Cf.a at HCK
  have HKD := Lib.hid hkd
  have HCAL := Lib.hid hcal
  clear hck hkd hcal
  have hne : (er != 0) = true := by simpa using her
  clear her
  generalize hW : (w.alloc (.cells #[.int .i64 1, .int .i64 bits, .int .i64 win, .int .i64 reo, .int .i64 prx, .int .i64 pro, .int .i64 ppd, .int .i64 pby, .int .i64 mrx, .int .i64 qb] 49)).alloc (.cells #[.int .i64 0, .slice none 0 0, .int .i64 0, .int .i64 0, .slice none 0 0, .bool false, .int .i64 0, .int .i64 0, .bool false, .bool false, .int .i64 0, .slice none 0 0, .int .i64 0, .slice none 0 0] 56) = W0 at *
  obtain ⟨c0, c1, c2, c3, c4, c5, c6, c7, c8, c9⟩ := cells10 ROWC.out
  go_enter Try.func37, Try.ntmps37
  go_wp2_with fail
  clear hW
  go_wp2_with (first
    | (go_at_call 38; (with_reducible refine (HCK.out _).mono ?_); rintro e w1 ⟨rfl, hb1⟩; (have HB1 := Lib.hid (bl_step HB0.out hb1); have ROWC1 := Lib.hid (ROWC.out.later hb1); have ROWZ1 := Lib.hid (ROWZ.out.later hb1); clear hb1 c0 c1 c2 c3 c4 c5 c6 c7 c8 c9; obtain ⟨c0, c1, c2, c3, c4, c5, c6, c7, c8, c9⟩ := cells10 ROWC1.out))
    | (go_at_call 154; (with_reducible refine (HKD.out _ HB1.out).mono ?_); rintro e wx ⟨rfl, rfl⟩; obtain ⟨C0, C1, -⟩ := cells10 (ROWC1.out.more (.cells #[.int .i64 1, .slice none 0 0, .int .i64 0, .int .i64 0, .slice none 0 0, .bool false, .int .i64 0, .int .i64 0, .bool false, .bool false, .int .i64 0, .slice none 0 0, .int .i64 0, .slice none 0 0] 56)))
    | (go_at_call 103; (with_reducible refine (HCAL.out _ (bl_alloc HB1.out _)).mono ?_); rintro e w3 ⟨rfl, hb3⟩; (have HB3 := Lib.hid (bl_step (bl_alloc HB1.out (.cells #[.int .i64 1, .slice none 0 0, .int .i64 0, .int .i64 0, .slice none 0 0, .bool false, .int .i64 0, .int .i64 0, .bool false, .bool false, .int .i64 0, .slice none 0 0, .int .i64 0, .slice none 0 0] 56)) hb3); have ROWZ3 := Lib.hid ((ROWZ1.out.more (.cells #[.int .i64 1, .slice none 0 0, .int .i64 0, .int .i64 0, .slice none 0 0, .bool false, .int .i64 0, .int .i64 0, .bool false, .bool false, .int .i64 0, .slice none 0 0, .int .i64 0, .slice none 0 0] 56)).later hb3); have ROWQ3 := Lib.hid ((Row.made w1 56 #[.int .i64 1, .slice none 0 0, .int .i64 0, .int .i64 0, .slice none 0 0, .bool false, .int .i64 0, .int .i64 0, .bool false, .bool false, .int .i64 0, .slice none 0 0, .int .i64 0, .slice none 0 0]).later hb3); have hq : w.heap.size + 1 < w1.heap.size := ROWZ1.out.inside; clear hb3; generalize w1.heap.size = q at *; have RZ4 := Lib.hid (show Row (((w3.setCell ⟨q, 2, none⟩ (.int .i64 0)).setCell ⟨q, 3, none⟩ (.int .i64 0)).setCell ⟨q, 4, none⟩ (.slice none 0 0)) (w.heap.size + 1) 56 #[.int .i64 0, .slice none 0 0, .int .i64 0, .int .i64 0, .slice none 0 0, .bool false, .int .i64 0, .int .i64 0, .bool false, .bool false, .int .i64 0, .slice none 0 0, .int .i64 0, .slice none 0 0] from (((ROWZ3.out.elsewhere (p := ⟨q, 2, none⟩) (Nat.ne_of_lt hq) (.int .i64 0)).elsewhere (p := ⟨q, 3, none⟩) (Nat.ne_of_lt hq) (.int .i64 0)).elsewhere (p := ⟨q, 4, none⟩) (Nat.ne_of_lt hq) (.slice none 0 0))); have RQ4 := Lib.hid (show Row (((w3.setCell ⟨q, 2, none⟩ (.int .i64 0)).setCell ⟨q, 3, none⟩ (.int .i64 0)).setCell ⟨q, 4, none⟩ (.slice none 0 0)) q 56 #[.int .i64 1, .slice none 0 0, .int .i64 0, .int .i64 0, .slice none 0 0, .bool false, .int .i64 0, .int .i64 0, .bool false, .bool false, .int .i64 0, .slice none 0 0, .int .i64 0, .slice none 0 0] from (((ROWQ3.out.written 2 (.int .i64 0)).written 3 (.int .i64 0)).written 4 (.slice none 0 0))); have HB4 := Lib.hid (show Below w.heap.size w (((w3.setCell ⟨q, 2, none⟩ (.int .i64 0)).setCell ⟨q, 3, none⟩ (.int .i64 0)).setCell ⟨q, 4, none⟩ (.slice none 0 0)) from (((HB3.out.setCell (p := ⟨q, 2, none⟩) (by show w.heap.size ≤ q; omega) (.int .i64 0)).setCell (p := ⟨q, 3, none⟩) (by show w.heap.size ≤ q; omega) (.int .i64 0)).setCell (p := ⟨q, 4, none⟩) (by show w.heap.size ≤ q; omega) (.slice none 0 0))); obtain ⟨q0, q1, q2, q3, q4, q5, q6, q7, q8, q9, q10, q11, q12, q13⟩ := cells14 ROWQ3.out; obtain ⟨f0, f1, f2, f3, f4, f5, f6, f7, f8, f9, f10, f11, f12, f13⟩ := free14 ROWQ3.out; obtain ⟨r0, r1, r2, r3, r4, r5, r6, r7, r8, r9, r10, r11, r12, r13⟩ := cells14 RQ4.out; obtain ⟨z0, z1, z2, z3, z4, z5, z6, z7, z8, z9, z10, z11, z12, z13⟩ := cells14 RZ4.out; obtain ⟨y0, y1, y2, y3, y4, y5, y6, y7, y8, y9, y10, y11, y12, y13⟩ := free14 RZ4.out)))
  obtain ⟨dd, hdd⟩ := underun_parts
  refine bodyPost_ret (st_results_two rfl _ _ (w.heap.size + 1) 56 #[.int .i64 0, .slice none 0 0, .int .i64 0, .int .i64 0, .slice none 0 0, .bool false, .int .i64 0, .int .i64 0, .bool false, .bool false, .int .i64 0, .slice none 0 0, .int .i64 0, .slice none 0 0] dd rfl (row_set14 RZ4.out) hdd Try.infoun) rfl ?_
  exact ⟨rfl, below_set14 HB4.out (Nat.le_succ _) _ _ _ _ _ _ _ _ _ _ _ _ _ _⟩
end Go.Proofs.Ytfgjlhklioijmaa
namespace Go.Proofs.Ytfgjlhklioijmaa


theorem lens_texts (L : List RowB) : lens L = (texts L).map List.length := by simp [lens, texts]
theorem ok_last {ls : List Nat} (h : okTo ls ls.length = true) (h0 : 0 < ls.length) : ∃ x, ls.getLast? = some x ∧ 1 ≤ x := by
  have h1 : ls[ls.length - 1]? = some ls[ls.length - 1] := List.getElem?_eq_getElem (by omega)
  refine ⟨ls[ls.length - 1], by rw [List.getLast?_eq_getElem?]; exact h1, (okTo_small h h1).1⟩
theorem two_pow_wd {wd : Nat} (h : wd = 11 ∨ wd = 15) : 2048 ≤ 2 ^ wd := by rcases h with rfl | rfl <;> decide
/-- what was written is read -/
theorem fld_back {t : List (List Nat)} {wd : Nat} (hw : wd = 11 ∨ wd = 15) (h1 : 1 ≤ t.length) (h24 : t.length ≤ 24) (hok : okTo (t.map List.length) (t.map List.length).length = true) :
    fldR (tailF (t.map List.length) wd ++ t.flatten) (decide (1 < t.length)) wd = (0, t) := by
  have hl : (t.map List.length).length = t.length := by simp
  have hc : cutF t.flatten ((t.map List.length).take (t.length - 1)) = some t := by
    refine cutF_back t (fun e => by rw [e] at h1; simp at h1) (fun x hx e => ?_)
    obtain ⟨y, hy, hy1⟩ := ok_last hok (by omega)
    rw [List.getLast?_map, hx, e] at hy
    simp at hy
    omega
  by_cases h2 : 1 < t.length
  · have hpos := tail_lens hok
    rw [hl] at hpos
    have htl : ((t.map List.length).take (t.length - 1)).length = t.length - 1 := by rw [List.length_take, hl]; omega
    have hrb := read_back (w := wd) (z := t.flatten) (l := (t.map List.length).take (t.length - 1)) (fun e => by rw [e] at htl; simp at htl; omega) (by omega) (fun x hx => ⟨(hpos x hx).1, Nat.lt_of_lt_of_le (hpos x hx).2 (two_pow_wd hw)⟩)
    have hpl : (pack (wbl wd ((t.map List.length).take (t.length - 1)))).length = packLen (((t.map List.length).take (t.length - 1)).length * (wd + 1)) := by rw [length_pack, length_wbl]
    have hany : ((t.map List.length).take (t.length - 1)).any (fun x => decide (2047 < x)) = false := by
      rw [← Bool.not_eq_true, List.any_eq_true]
      rintro ⟨x, hx, h⟩
      rw [decide_eq_true_iff] at h
      have := hpos x hx
      omega
    unfold tailF fldR
    rw [hl, if_pos h2, decide_eq_true h2, hrb]
    simp only [if_true, hany, Bool.false_eq_true, if_false]
    rw [← hpl, List.drop_left, hc]
    rfl
  · have e1 : t.length - 1 = 0 := by omega
    rw [e1, List.take_zero] at hc
    unfold tailF fldR
    rw [hl, if_neg h2, decide_eq_false h2, List.nil_append]
    simp only [Bool.false_eq_true, if_false]
    rw [hc]
    rfl
theorem ansOf_zero {o : Option (List (List Nat))} {t : List (List Nat)} (h : ansOf o = (0, t)) : o = some t := by
  cases o with
  | none => simp [ansOf] at h
  | some x => simp [ansOf] at h; rw [h]
theorem okTo_of {ls : List Nat} (h : ∀ k m, ls[k]? = some m → 1 ≤ m ∧ m ≤ 4000 ∧ (k + 1 ≠ ls.length → m ≤ 2047)) : okTo ls ls.length = true := by
  unfold okTo
  rw [List.all_eq_true]
  intro j hj
  rw [List.mem_range] at hj
  have h1 := h j ls[j] (List.getElem?_eq_getElem hj)
  rw [List.getD_eq_getElem?_getD, List.getElem?_eq_getElem hj, Option.getD_some]
  unfold okAt
  by_cases e : j + 1 = ls.length
  · rw [if_pos e, decide_eq_true h1.1, decide_eq_true h1.2.1]
    rfl
  · rw [if_neg e, decide_eq_true h1.1, decide_eq_true (h1.2.2 e)]
    rfl
theorem sum_lens (t : List (List Nat)) : (t.map List.length).sum = t.flatten.length := by
  rw [List.length_flatten]
/-- what is read may be, and has, written, the bytes that it was read from -/
theorem fld_write {bs : List Nat} {more : Bool} {wd : Nat} {t : List (List Nat)} (hw : wd = 11 ∨ wd = 15) (hb : ∀ b ∈ bs, b < 256) (h4 : bs.length ≤ 4000) (h : fldR bs more wd = (0, t)) :
    1 ≤ t.length ∧ t.length ≤ 24 ∧ more = decide (1 < t.length) ∧ tailF (t.map List.length) wd ++ t.flatten = bs ∧ okTo (t.map List.length) (t.map List.length).length = true := by
  have hl : (t.map List.length).length = t.length := by simp
  have fin : ∀ ls z, cutF z ls = some t → z.length ≤ 4000 → (∀ x ∈ ls, 1 ≤ x ∧ x ≤ 2047) → okTo (t.map List.length) (t.map List.length).length = true := by
    intro ls z hc hz hls
    obtain ⟨c1, c2, c3, x, c4, c5⟩ := cutF_ok hc
    refine okTo_of (fun k m hm => ?_)
    have hmz : m ≤ 4000 := by
      have e1 := sumTo_succ hm
      have e2 := sumTo_le (t.map List.length) (k + 1)
      rw [sum_lens, c1] at e2
      omega
    rw [hl]
    have hk : k < t.length := by have := (List.getElem?_eq_some_iff.1 hm).1; rw [hl] at this; exact this
    by_cases e : k < ls.length
    · have h9 : ((t.map List.length).take ls.length)[k]? = some m := by rw [List.getElem?_take, if_pos e]; exact hm
      rw [c3] at h9
      have := hls m (List.mem_of_getElem? h9)
      exact ⟨this.1, hmz, fun _ => this.2⟩
    · have e2 : k = t.length - 1 := by omega
      subst e2
      rw [List.getLast?_eq_getElem?] at c4
      rw [List.getElem?_map, c4] at hm
      simp at hm
      refine ⟨?_, hmz, fun h => by omega⟩
      cases x with
      | nil => exact absurd rfl c5
      | cons a r => simp at hm; omega
  unfold fldR at h
  cases more
  · simp only [Bool.false_eq_true, if_false] at h
    have hc := ansOf_zero h
    obtain ⟨c1, c2, c3, x, c4, c5⟩ := cutF_ok hc
    simp only [List.length_nil, Nat.zero_add] at c2
    refine ⟨by omega, by omega, by rw [c2]; rfl, ?_, fin [] bs hc h4 (fun x hx => by cases hx)⟩
    unfold tailF
    rw [hl, if_neg (by omega), List.nil_append, c1]
  · simp only [if_true] at h
    by_cases h0 : (readF bs wd).2.2 = 0
    · obtain ⟨ls, k, hrf⟩ : ∃ ls k, readF bs wd = (ls, k, 0) := ⟨(readF bs wd).1, (readF bs wd).2.1, by rw [← h0]⟩
      rw [hrf] at h
      simp only [if_true] at h
      cases hany : ls.any fun x => decide (2047 < x)
      · rw [hany] at h
        simp only [Bool.false_eq_true, if_false] at h
        have hc := ansOf_zero h
        obtain ⟨c1, c2, c3, x, c4, c5⟩ := cutF_ok hc
        obtain ⟨q1, q2, q3, q4, q5, q6⟩ := read_write hb hrf
        have q7 : 1 ≤ ls.length := by
          cases ls with
          | nil => exact absurd rfl q1
          | cons => simp
        have hls : ∀ x ∈ ls, 1 ≤ x ∧ x ≤ 2047 := fun x hx => by
          refine ⟨(q3 x hx).1, ?_⟩
          rcases Nat.lt_or_ge 2047 x with h9 | h9
          · have : ls.any (fun x => decide (2047 < x)) = true := List.any_eq_true.2 ⟨x, hx, decide_eq_true h9⟩
            rw [hany] at this
            cases this
          · exact h9
        refine ⟨by omega, by omega, by rw [c2, decide_eq_true (by omega)], ?_, fin ls _ hc (by rw [List.length_drop]; omega) hls⟩
        unfold tailF
        rw [hl, if_pos (by omega), show t.length - 1 = ls.length by omega, c3, q6, c1, List.take_append_drop]
      · rw [hany] at h
        simp at h
    · rw [if_neg h0] at h
      simp only [Prod.mk.injEq] at h
      exact absurd h.1 h0
end Go.Proofs.Ytfgjlhklioijmaa
