/-
  How the packets and bytes that a statement draws read. How calls of two numbers and bytes that a statement draws read. UmtxNumbers: the walk.
-/
import Derived.Test.YtgdpjaojlhdhdaaJUmtxNumbers11
import Derived.SizedLaws
import Derived.Deep.Matrix
import Derived.Lib.SmallJoins
import Derived.OpenShut
import Derived.Test.YtgdpjaojlhdhdaaJUmtxNumbers28
import Derived.Test.YtgdpjaojlhdhdaaJUmtxNumbers01
import Derived.Deep.Slices
import Derived.Deep.SlicePairs
import Derived.Deep.DeepCutAuto
namespace Go.Proofs.Ytgdpjaojlhdhdaa
open Go.ChangeShapes Go.WideShapes Go.ChangeAt Go.RowKit Go.Deep


theorem Try.cells5 : Try.prog.cellsOf 5 = 1 := by kernel_rfl
theorem Try.cells30 : Try.prog.cellsOf 30 = 1 := by kernel_rfl
theorem nums_src {W : World} {a : Addr} {cap len : Nat} {zs : List Int} (hl : len ≤ cap) (hz : zs.length = cap) (hc : ∀ j, j < cap → W.cell? (a.add j) = some (.int .u8 (zs.getD j 0))) (hw : ∀ n ∈ zs, (Lit.int .u8 n).wf = true) :
    ((zs.take len).map Int.toNat).length = len ∧ Src W (some a) (bts ((zs.take len).map Int.toNat)) ∧ ∀ b ∈ (zs.take len).map Int.toNat, b < 256 := by
  have hlen : ((zs.take len).map Int.toNat).length = len := by rw [List.length_map, List.length_take]; omega
  refine ⟨hlen, fun h0 => ⟨a, rfl, fun j u hu => ?_⟩, fun b hb => ?_⟩
  · have hj : j < len := by
      have h1 := (List.getElem?_eq_some_iff.1 hu).1
      rw [length_bts, hlen] at h1
      exact h1
    have h2 := hc j (by omega)
    rw [h2]
    have hjz : j < zs.length := by omega
    have hww := bounds_u8 (hw zs[j] (List.getElem_mem hjz))
    have h3 : ((zs.take len).map Int.toNat)[j]? = some zs[j].toNat := by
      rw [List.getElem?_map, List.getElem?_take, if_pos hj, List.getElem?_eq_getElem hjz]
      rfl
    have h4 := bts_at h3
    rw [h4] at hu
    injection hu with hu
    rw [← hu, List.getD_eq_getElem?_getD, List.getElem?_eq_getElem hjz]
    simp only [Option.getD_some]
    rw [Int.toNat_of_nonneg hww.1]
  · rw [List.mem_map] at hb
    obtain ⟨z, hz2, rfl⟩ := hb
    have hww := bounds_u8 (hw z (List.mem_of_mem_take hz2))
    omega
set_option maxRecDepth 100000 in
theorem bytes_arg {H : Type} {enc : TypeId × Value → H} {W : World} {base : Nat} {v : Value} {d : DataW H} {p : List MemPlace} (hok : Value.okWide Try.prog W .any base 30 v)
    (h : DataW.Trod enc Try.prog W 0 (fun _ => true) true 30 v d p) : ∃ (A : Option Addr) (cap : Nat) (l : List Nat), v = .slice A l.length cap ∧ l.length ≤ cap ∧ cap ≤ 9223372036854775807 ∧ Src W A (bts l) ∧ ∀ b ∈ l, b < 256 := by
  obtain ⟨a0, len, cap, rfl⟩ := okWide_slice Try.underlying30 hok
  obtain ⟨fuel, hf⟩ := h
  rcases open_ints Try.underlying30 Try.underlying5 Try.cells5 hf with ⟨hcs, _⟩ | ⟨a, len', cap', zs, hcs, _, hl, hm, hz, _, hcell, hwz⟩
  · simp only [Value.cells] at hcs
    have e : Value.slice a0 len cap = .slice none 0 0 := by simpa using hcs
    rw [e]
    exact ⟨none, 0, [], rfl, Nat.le_refl _, by omega, fun h0 => absurd h0 (by simp [bts]), fun b hb => by cases hb⟩
  · have e : Value.slice a0 len cap = .slice (some a) len' cap' := by simpa [Value.cells] using hcs
    rw [e]
    have hz' : zs.length = cap' := by simpa using hz
    obtain ⟨h1, h2, h3⟩ := nums_src (W := W) (a := a) hl hz' (fun j hj => hcell j (by omega)) hwz
    exact ⟨some a, cap', _, by rw [h1], by omega, by unfold maxLen at hm; exact hm, h2, h3⟩
set_option maxRecDepth 100000 in
theorem rows_cells {H : Type} {enc : TypeId × Value → H} {W : World} {fuel : Nat} {v : Value} {y : DataW H × List MemPlace} (hf : DataW.trod enc Try.prog W 0 (fun _ => true) true fuel 40 [v] = some y) :
    ∃ (A : Option Addr) (cap : Nat) (L : List RowB), v = .slice A L.length cap ∧ L.length ≤ cap ∧ cap ≤ 9223372036854775807 ∧ RSrc W A L ∧ ∀ m ∈ lens L, m ≤ 9223372036854775807 := by
  rcases open_int_rows Try.underlying40 Try.underlying30 Try.underlying5 Try.cells30 Try.cells5 hf with ⟨hcs, _⟩ | ⟨a, len', cap', A, L, C, Z, hcs, _, hl, hm, _, hx⟩
  · have e : v = .slice none 0 0 := by simpa [Value.cells] using hcs
    rw [e]
    exact ⟨none, 0, [], rfl, Nat.le_refl _, by omega, fun h0 => absurd h0 (by simp), fun m hm => by cases hm⟩
  · have e : v = .slice (some a) len' cap' := by simpa [Value.cells] using hcs
    rw [e]
    have hlen : ((List.range len').map fun k => (⟨A k, C k, ((Z k).take (L k)).map Int.toNat⟩ : RowB)).length = len' := by simp
    have hrow : ∀ k r, ((List.range len').map fun k => (⟨A k, C k, ((Z k).take (L k)).map Int.toNat⟩ : RowB))[k]? = some r → W.cell? (a.add k) = some r.v ∧ r.ok W := by
      intro k r hr
      have hk : k < len' := by
        have h1 := (List.getElem?_eq_some_iff.1 hr).1
        rw [hlen] at h1
        exact h1
      have hr' : r = ⟨A k, C k, ((Z k).take (L k)).map Int.toNat⟩ := by
        rw [List.getElem?_map, List.getElem?_range hk] at hr
        simp only [Option.map_some, Option.some.injEq] at hr
        exact hr.symm
      subst hr'
      obtain ⟨h1, h2, h3, h4, h5, h6, h7⟩ := hx k (by omega)
      unfold maxLen at h3
      have hll : (((Z k).take (L k)).map Int.toNat).length = L k := by rw [List.length_map, List.length_take]; omega
      refine ⟨by rw [h1]; show _ = some (Value.slice (A k) (((Z k).take (L k)).map Int.toNat).length (C k)); rw [hll], ?_⟩
      cases hA : A k with
      | none =>
        have hc0 := h6 hA
        have hl0 : L k = 0 := by omega
        refine ⟨fun h0 => ?_, by rw [hll]; exact h2, h3, fun b hb => ?_⟩
        · rw [length_bts, hll] at h0; omega
        · rw [hl0] at hb; simp at hb
      | some a' =>
        obtain ⟨_, hc⟩ := h7 a' hA
        obtain ⟨_, g2, g3⟩ := nums_src (W := W) h2 h4 hc h5
        exact ⟨g2, by rw [hll]; exact h2, h3, g3⟩
    refine ⟨some a, cap', (List.range len').map fun k => ⟨A k, C k, ((Z k).take (L k)).map Int.toNat⟩, by rw [hlen], by omega, by unfold maxLen at hm; exact hm, fun h0 => ⟨a, rfl, hrow⟩, fun m hm2 => ?_⟩
    obtain ⟨k, hk⟩ := List.getElem?_of_mem hm2
    simp only [lens, List.getElem?_map, Option.map_eq_some_iff] at hk
    obtain ⟨r, hr, rfl⟩ := hk
    have h9 := (hrow k r (by rw [List.getElem?_map, Option.map_eq_some_iff]; exact hr)).2
    have := h9.2.1
    have := h9.2.2.1
    omega
set_option maxRecDepth 100000 in
/-- a packet of umd as it came in -/
theorem upack_arg {H : Type} {enc : TypeId × Value → H} {W : World} {base : Nat} {v : Value} {d : DataW H} {p : List MemPlace} (hok : Value.okWide Try.prog W .any base 42 v)
    (h : DataW.Trod enc Try.prog W 0 (fun _ => true) true 42 v d p) : ∃ (fi sn : Int) (A : Option Addr) (cap : Nat) (L : List RowB), v = .agg #[.int .i64 fi, .int .i64 sn, .slice A L.length cap] ∧ L.length ≤ cap ∧ cap ≤ 9223372036854775807 ∧ RSrc W A L ∧ ∀ m ∈ lens L, m ≤ 9223372036854775807 := by
  obtain ⟨v0, v1, v2, y0, y1, y2, k, rfl, _, _, h0, h1, h2⟩ := Joins.open_agg3 Try.underlying42 (by kernel_rfl) (by kernel_rfl) hok h
  obtain ⟨A, cap, L, rfl, g1, g2, g3, g4⟩ := rows_cells h2
  obtain ⟨fi, rfl⟩ : ∃ fi, v0 = .int .i64 fi := by
    obtain ⟨n, h9, _⟩ := DataW.trod_int Try.underlying3 h0
    exact ⟨n, by simpa using h9⟩
  obtain ⟨sn, rfl⟩ : ∃ sn, v1 = .int .i64 sn := by
    obtain ⟨n, h9, _⟩ := DataW.trod_int Try.underlying3 h1
    exact ⟨n, by simpa using h9⟩
  exact ⟨fi, sn, A, cap, L, rfl, g1, g2, g3, g4⟩
end Go.Proofs.Ytgdpjaojlhdhdaa
namespace Go.Proofs.Ytgdpjaojlhdhdaa
open Go.ChangeShapes Go.WideShapes Go.ChangeAt Go.RowKit Go.Deep Go.Joins

theorem Try.cells32p : Try.prog.cellsOf 32 = 3 := by kernel_rfl
theorem Try.cells3p : Try.prog.cellsOf 3 = 1 := by kernel_rfl
/-- a call: what, a number, bytes -/
structure OpB where
  k : Int
  n : Int
  r : RowB
/-- where calls lie -/
def BSrc16 (w : World) (A : Option Addr) (l : List OpB) : Prop :=
  0 < l.length → ∃ b off, A = some ⟨b, off, none⟩ ∧ ∀ k o, l[k]? = some o → w.cell? ⟨b, off + k * 3, none⟩ = some (.int .i64 o.k) ∧ w.cell? ⟨b, off + k * 3 + 1, none⟩ = some (.int .i64 o.n) ∧ w.cell? ⟨b, off + k * 3 + 2, none⟩ = some o.r.v ∧ o.r.ok w
set_option maxRecDepth 100000 in
theorem bytes_cellp {H : Type} {enc : TypeId × Value → H} {W : World} {fuel : Nat} {cs : List Value} {y : DataW H × List MemPlace} (hf : DataW.trod enc Try.prog W 0 (fun _ => true) true fuel 30 cs = some y) :
    ∃ r : RowB, cs = [r.v] ∧ r.ok W := by
  rcases open_ints Try.underlying30 Try.underlying5 Try.cells5 hf with ⟨hcs, _⟩ | ⟨a, len', cap', zs, hcs, _, hl, hm, hz, _, hcell, hwz⟩
  · exact ⟨⟨none, 0, []⟩, hcs, fun h0 => absurd h0 (by simp [bts]), Nat.le_refl _, by show 0 ≤ 9223372036854775807; omega, fun b hb => by cases hb⟩
  · have hz : zs.length = cap' := by simpa using hz
    obtain ⟨h1, h2, h3⟩ := nums_src hl hz (fun j hj => hcell j (by omega)) hwz
    refine ⟨⟨some a, cap', (zs.take len').map Int.toNat⟩, by rw [hcs]; unfold RowB.v; rw [h1], h2, by show ((zs.take len').map Int.toNat).length ≤ cap'; omega, by show cap' ≤ 9223372036854775807; unfold maxLen at hm; exact hm, h3⟩
set_option maxRecDepth 100000 in
theorem opb_cells {H : Type} {enc : TypeId × Value → H} {W : World} {fuel : Nat} {cs : List Value} {x : DataW H × List MemPlace}
    (h : DataW.trod enc Try.prog W 0 (fun _ => true) true fuel 32 cs = some x) : ∃ (a b : Int) (r : RowB), cs = [.int .i64 a, .int .i64 b, r.v] ∧ r.ok W := by
  obtain ⟨xs, n, _, _, hl, hxs, hf⟩ := DataW.trod_struct Try.underlying32 h
  have h0 := hf 0 _ rfl
  have h1 := hf 1 _ rfl
  have h2 := hf 2 _ rfl
  rw [Try.cells32p] at hl
  match cs, hl with
  | [c0, c1, c2], _ =>
    have hxs' : xs.length = 3 := by simpa using hxs
    match xs, hxs' with
    | [y0, y1, y2], _ =>
      have h0' : DataW.trod enc Try.prog W 0 (fun _ => true) true n 3 (([c0, c1, c2].drop 0).take (Try.prog.cellsOf 3)) = some y0 := h0
      have h1' : DataW.trod enc Try.prog W 0 (fun _ => true) true n 3 (([c0, c1, c2].drop 1).take (Try.prog.cellsOf 3)) = some y1 := h1
      have h2' : DataW.trod enc Try.prog W 0 (fun _ => true) true n 30 (([c0, c1, c2].drop 2).take (Try.prog.cellsOf 30)) = some y2 := h2
      rw [Try.cells3p] at h0' h1'
      rw [Try.cells30] at h2'
      obtain ⟨a, ea, _, _⟩ := DataW.trod_int Try.underlying3 h0'
      obtain ⟨b, eb, _, _⟩ := DataW.trod_int Try.underlying3 h1'
      obtain ⟨r, er, hr⟩ := bytes_cellp h2'
      simp at ea eb er
      exact ⟨a, b, r, by rw [ea, eb, er], hr⟩
set_option maxRecDepth 100000 in
theorem opsb_arg {H : Type} {enc : TypeId × Value → H} {W : World} {base : Nat} {v : Value} {d : DataW H} {p : List MemPlace} (hok : Value.okWide Try.prog W .any base 24 v)
    (h : DataW.Trod enc Try.prog W 0 (fun _ => true) true 24 v d p) : ∃ (A : Option Addr) (cap : Nat) (l : List OpB), v = .slice A l.length cap ∧ l.length ≤ cap ∧ cap ≤ 9223372036854775807 ∧ BSrc16 W A l := by
  obtain ⟨a0, len, cap, rfl⟩ := okWide_slice Try.underlying24 hok
  obtain ⟨fuel, hf⟩ := h
  rcases open_slice Try.underlying24 hf with ⟨hcs, _⟩ | ⟨a, len', cap', m, n, D, Pl, hcs, _, hl, hm, hmm, _, hcell⟩
  · have e : Value.slice a0 len cap = .slice none 0 0 := by simpa [Value.cells] using hcs
    rw [e]
    exact ⟨none, 0, [], rfl, Nat.le_refl _, by omega, fun h0 => absurd h0 (by simp)⟩
  · have e : Value.slice a0 len cap = .slice (some a) len' cap' := by simpa [Value.cells] using hcs
    rw [e]
    have hm' : m = cap' := by simpa using hmm
    have each : ∀ i, i < len' → ∃ o : OpB, W.cell? (a.add (i * 3)) = some (.int .i64 o.k) ∧ W.cell? (a.add (i * 3 + 1)) = some (.int .i64 o.n) ∧ W.cell? (a.add (i * 3 + 2)) = some o.r.v ∧ o.r.ok W := by
      intro i hi
      obtain ⟨cs', hc, ht⟩ := hcell i (by omega)
      rw [Try.cells32p] at hc
      obtain ⟨t, u, r, rfl, hr⟩ := opb_cells ht
      obtain ⟨_, _, hat⟩ := World.cells?_some hc
      have h0 := hat 0 (by omega)
      have h1 := hat 1 (by omega)
      have h2 := hat 2 (by omega)
      rw [add_add] at h0 h1 h2
      exact ⟨⟨t, u, r⟩, h0, h1, h2, hr⟩
    have pick : ∃ f : Nat → OpB, ∀ i, i < len' → W.cell? (a.add (i * 3)) = some (.int .i64 (f i).k) ∧ W.cell? (a.add (i * 3 + 1)) = some (.int .i64 (f i).n) ∧ W.cell? (a.add (i * 3 + 2)) = some (f i).r.v ∧ (f i).r.ok W := by
      refine ⟨fun i => if hi : i < len' then (each i hi).choose else ⟨0, 0, ⟨none, 0, []⟩⟩, fun i hi => ?_⟩
      simp only [dif_pos hi]
      exact (each i hi).choose_spec
    obtain ⟨f, hf'⟩ := pick
    have hlen : ((List.range len').map f).length = len' := by simp
    refine ⟨some a, cap', (List.range len').map f, by rw [hlen], by omega, by unfold maxLen at hm; exact hm, fun h0 => ?_⟩
    rw [hlen] at h0
    obtain ⟨b, off, spot⟩ := a
    have hspot : spot = none := by
      have hc := (hf' 0 (by omega)).1
      simpa [Addr.add] using World.cell?_spot hc
    subst hspot
    refine ⟨b, off, rfl, fun k o ho => ?_⟩
    have hk : k < len' := by
      have h1 := (List.getElem?_eq_some_iff.1 ho).1
      rw [hlen] at h1
      exact h1
    have ho' : o = f k := by
      rw [List.getElem?_map, List.getElem?_range hk] at ho
      simp at ho
      exact ho.symm
    subst ho'
    have h3 := hf' k hk
    rw [add_plain, add_plain, add_plain] at h3
    simpa [Nat.add_assoc] using h3
end Go.Proofs.Ytgdpjaojlhdhdaa
namespace Go.Proofs.Ytgdpjaojlhdhdaa
open Go.RowKit

set_option maxRecDepth 100000 in
set_option maxHeartbeats 1600000 in
theorem unum_no (c : Cf) (A0 : Option Addr) (n0 c0 : Nat) (W : World) (h : checkF c ≠ 0 ∨ c.mode ≠ 1) : Calls Try.prog 3 #[.agg c.a, .slice A0 n0 c0] W fun e w' => e = .returned (.bool true) ∧ Below W.heap.size W w' := by
  have HN := Lib.hid (us_no c)
  have HA := Lib.hid ualive_any
  obtain ⟨mode, bits, win, reo, prx, pro, ppd, pby, mrx, qb⟩ := c
  have HN := Lib.hid (fun W => HN.out W h)
  unfold Cf.a at *
  have HB0 := Lib.hid (bl_alloc (Below.refl W.heap.size W) (.cells #[.int .i64 mode, .int .i64 bits, .int .i64 win, .int .i64 reo, .int .i64 prx, .int .i64 pro, .int .i64 ppd, .int .i64 pby, .int .i64 mrx, .int .i64 qb] 23))
  obtain ⟨c0, c1, c2, c3, c4, c5, c6, c7, c8, c9⟩ := cells10 (Row.made W 23 #[.int .i64 mode, .int .i64 bits, .int .i64 win, .int .i64 reo, .int .i64 prx, .int .i64 pro, .int .i64 ppd, .int .i64 pby, .int .i64 mrx, .int .i64 qb])
  clear h
  go_enter Try.func3, Try.ntmps3
  go_wp2_with (go_at_call 20; (with_reducible refine (HN.out _).mono ?_); rintro e w1 ⟨er, rfl, her, hb1⟩; (have HB1 := Lib.hid (bl_step HB0.out hb1); have her2 : (er != 0) = true := by simpa using her); clear her hb1)
  go_wp2_with (go_at_call 21; (with_reducible refine (HA.out _).mono ?_); rintro e w2 ⟨rfl, hb⟩; (have HB2 := Lib.hid (bl_step HB1.out hb); clear hb))
  go_ret
  exact ⟨rfl, HB2.out⟩
set_option maxRecDepth 100000 in
theorem built_read5 {B f sn m cp : Nat} {A : Option Addr} {L : List RowB} {w : World} (ho : OwnY B w (.slice A m cp) (umdBytes f sn L 5)) (hm : (umdBytes f sn L 5).length = m) (hw : umdF f sn (lens L) ((5 : Nat) : Int) ≠ 0) (hb : ∀ t ∈ texts L, ∀ b ∈ t, b < 256) :
    Calls Try.prog 25 #[.slice A m cp, .int .i64 5] w fun e w' => ∃ (M : List RowB) (A : Option Addr) (c : Nat), e = .returned (.tuple #[.agg #[.int .i64 f, .int .i64 sn, .slice A M.length c], .int .i64 0]) ∧ texts M = texts L ∧ OwnR w.heap.size w' (.slice A M.length c) M ∧ Below w.heap.size w w' := built_read ho hm hw hb
set_option maxRecDepth 100000 in
theorem built_read10 {B f sn m cp : Nat} {A : Option Addr} {L : List RowB} {w : World} (ho : OwnY B w (.slice A m cp) (umdBytes f sn L 10)) (hm : (umdBytes f sn L 10).length = m) (hw : umdF f sn (lens L) ((10 : Nat) : Int) ≠ 0) (hb : ∀ t ∈ texts L, ∀ b ∈ t, b < 256) :
    Calls Try.prog 25 #[.slice A m cp, .int .i64 10] w fun e w' => ∃ (M : List RowB) (A : Option Addr) (c : Nat), e = .returned (.tuple #[.agg #[.int .i64 f, .int .i64 sn, .slice A M.length c], .int .i64 0]) ∧ texts M = texts L ∧ OwnR w.heap.size w' (.slice A M.length c) M ∧ Below w.heap.size w w' := built_read ho hm hw hb
set_option maxRecDepth 100000 in
set_option maxHeartbeats 6400000 in
theorem unum_ok (c : Cf) (A0 : Option Addr) (l0 : List OpB) (n0 c0 : Nat) (W : World) (hck : checkF c = 0) (hm : c.mode = 1) (hl0 : l0.length = n0) (hn : n0 ≤ 9223372036854775807) (hs0 : BSrc16 W A0 l0) : Calls Try.prog 3 #[.agg c.a, .slice A0 n0 c0] W fun e w' => e = .returned (.bool true) ∧ Below W.heap.size W w' := by
  have HN := Lib.hid (fun W => us_new c W hck hm)
  have HA := Lib.hid ualive_any
  have HS0 := Lib.hid hs0
  have HL0 := Lib.hid hl0
  obtain ⟨mode, bits, win, reo, prx, pro, ppd, pby, mrx, qb⟩ := c
  unfold Cf.a at *
  simp only at HN
  have HCB := Lib.hid (Row.made W 23 #[.int .i64 mode, .int .i64 bits, .int .i64 win, .int .i64 reo, .int .i64 prx, .int .i64 pro, .int .i64 ppd, .int .i64 pby, .int .i64 mrx, .int .i64 qb])
  have HB0 := Lib.hid (bl_alloc (Below.refl W.heap.size W) (.cells #[.int .i64 mode, .int .i64 bits, .int .i64 win, .int .i64 reo, .int .i64 prx, .int .i64 pro, .int .i64 ppd, .int .i64 pby, .int .i64 mrx, .int .i64 qb] 23))
  obtain ⟨g0, g1, g2, g3, g4, g5, g6, g7, g8, g9⟩ := cells10 HCB.out
  clear hs0 hl0 hck hm
  go_enter Try.func3, Try.ntmps3
  go_wp2_with (go_at_call 20; (with_reducible refine (HN.out _).mono ?_); rintro e w1 ⟨x, q, wd, rfl, hu⟩; (have HU := Lib.hid hu; clear hu))
  clear g0 g1 g2 g3 g4 g5 g6 g7 g8 g9
  generalize hW1 : W.alloc (.cells #[.int .i64 mode, .int .i64 bits, .int .i64 win, .int .i64 reo, .int .i64 prx, .int .i64 pro, .int .i64 ppd, .int .i64 pby, .int .i64 mrx, .int .i64 qb] 23) = W1 at *
  have HWW := Lib.hid (show W1.heap.size = W.heap.size + 1 from by rw [← hW1]; simp)
  clear hW1
  go_loopw [7, 8] (fun s7 s8 wr => ∃ (i sn last : Nat) (ts : List Txt), i ≤ 80 ∧ i ≤ n0 ∧ s8 = .int .i64 i ∧ s7 = .int .i64 sn ∧ Hid (US W1 wr x q ⟨mode, bits, win, reo, prx, pro, ppd, pby, mrx, qb⟩ sn wd last ts) ∧ Hid (last ≤ i)) (fun _ s8 _ => 80 - (intOf s8).toNat)
  case atStart => exact ⟨0, 0, 0, [], by omega, by omega, rfl, rfl, HU, Lib.hid (Nat.le_refl _)⟩
  case round =>
    obtain ⟨i, sn, last, ts, hi, hin, rfl, rfl, HUr, HLr⟩ := hrel
    by_cases hlt : i < n0 ∧ i < 80
    · obtain ⟨hlt1, hlt2⟩ := hlt
      have hi1 : (i : Int) < n0 := by omega
      have hi2 : (i : Int) < 80 := by omega
      have hi0 : (0 : Int) ≤ i := by omega
      have HI := Lib.hid (And.intro hlt1 hlt2)
      obtain ⟨o, ho⟩ : ∃ o, l0[i]? = some o := ⟨_, List.getElem?_eq_getElem (by rw [HL0.out]; exact hlt1)⟩
      obtain ⟨bq, off, rfl, hq⟩ := HS0.out (by rw [HL0.out]; omega)
      obtain ⟨q0, q1, q2, q3⟩ := hq i o ho
      have hbw := bl_step HB0.out HUr.out.bl
      have z0 := kept_box hbw q0
      have z1 := kept_box hbw q1
      have z2 := kept_box hbw q2
      have HROK := Lib.hid (q3.later HB0.out)
      obtain ⟨kd, nn, r⟩ := o
      simp only at z0 z1 z2
      unfold RowB.v at z2
      obtain ⟨m, hmm⟩ : ∃ m, r.bs.length = m := ⟨_, rfl⟩
      rw [hmm] at z2
      have HM := Lib.hid hmm
      have HOB := Lib.hid (Row.made wr 32 #[.int .i64 kd, .int .i64 nn, .slice r.A m r.cap])
      have HT := Lib.hid (HUr.out.later (bl_alloc (Below.refl _ _) (.cells #[.int .i64 kd, .int .i64 nn, .slice r.A m r.cap] 32)))
      clear ho hq q0 q1 q2 q3 hlt1 hlt2 hi hin hbw hmm
      go_upto_region 9 with fail
      generalize hQ : (wr.alloc (.cells #[.int .i64 kd, .int .i64 nn, .slice r.A m r.cap] 32)) = wq at *
      clear hQ
      generalize hob : wr.heap.size = oo at *
      clear hob z0 z1 z2
      have d0 := HOB.out.read (i := 0) (x := .int .i64 kd) rfl
      have d1 := HOB.out.read (i := 1) (x := .int .i64 nn) rfl
      have d2 := HOB.out.read (i := 2) (x := .slice r.A m r.cap) rfl
      by_cases hgr : (1100 : Int) < m
      · go_wp2_with (go_at_call 21; (with_reducible refine (HA.out _).mono ?_); rintro e w2 ⟨rfl, hb⟩; (have HB2 := Lib.hid (bl_step HT.out.bl hb); clear hb))
        go_ret
        exact ⟨rfl, bl_step HB0.out HB2.out⟩
      · have HMM := Lib.hid (show m ≤ 1100 by omega)
        have HLST := Lib.hid (show last ≤ 80 by have := HLr.out; have := HI.out; omega)
        rcases Classical.em (kd = 0) with hk0 | hk0
        · subst hk0
          have HPU := Lib.hid (HT.out.push r.A r.bs m r.cap HM.out (by have := HMM.out; omega) (by have := HLST.out; omega) HROK.out.2.2.2 HROK.out.1)
          go_wp2_with (first
            | (go_at_call 22; (with_reducible refine HPU.out.mono ?_); rintro e w5 ⟨nid, er, last2, ts2, rfl, hu, hl2, _, _⟩; (have HT9 := Lib.hid hu; have HL2 := Lib.hid hl2; clear hu hl2))
            | (go_at_call 27; (with_reducible refine HT9.out.nx.mono ?_); rintro e w8 ⟨rfl, rfl⟩))
          go_roundw
          case rel => exact ⟨i + 1, sn, last2, ts2, by have := HI.out; omega, by have := HI.out; omega, by go_num, rfl, HT9, Lib.hid (by have := HLr.out; have := HL2.out; omega)⟩
          case measure => have := HI.out; simp [intOf]; omega
        · have k0 : (kd == 0) = false := by simpa using hk0
          rcases Classical.em (kd = 1) with hk1 | hk1
          · subst hk1
            by_cases hn0 : 0 ≤ nn
            · obtain ⟨nid, hnid⟩ : ∃ k : Nat, IntKind.u64.wrap nn = k := ⟨(IntKind.u64.wrap nn).toNat, by rw [IntKind.wrap_u64]; omega⟩
              have HPU := Lib.hid (HT.out.disc nid)
              go_wp2_with (first
                | (go_at_call 23; (with_reducible refine HPU.out.mono ?_); rintro e w5 ⟨rfl, hu, _⟩; (have HT9 := Lib.hid hu; clear hu))
                | (go_at_call 27; (with_reducible refine HT9.out.nx.mono ?_); rintro e w8 ⟨rfl, rfl⟩))
              go_roundw
              case rel => exact ⟨i + 1, sn, last, (discF nid ts), by have := HI.out; omega, by have := HI.out; omega, by go_num, rfl, HT9, Lib.hid (by have := HLr.out; omega)⟩
              case measure => have := HI.out; simp [intOf]; omega
            · have HT9 := HT
              go_wp2_with (first
                | (go_at_call 27; (with_reducible refine HT9.out.nx.mono ?_); rintro e w8 ⟨rfl, rfl⟩))
              go_roundw
              case rel => exact ⟨i + 1, sn, last, ts, by have := HI.out; omega, by have := HI.out; omega, by go_num, rfl, HT9, Lib.hid (by have := HLr.out; omega)⟩
              case measure => have := HI.out; simp [intOf]; omega
          · have k1 : (kd == 1) = false := by simpa using hk1
            rcases Classical.em (kd = 2) with hk2 | hk2
            · subst hk2
              by_cases hf : faultU nn (bytesF ts : Nat) bits = 0
              · have HBW := Lib.hid (show bits = (wd : Int) from HT.out.hcb)
                rcases HT.out.hwd with hwd | hwd
                · subst hwd
                  have hbi : bits = 5 := HBW.out
                  subst hbi
                  have HPU := Lib.hid (HT.out.build nn hf)
                  have HSM := Lib.hid (fun t ht => (HT.out.qs.bytes t ht).2.2)
                  clear hf
                  go_upto_region 21 with (first
                    | (go_at_call 24; (with_reducible refine HPU.out.mono ?_); rintro e w5 ⟨k, f, n, ts', D, L, v, rfl, _, ho, h4, _, h5, _, _, _, hu, _, _⟩; obtain ⟨A5, cp5, e5, _⟩ := ho.form; (obtain ⟨m5, hm5⟩ : ∃ m5, (umdBytes f sn L 5).length = m5 := ⟨_, rfl⟩); rw [hm5] at e5; subst e5; (have HT5 := Lib.hid hu; have HRD := Lib.hid (fun V (hb : Below w5.heap.size w5 V) => built_read5 (ho.later hb) hm5 h4 (by rw [h5]; exact fieldsT_small HSM.out)); have cf5 := (HCB.out.later hu.bl).read (i := 1) (x := .int .i64 5) rfl; clear ho h4 h5 hu hm5))
                    | (go_at_call 25; (first | (with_reducible refine (HRD.out _ (Below.refl _ _)).mono ?_) | (with_reducible refine (HRD.out _ (bl_alloc (Below.refl _ _) _)).mono ?_)); rintro e w6 ⟨M, A6, c6, rfl, _, _, hb6⟩; (have cf6 := (Row.later (HCB.out.later HT5.out.bl) (by first | exact hb6 | exact bl_step (bl_alloc (Below.refl _ _) _) hb6)).read (i := 1) (x := .int .i64 5) rfl; have HT6 := Lib.hid (HT5.out.later (by first | exact hb6 | exact bl_step (bl_alloc (Below.refl _ _) _) hb6)); clear hb6)))
                  have HUR := Lib.hid (Row.made w6 42 #[.int .i64 f, .int .i64 sn, .slice A6 M.length c6])
                  have HT9 := Lib.hid (HT6.out.later (bl_alloc (Below.refl _ _) (.cells #[.int .i64 f, .int .i64 sn, .slice A6 M.length c6] 42)))
                  have cf7 := kept_box (bl_alloc (Below.refl w6.heap.size w6) (.cells #[.int .i64 f, .int .i64 sn, .slice A6 M.length c6] 42)) cf6
                  generalize w6.alloc (.cells #[.int .i64 f, .int .i64 sn, .slice A6 M.length c6] 42) = wv at *
                  generalize w6.heap.size = bv at *
                  have dv1 := HUR.out.read (i := 1) (x := .int .i64 sn) rfl
                  have hsn9 := HT.out.hsn
                  clear cf5 cf6 HRD HUR
                  go_wp2_with (first
                    | (go_at_call 27; (with_reducible refine HT9.out.nx.mono ?_); rintro e w8 ⟨rfl, rfl⟩))
                  go_roundw
                  case rel => exact ⟨i + 1, ((sn + 1) % 2 ^ 5), last, ts', by have := HI.out; omega, by have := HI.out; omega, by go_num, rfl, HT9, Lib.hid (by have := HLr.out; omega)⟩
                  case measure => have := HI.out; simp [intOf]; omega
                · subst hwd
                  have hbi : bits = 10 := HBW.out
                  subst hbi
                  have HPU := Lib.hid (HT.out.build nn hf)
                  have HSM := Lib.hid (fun t ht => (HT.out.qs.bytes t ht).2.2)
                  clear hf
                  go_upto_region 21 with (first
                    | (go_at_call 24; (with_reducible refine HPU.out.mono ?_); rintro e w5 ⟨k, f, n, ts', D, L, v, rfl, _, ho, h4, _, h5, _, _, _, hu, _, _⟩; obtain ⟨A5, cp5, e5, _⟩ := ho.form; (obtain ⟨m5, hm5⟩ : ∃ m5, (umdBytes f sn L 10).length = m5 := ⟨_, rfl⟩); rw [hm5] at e5; subst e5; (have HT5 := Lib.hid hu; have HRD := Lib.hid (fun V (hb : Below w5.heap.size w5 V) => built_read10 (ho.later hb) hm5 h4 (by rw [h5]; exact fieldsT_small HSM.out)); have cf5 := (HCB.out.later hu.bl).read (i := 1) (x := .int .i64 10) rfl; clear ho h4 h5 hu hm5))
                    | (go_at_call 25; (first | (with_reducible refine (HRD.out _ (Below.refl _ _)).mono ?_) | (with_reducible refine (HRD.out _ (bl_alloc (Below.refl _ _) _)).mono ?_)); rintro e w6 ⟨M, A6, c6, rfl, _, _, hb6⟩; (have cf6 := (Row.later (HCB.out.later HT5.out.bl) (by first | exact hb6 | exact bl_step (bl_alloc (Below.refl _ _) _) hb6)).read (i := 1) (x := .int .i64 10) rfl; have HT6 := Lib.hid (HT5.out.later (by first | exact hb6 | exact bl_step (bl_alloc (Below.refl _ _) _) hb6)); clear hb6)))
                  have HUR := Lib.hid (Row.made w6 42 #[.int .i64 f, .int .i64 sn, .slice A6 M.length c6])
                  have HT9 := Lib.hid (HT6.out.later (bl_alloc (Below.refl _ _) (.cells #[.int .i64 f, .int .i64 sn, .slice A6 M.length c6] 42)))
                  have cf7 := kept_box (bl_alloc (Below.refl w6.heap.size w6) (.cells #[.int .i64 f, .int .i64 sn, .slice A6 M.length c6] 42)) cf6
                  generalize w6.alloc (.cells #[.int .i64 f, .int .i64 sn, .slice A6 M.length c6] 42) = wv at *
                  generalize w6.heap.size = bv at *
                  have dv1 := HUR.out.read (i := 1) (x := .int .i64 sn) rfl
                  have hsn9 := HT.out.hsn
                  clear cf5 cf6 HRD HUR
                  go_wp2_with (first
                    | (go_at_call 27; (with_reducible refine HT9.out.nx.mono ?_); rintro e w8 ⟨rfl, rfl⟩))
                  go_roundw
                  case rel => exact ⟨i + 1, ((sn + 1) % 2 ^ 10), last, ts', by have := HI.out; omega, by have := HI.out; omega, by go_num, rfl, HT9, Lib.hid (by have := HLr.out; omega)⟩
                  case measure => have := HI.out; simp [intOf]; omega
              · have HPU := Lib.hid (HT.out.build_no nn hf)
                have hne : (faultU nn (bytesF ts : Nat) bits == 0) = false := by simpa using hf
                simp only at HPU
                generalize faultU nn (bytesF ts : Nat) bits = er at *
                go_wp2_with (first
                  | (go_at_call 24; (with_reducible refine HPU.out.mono ?_); rintro e w5 ⟨rfl, hu, _⟩; (have HT9 := Lib.hid hu; clear hu))
                  | (go_at_call 27; (with_reducible refine HT9.out.nx.mono ?_); rintro e w8 ⟨rfl, rfl⟩))
                go_roundw
                case rel => exact ⟨i + 1, sn, last, ts, by have := HI.out; omega, by have := HI.out; omega, by go_num, rfl, HT9, Lib.hid (by have := HLr.out; omega)⟩
                case measure => have := HI.out; simp [intOf]; omega
            · have k2 : (kd == 2) = false := by simpa using hk2
              rcases Classical.em (kd = 3) with hk3 | hk3
              · subst hk3
                have HPU := Lib.hid HT.out.reset
                go_wp2_with (first
                  | (go_at_call 26; (with_reducible refine HPU.out.mono ?_); rintro e w5 ⟨g5, rfl, _, _, hu, _⟩; (have HT9 := Lib.hid hu; clear hu))
                  | (go_at_call 27; (with_reducible refine HT9.out.nx.mono ?_); rintro e w8 ⟨rfl, rfl⟩))
                go_roundw
                case rel => exact ⟨i + 1, 0, last, [], by have := HI.out; omega, by have := HI.out; omega, by go_num, rfl, HT9, Lib.hid (by have := HLr.out; omega)⟩
                case measure => have := HI.out; simp [intOf]; omega
              · have k3 : (kd == 3) = false := by simpa using hk3
                have HT9 := HT
                go_wp2_with (first
                  | (go_at_call 27; (with_reducible refine HT9.out.nx.mono ?_); rintro e w8 ⟨rfl, rfl⟩))
                go_roundw
                case rel => exact ⟨i + 1, sn, last, ts, by have := HI.out; omega, by have := HI.out; omega, by go_num, rfl, HT9, Lib.hid (by have := HLr.out; omega)⟩
                case measure => have := HI.out; simp [intOf]; omega
    · by_cases hc1 : i < n0
      · have hi2 : ¬ (i : Int) < 80 := by omega
        have hi1 : (i : Int) < n0 := by omega
        clear hlt
        go_wp2_with (go_at_call 21; (with_reducible refine (HA.out _).mono ?_); rintro e w2 ⟨rfl, hb⟩; (have HB2 := Lib.hid (bl_step HUr.out.bl hb); clear hb))
        go_ret
        exact ⟨rfl, bl_step HB0.out HB2.out⟩
      · have hi1 : ¬ (i : Int) < n0 := by omega
        clear hlt
        go_wp2_with (go_at_call 21; (with_reducible refine (HA.out _).mono ?_); rintro e w2 ⟨rfl, hb⟩; (have HB2 := Lib.hid (bl_step HUr.out.bl hb); clear hb))
        go_ret
        exact ⟨rfl, bl_step HB0.out HB2.out⟩
theorem unum_every (c : Cf) (A0 : Option Addr) (l0 : List OpB) (n0 c0 : Nat) (W : World) (hl0 : l0.length = n0) (hn : n0 ≤ 9223372036854775807) (hs0 : BSrc16 W A0 l0) : Calls Try.prog 3 #[.agg c.a, .slice A0 n0 c0] W fun e w' => e = .returned (.bool true) ∧ Below W.heap.size W w' := by
  by_cases h1 : checkF c = 0
  · by_cases h2 : c.mode = 1
    · exact unum_ok c A0 l0 n0 c0 W h1 h2 hl0 hn hs0
    · exact unum_no c A0 n0 c0 W (.inr h2)
  · exact unum_no c A0 n0 c0 W (.inl h1)
end Go.Proofs.Ytgdpjaojlhdhdaa
