/-
  How the packets and bytes that a statement draws read. How lists of numbers of 16 bits that a statement draws read. ResegWhole: where the law answers at once; what both glues are at first. The document's queue: in memory; its first text, its numbers, its bytes.
-/
import Derived.Test.YtfgjlhklioijmaaJResegWhole08
import Derived.SizedLaws
import Derived.Deep.Matrix
import Derived.Lib.SmallJoins
import Derived.OpenShut
import Derived.Test.YtfgjlhklioijmaaJResegWhole32
import Derived.Test.YtfgjlhklioijmaaJResegWhole21
import Derived.Test.YtfgjlhklioijmaaJResegWhole19
import Derived.Deep.DeepCutAuto
namespace Go.Proofs.Ytfgjlhklioijmaa
open Go.ChangeShapes Go.WideShapes Go.ChangeAt Go.RowKit Go.Deep


theorem Try.cells5 : Try.prog.cellsOf 5 = 1 := by kernel_rfl
theorem Try.cells30 : Try.prog.cellsOf 30 = 1 := by kernel_rfl
theorem nums_src {W : World} {a : Addr} {cap len : Nat} {zs : List Int} (hl : len ≤ cap) (hz : zs.length = cap) (hc : ∀ j, j < cap → W.cell? (a.add j) = some (.int .u8 (zs.getD j 0))) (hw : ∀ n ∈ zs, (Lit.int .u8 n).wf = true) :
    ((zs.take len).map Int.toNat).length = len ∧ Src W (some a) (bts ((zs.take len).map Int.toNat)) ∧ ∀ b ∈ (zs.take len).map Int.toNat, b < 256 := by
  have hlen : ((zs.take len).map Int.toNat).length = len := by rw [List.length_map, List.length_take]; omega
  refine ⟨hlen, fun h0 => ⟨a, rfl, fun j u hu => ?_⟩, fun b hb => ?_⟩
  · have hj : j < len := by
      have h1 := (List.getElem?_eq_some_iff.1 hu).1
      rw [length_bts, hlen] at h1
      exact h1
    have h2 := hc j (by omega)
    rw [h2]
    have hjz : j < zs.length := by omega
    have hww := bounds_u8 (hw zs[j] (List.getElem_mem hjz))
    have h3 : ((zs.take len).map Int.toNat)[j]? = some zs[j].toNat := by
      rw [List.getElem?_map, List.getElem?_take, if_pos hj, List.getElem?_eq_getElem hjz]
      rfl
    have h4 := bts_at h3
    rw [h4] at hu
    injection hu with hu
    rw [← hu, List.getD_eq_getElem?_getD, List.getElem?_eq_getElem hjz]
    simp only [Option.getD_some]
    rw [Int.toNat_of_nonneg hww.1]
  · rw [List.mem_map] at hb
    obtain ⟨z, hz2, rfl⟩ := hb
    have hww := bounds_u8 (hw z (List.mem_of_mem_take hz2))
    omega
set_option maxRecDepth 100000 in
theorem bytes_arg {H : Type} {enc : TypeId × Value → H} {W : World} {base : Nat} {v : Value} {d : DataW H} {p : List MemPlace} (hok : Value.okWide Try.prog W .any base 30 v)
    (h : DataW.Trod enc Try.prog W 0 (fun _ => true) true 30 v d p) : ∃ (A : Option Addr) (cap : Nat) (l : List Nat), v = .slice A l.length cap ∧ l.length ≤ cap ∧ cap ≤ 9223372036854775807 ∧ Src W A (bts l) ∧ ∀ b ∈ l, b < 256 := by
  obtain ⟨a0, len, cap, rfl⟩ := okWide_slice Try.underlying30 hok
  obtain ⟨fuel, hf⟩ := h
  rcases open_ints Try.underlying30 Try.underlying5 Try.cells5 hf with ⟨hcs, _⟩ | ⟨a, len', cap', zs, hcs, _, hl, hm, hz, _, hcell, hwz⟩
  · simp only [Value.cells] at hcs
    have e : Value.slice a0 len cap = .slice none 0 0 := by simpa using hcs
    rw [e]
    exact ⟨none, 0, [], rfl, Nat.le_refl _, by omega, fun h0 => absurd h0 (by simp [bts]), fun b hb => by cases hb⟩
  · have e : Value.slice a0 len cap = .slice (some a) len' cap' := by simpa [Value.cells] using hcs
    rw [e]
    have hz' : zs.length = cap' := by simpa using hz
    obtain ⟨h1, h2, h3⟩ := nums_src (W := W) (a := a) hl hz' (fun j hj => hcell j (by omega)) hwz
    exact ⟨some a, cap', _, by rw [h1], by omega, by unfold maxLen at hm; exact hm, h2, h3⟩
set_option maxRecDepth 100000 in
theorem rows_cells {H : Type} {enc : TypeId × Value → H} {W : World} {fuel : Nat} {v : Value} {y : DataW H × List MemPlace} (hf : DataW.trod enc Try.prog W 0 (fun _ => true) true fuel 22 [v] = some y) :
    ∃ (A : Option Addr) (cap : Nat) (L : List RowB), v = .slice A L.length cap ∧ L.length ≤ cap ∧ cap ≤ 9223372036854775807 ∧ RSrc W A L ∧ ∀ m ∈ lens L, m ≤ 9223372036854775807 := by
  rcases open_int_rows Try.underlying22 Try.underlying30 Try.underlying5 Try.cells30 Try.cells5 hf with ⟨hcs, _⟩ | ⟨a, len', cap', A, L, C, Z, hcs, _, hl, hm, _, hx⟩
  · have e : v = .slice none 0 0 := by simpa [Value.cells] using hcs
    rw [e]
    exact ⟨none, 0, [], rfl, Nat.le_refl _, by omega, fun h0 => absurd h0 (by simp), fun m hm => by cases hm⟩
  · have e : v = .slice (some a) len' cap' := by simpa [Value.cells] using hcs
    rw [e]
    have hlen : ((List.range len').map fun k => (⟨A k, C k, ((Z k).take (L k)).map Int.toNat⟩ : RowB)).length = len' := by simp
    have hrow : ∀ k r, ((List.range len').map fun k => (⟨A k, C k, ((Z k).take (L k)).map Int.toNat⟩ : RowB))[k]? = some r → W.cell? (a.add k) = some r.v ∧ r.ok W := by
      intro k r hr
      have hk : k < len' := by
        have h1 := (List.getElem?_eq_some_iff.1 hr).1
        rw [hlen] at h1
        exact h1
      have hr' : r = ⟨A k, C k, ((Z k).take (L k)).map Int.toNat⟩ := by
        rw [List.getElem?_map, List.getElem?_range hk] at hr
        simp only [Option.map_some, Option.some.injEq] at hr
        exact hr.symm
      subst hr'
      obtain ⟨h1, h2, h3, h4, h5, h6, h7⟩ := hx k (by omega)
      unfold maxLen at h3
      have hll : (((Z k).take (L k)).map Int.toNat).length = L k := by rw [List.length_map, List.length_take]; omega
      refine ⟨by rw [h1]; show _ = some (Value.slice (A k) (((Z k).take (L k)).map Int.toNat).length (C k)); rw [hll], ?_⟩
      cases hA : A k with
      | none =>
        have hc0 := h6 hA
        have hl0 : L k = 0 := by omega
        refine ⟨fun h0 => ?_, by rw [hll]; exact h2, h3, fun b hb => ?_⟩
        · rw [length_bts, hll] at h0; omega
        · rw [hl0] at hb; simp at hb
      | some a' =>
        obtain ⟨_, hc⟩ := h7 a' hA
        obtain ⟨_, g2, g3⟩ := nums_src (W := W) h2 h4 hc h5
        exact ⟨g2, by rw [hll]; exact h2, h3, g3⟩
    refine ⟨some a, cap', (List.range len').map fun k => ⟨A k, C k, ((Z k).take (L k)).map Int.toNat⟩, by rw [hlen], by omega, by unfold maxLen at hm; exact hm, fun h0 => ⟨a, rfl, hrow⟩, fun m hm2 => ?_⟩
    obtain ⟨k, hk⟩ := List.getElem?_of_mem hm2
    simp only [lens, List.getElem?_map, Option.map_eq_some_iff] at hk
    obtain ⟨r, hr, rfl⟩ := hk
    have h9 := (hrow k r (by rw [List.getElem?_map, Option.map_eq_some_iff]; exact hr)).2
    have := h9.2.1
    have := h9.2.2.1
    omega
set_option maxRecDepth 100000 in
/-- a packet of umd as it came in -/
theorem upack_arg {H : Type} {enc : TypeId × Value → H} {W : World} {base : Nat} {v : Value} {d : DataW H} {p : List MemPlace} (hok : Value.okWide Try.prog W .any base 51 v)
    (h : DataW.Trod enc Try.prog W 0 (fun _ => true) true 51 v d p) : ∃ (fi sn : Int) (A : Option Addr) (cap : Nat) (L : List RowB), v = .agg #[.int .i64 fi, .int .i64 sn, .slice A L.length cap] ∧ L.length ≤ cap ∧ cap ≤ 9223372036854775807 ∧ RSrc W A L ∧ ∀ m ∈ lens L, m ≤ 9223372036854775807 := by
  obtain ⟨v0, v1, v2, y0, y1, y2, k, rfl, _, _, h0, h1, h2⟩ := Joins.open_agg3 Try.underlying51 (by kernel_rfl) (by kernel_rfl) hok h
  obtain ⟨A, cap, L, rfl, g1, g2, g3, g4⟩ := rows_cells h2
  obtain ⟨fi, rfl⟩ : ∃ fi, v0 = .int .i64 fi := by
    obtain ⟨n, h9, _⟩ := DataW.trod_int Try.underlying3 h0
    exact ⟨n, by simpa using h9⟩
  obtain ⟨sn, rfl⟩ : ∃ sn, v1 = .int .i64 sn := by
    obtain ⟨n, h9, _⟩ := DataW.trod_int Try.underlying3 h1
    exact ⟨n, by simpa using h9⟩
  exact ⟨fi, sn, A, cap, L, rfl, g1, g2, g3, g4⟩
end Go.Proofs.Ytfgjlhklioijmaa
namespace Go.Proofs.Ytfgjlhklioijmaa
open Go.ChangeShapes Go.WideShapes Go.ChangeAt Go.RowKit Go.Deep

theorem Try.cells164 : Try.prog.cellsOf 164 = 1 := by kernel_rfl
/-- numbers of 16 bits as values -/
def u16v (l : List Nat) : List Value := l.map fun b : Nat => .int .u16 b
theorem length_u16v (l : List Nat) : (u16v l).length = l.length := by simp [u16v]
theorem u16v_at {l : List Nat} {i b : Nat} (h : l[i]? = some b) : (u16v l)[i]? = some (.int .u16 b) := by simp [u16v, h]
theorem nums_src16 {W : World} {a : Addr} {cap len : Nat} {zs : List Int} (hl : len ≤ cap) (hz : zs.length = cap) (hc : ∀ j, j < cap → W.cell? (a.add j) = some (.int .u16 (zs.getD j 0))) (hw : ∀ n ∈ zs, (Lit.int .u16 n).wf = true) :
    ((zs.take len).map Int.toNat).length = len ∧ Src W (some a) (u16v ((zs.take len).map Int.toNat)) ∧ ∀ b ∈ (zs.take len).map Int.toNat, b < 65536 := by
  have hlen : ((zs.take len).map Int.toNat).length = len := by rw [List.length_map, List.length_take]; omega
  refine ⟨hlen, fun h0 => ⟨a, rfl, fun j u hu => ?_⟩, fun b hb => ?_⟩
  · have hj : j < len := by
      have h1 := (List.getElem?_eq_some_iff.1 hu).1
      rw [length_u16v, hlen] at h1
      exact h1
    have h2 := hc j (by omega)
    rw [h2]
    have hjz : j < zs.length := by omega
    have hww := bounds_u16 (hw zs[j] (List.getElem_mem hjz))
    have h3 : ((zs.take len).map Int.toNat)[j]? = some zs[j].toNat := by
      rw [List.getElem?_map, List.getElem?_take, if_pos hj, List.getElem?_eq_getElem hjz]
      rfl
    have h4 := u16v_at h3
    rw [h4] at hu
    injection hu with hu
    rw [← hu, List.getD_eq_getElem?_getD, List.getElem?_eq_getElem hjz]
    simp only [Option.getD_some]
    rw [Int.toNat_of_nonneg hww.1]
  · rw [List.mem_map] at hb
    obtain ⟨z, hz2, rfl⟩ := hb
    have hww := bounds_u16 (hw z (List.mem_of_mem_take hz2))
    omega
set_option maxRecDepth 100000 in
theorem u16s_arg {H : Type} {enc : TypeId × Value → H} {W : World} {base : Nat} {v : Value} {d : DataW H} {p : List MemPlace} (hok : Value.okWide Try.prog W .any base 161 v)
    (h : DataW.Trod enc Try.prog W 0 (fun _ => true) true 161 v d p) : ∃ (A : Option Addr) (cap : Nat) (l : List Nat), v = .slice A l.length cap ∧ l.length ≤ cap ∧ cap ≤ 9223372036854775807 ∧ Src W A (u16v l) ∧ ∀ b ∈ l, b < 65536 := by
  obtain ⟨a0, len, cap, rfl⟩ := okWide_slice Try.underlying161 hok
  obtain ⟨fuel, hf⟩ := h
  rcases open_ints Try.underlying161 Try.underlying164 Try.cells164 hf with ⟨hcs, _⟩ | ⟨a, len', cap', zs, hcs, _, hl, hm, hz, _, hcell, hwz⟩
  · simp only [Value.cells] at hcs
    have e : Value.slice a0 len cap = .slice none 0 0 := by simpa using hcs
    rw [e]
    exact ⟨none, 0, [], rfl, Nat.le_refl _, by omega, fun h0 => absurd h0 (by simp [u16v]), fun b hb => by cases hb⟩
  · have e : Value.slice a0 len cap = .slice (some a) len' cap' := by simpa [Value.cells] using hcs
    rw [e]
    have hz' : zs.length = cap' := by simpa using hz
    obtain ⟨h1, h2, h3⟩ := nums_src16 (W := W) (a := a) hl hz' (fun j hj => hcell j (by omega)) hwz
    exact ⟨some a, cap', _, by rw [h1], by omega, by unfold maxLen at hm; exact hm, h2, h3⟩
end Go.Proofs.Ytfgjlhklioijmaa
namespace Go.Proofs.Ytfgjlhklioijmaa
open Go.RowKit

set_option maxRecDepth 100000 in
set_option maxHeartbeats 3200000 in
theorem rwhole_none {A A1 A3 : Option Addr} {L : List RowB} (poll part last : Bool) (fi sn off wd : Int) (n cap n1 c1 m c3 : Nat) (w : World) (hL : L.length = n) (hn : n ≤ 9223372036854775807) (hn1 : n1 ≤ 9223372036854775807) (hm3 : m ≤ 9223372036854775807) (hs : RSrc w A L) (hm : ∀ m ∈ lens L, m ≤ 9223372036854775807) (hno : part = true ∨ amdF part last fi sn off (lens L) wd = 0 ∨ n1 = 0 ∨ 500 < m) :
    Calls Try.prog 14 #[.agg #[.bool poll, .int .i64 fi, .int .i64 sn, .bool part, .bool last, .int .i64 off, .slice A n cap], .slice A1 n1 c1, .int .i64 wd, .slice A3 m c3] w fun e w' => e = .returned (.bool true) ∧ Below w.heap.size w w' := by
  have HB0 := Lib.hid (bl_alloc (Below.refl w.heap.size w) (.cells #[.bool poll, .int .i64 fi, .int .i64 sn, .bool part, .bool last, .int .i64 off, .slice A n cap] 24))
  have HGR := Lib.hid (great_any n cap (w.alloc (.cells #[.bool poll, .int .i64 fi, .int .i64 sn, .bool part, .bool last, .int .i64 off, .slice A n cap] 24)) hL hn (hs.later HB0.out) hm)
  have HR := Lib.hid (fun W (hb : Below w.heap.size w W) => aright_any (A := A) poll part last fi sn off wd n cap W hL hn (hs.later hb) hm)
  generalize hF : decide (0 < amdF part last fi sn off (lens L) wd) = F at *
  have hcase : part = true ∨ (part = false ∧ F = false) ∨ (part = false ∧ F = true ∧ n1 = 0) ∨ (part = false ∧ F = true ∧ 0 < n1 ∧ 500 < m) := by
    have h0 := amdF_nonneg part last fi sn off (lens L) wd
    cases part
    · cases F
      · exact .inr (.inl ⟨rfl, rfl⟩)
      · have h1 := of_decide_eq_true hF
        rcases hno with h | h | h | h
        · cases h
        · omega
        · exact .inr (.inr (.inl ⟨rfl, rfl, h⟩))
        · rcases Nat.eq_zero_or_pos n1 with h2 | h2
          · exact .inr (.inr (.inl ⟨rfl, rfl, h2⟩))
          · exact .inr (.inr (.inr ⟨rfl, rfl, h2, h⟩))
    · exact .inl rfl
  clear hs hL hm hno hF
  rcases hcase with rfl | ⟨rfl, rfl⟩ | ⟨rfl, rfl, rfl⟩ | ⟨rfl, rfl, h1, h5⟩
  all_goals try (have h1b : ((n1 : Int) == 0) = false := by simp; omega)
  all_goals try (have h5b : (500 : Int) < m := by omega)
  all_goals
    go_enter Try.func14, Try.ntmps14
    go_wp2_with (go_at_call 20; refine HGR.out.mono ?_; rintro e w1 ⟨⟨b, rfl, hbb⟩, rfl⟩; clear hbb; cases b)
    all_goals
      have HB1 := HB0
      go_wp2_with (first
        | (go_at_call 26; (with_reducible refine (HR.out _ HB0.out).mono ?_); rintro e w3 ⟨rfl, hb3⟩; (have HB1 := Lib.hid (bl_step HB0.out hb3)); clear hb3)
        | (go_at_call 106; refine (rsalive_any _).mono ?_; rintro e w2 ⟨rfl, hb2⟩))
      go_ret
      exact ⟨rfl, bl_step HB1.out hb2⟩
theorem two_new {w w3 w4 w5 : World} (hb : Below w.heap.size w w3) (hg : GRep w3.heap.size w4 w3.heap.size (.slice none 0 0) ⟨[], 0⟩) (hb4 : Below w3.heap.size w3 w4) (hg2 : GRep w4.heap.size w5 w4.heap.size (.slice none 0 0) ⟨[], 0⟩) (hb5 : Below w4.heap.size w4 w5) : TwoG w w3.heap.size w4.heap.size (.slice none 0 0) (.slice none 0 0) ⟨[], 0⟩ ⟨[], 0⟩ w5 := by
  have h1 := hg.1.inside
  have h2 := hb.size
  refine ⟨⟨(hg.later hb5).1, ownY_nil _ _⟩, ⟨hg2.1, ownY_nil _ _⟩, fun k hk hk2 => ?_, by omega, by omega, bl_step (bl_step hb hb4) hb5⟩
  rcases hk with hk | hk
  · rcases hk2 with hk2 | hk2
    · omega
    · simp [Value.ownBlock] at hk2
  · simp [Value.ownBlock] at hk
section
variable {W w w' : World} {p1 p2 p : Nat} {h1 h2 : Value} {s1 s2 : GS}
theorem TwoG.old1 (h : TwoG W p1 p2 h1 h2 s1 s2 w) {v : World} (hv : Below w.heap.size w v) (ho : Only (GS1 p1 h1) v w') : Below W.heap.size W w' :=
  (bl_step h.bl hv).trans (ho.below (Nat.le_trans h.bl.size hv.size) fun k hk hk1 => by have := h.g1.block_ge h.o1 k hk1; omega)
theorem one_src (h : TwoG W p1 p2 h1 h2 s1 s2 w) (r : RowB) (hr : r.ok W) (ho : Only (GS1 p1 h1) (w.alloc (.cells #[r.v] 30)) w') : RSrc w' (some ⟨w.heap.size, 0, none⟩) [r] := by
  have hb := h.old1 (bl_alloc (Below.refl _ _) _) ho
  have hrow : Row w' w.heap.size 30 #[r.v] := (Row.made w 30 #[r.v]).only ho (fun hk => by have := h.g1.block_lt _ hk; omega)
  refine g_rsrc (L := [r]) hrow (fun x hx => ?_)
  simp at hx
  subst hx
  exact hr.later hb
theorem put_ahead {la : List Nat} (h : la.length ≤ 500) : putG 1 [la] false ⟨[], 0⟩ = (⟨la, 0⟩, []) := by
  have h1 : la.length ≤ 1000 := by omega
  simp [putG, goG, beg, fin, GS.come, GS.told, GS.lose, h1]
end
theorem ahead_ok {A3 : Option Addr} {c3 : Nat} {la : List Nat} (h : 0 < la.length) : okG ((1 : Nat) : Int) (lens [⟨A3, c3, la⟩]) = true :=
  okG_of (by omega) (by omega) (by simp [lens]) (by simp [lens]) (fun l hl => by simp [lens] at hl; omega)
/-- the bytes ahead are put into the first glue -/
theorem TwoG.ahead {W w : World} {p1 p2 : Nat} {h1 h2 : Value} {s2 : GS} {A3 : Option Addr} {c3 m : Nat} {la : List Nat} (h : TwoG W p1 p2 h1 h2 ⟨[], 0⟩ s2 w) (hr : RowB.ok W ⟨A3, c3, la⟩) (hm : la.length = m) (h0 : 0 < m) (h5 : m ≤ 500) :
    Calls Try.prog 104 #[.pointer (some ⟨p1, 0, none⟩), .int .i64 1, .slice (some ⟨w.heap.size, 0, none⟩) 1 1, .bool false] (w.alloc (.cells #[.slice A3 m c3] 30)) fun e w' => ∃ hv' A2, e = .returned (.tuple #[.slice A2 0 0, .int .i64 0]) ∧ TwoG W p1 p2 hv' h2 ⟨la, 0⟩ s2 w' ∧ Only (GS1 p1 h1) (w.alloc (.cells #[.slice A3 m c3] 30)) w' := by
  subst hm
  refine ((h.later (bl_alloc (Below.refl _ _) (.cells #[(⟨A3, c3, la⟩ : RowB).v] 30))).put (f2 := 1) (cap := 1) (M := [⟨A3, c3, la⟩]) (n := 1) rfl (fun w' ho => one_src h ⟨A3, c3, la⟩ hr ho) (ahead_ok h0) (by simp [lens]; omega) (by simp) (by simp) (by simp)).mono ?_
  rintro e w' ⟨hv', L2, A2, rfl, q1, q2, q3, q4, q5, q6, _⟩
  have hp := put_ahead (la := la) (by omega)
  have e1 : texts [(⟨A3, c3, la⟩ : RowB)] = [la] := rfl
  rw [e1, hp] at q1 q2
  have e2 := texts_nil q1
  subst e2
  exact ⟨hv', A2, rfl, q2, q5⟩
end Go.Proofs.Ytfgjlhklioijmaa
namespace Go.Proofs.Ytfgjlhklioijmaa
open Go.RowKit

structure Ent where
  g : Nat
  c : Nat
  bs : List Nat
  tk : Nat
  gone : Bool
def eL (E : List Ent) : List Value := E.map fun e => .slice (some ⟨e.g, 0, none⟩) e.bs.length e.c
def eT (E : List Ent) : List Value := E.map fun e => .int .i64 (e.tk : Int)
def eG (E : List Ent) : List Value := E.map fun e => .bool e.gone
def Ent.ok (B : Nat) (w : World) (e : Ent) : Prop :=
  0 < e.bs.length ∧ e.bs.length ≤ 1000 ∧ e.tk ≤ e.bs.length ∧ (e.gone = false → e.tk < e.bs.length) ∧ e.bs.length ≤ e.c ∧ e.c ≤ 9223372036854775807 ∧ B ≤ e.g ∧
    ∃ cs, Row w e.g 5 cs ∧ ∀ (j b : Nat), e.bs[j]? = some b → cs[j]? = some (.int .u8 b)
/-- the three lists of a queue of the document's -/
structure RL (w : World) (B : Nat) (E : List Ent) (AL AT AG : Option Addr) (cL cT cG : Nat) : Prop where
  l : w.ownsRow B 30 1 (.slice AL E.length cL) E.length (eL E)
  t : w.ownsRow B 3 1 (.slice AT E.length cT) E.length (eT E)
  g : w.ownsRow B 4 1 (.slice AG E.length cG) E.length (eG E)
structure RQ (w : World) (y B : Nat) (room : Int) (E : List Ent) : Prop where
  row : ∃ AL cL AT cT AG cG, Row w y 98 #[.int .i64 room, .slice AL E.length cL, .slice AT E.length cT, .slice AG E.length cG] ∧ RL w B E AL AT AG cL cT cG
  ent : ∀ e ∈ E, e.ok B w
  many : E.length ≤ 200
section
variable {w v : World} {y B : Nat} {room : Int} {E : List Ent} {AL AT AG : Option Addr} {cL cT cG : Nat}
theorem Ent.ok.only {S : Nat → Prop} {e : Ent} (h : e.ok B w) (ho : Only S w v) (hS : ∀ g cs, Row w g 5 cs → ¬ S g) : e.ok B v := by
  obtain ⟨h1, h2, h3, h4, h5, h6, h7, cs, h8, h9⟩ := h
  exact ⟨h1, h2, h3, h4, h5, h6, h7, cs, h8.only ho (hS _ _ h8), h9⟩
theorem own_typed {m E' n : Nat} {x : Value} {xs : List Value} {S : Nat → Prop} (h : w.ownsRow m E' 1 x n xs) (ho : Only S w v) (hS : ∀ g cs, Row w g E' cs → ¬ S g) : v.ownsRow m E' 1 x n xs :=
  own_only h ho fun k hk => by
    rcases h.2 with ⟨rfl, _⟩ | ⟨g, cap, cur, rfl, _, hh, _⟩
    · simp [Value.ownBlock] at hk
    · have e1 : g = k := by simpa [Value.ownBlock] using hk
      subst e1
      exact hS _ _ hh
theorem RQ.only {S : Nat → Prop} (h : RQ w y B room E) (ho : Only S w v) (hy : ¬ S y) (hS : ∀ g t cs, Row w g t cs → t = 3 ∨ t = 4 ∨ t = 5 ∨ t = 30 → ¬ S g) : RQ v y B room E := by
  obtain ⟨AL, cL, AT, cT, AG, cG, h1, h2⟩ := h.row
  exact ⟨⟨AL, cL, AT, cT, AG, cG, h1.only ho hy, ⟨own_typed h2.l ho fun g cs hr => hS g _ cs hr (by simp), own_typed h2.t ho fun g cs hr => hS g _ cs hr (by simp), own_typed h2.g ho fun g cs hr => hS g _ cs hr (by simp)⟩⟩, fun e he => (h.ent e he).only ho fun g cs hr => hS g _ cs hr (by simp), h.many⟩
theorem RQ.later (h : RQ w y B room E) (hb : Below w.heap.size w v) : RQ v y B room E := h.only (S := fun _ => False) (.of_below hb) (fun hk => hk) (fun _ _ _ _ _ hk => hk)
theorem eG_at {i : Nat} {e : Ent} (h : E[i]? = some e) : (eG E)[i]? = some (.bool e.gone) := by unfold eG; rw [List.getElem?_map, h]; rfl
theorem eT_at {i : Nat} {e : Ent} (h : E[i]? = some e) : (eT E)[i]? = some (.int .i64 (e.tk : Int)) := by unfold eT; rw [List.getElem?_map, h]; rfl
theorem eL_at {i : Nat} {e : Ent} (h : E[i]? = some e) : (eL E)[i]? = some (.slice (some ⟨e.g, 0, none⟩) e.bs.length e.c) := by unfold eL; rw [List.getElem?_map, h]; rfl
theorem qcells {n : Nat} (hr : Row w y 98 #[.int .i64 room, .slice AL n cL, .slice AT n cT, .slice AG n cG]) : w.cell? ⟨y, 0, none⟩ = some (.int .i64 room) ∧ w.cell? ⟨y, 1, none⟩ = some (.slice AL n cL) ∧ w.cell? ⟨y, 2, none⟩ = some (.slice AT n cT) ∧ w.cell? ⟨y, 3, none⟩ = some (.slice AG n cG) := ⟨hr.read rfl, hr.read rfl, hr.read rfl, hr.read rfl⟩
/-- the place of the first text that is not gone -/
def fE (E : List Ent) : Nat := E.findIdx fun e => !e.gone
def fEi (E : List Ent) : Int := if fE E < E.length then (fE E : Int) else -1
theorem fE_before {i : Nat} {e : Ent} (h : E[i]? = some e) (hi : i < fE E) : e.gone = true := by
  have hl := (List.getElem?_eq_some_iff.1 h).1
  have he := (List.getElem?_eq_some_iff.1 h).2
  have := List.not_of_lt_findIdx hi
  rw [he] at this
  simpa using this
theorem fE_at {e : Ent} (h : E[fE E]? = some e) : e.gone = false := by
  have hl := (List.getElem?_eq_some_iff.1 h).1
  have he := (List.getElem?_eq_some_iff.1 h).2
  have := List.findIdx_getElem (w := hl)
  rw [← he]
  simp only [Bool.not_eq_true'] at this
  exact this
theorem fE_le : fE E ≤ E.length := List.findIdx_le_length
set_option maxRecDepth 100000 in
set_option maxHeartbeats 1600000 in
theorem rq_first (h : RQ w y B room E) : Calls Try.prog 178 #[.pointer (some ⟨y, 0, none⟩)] w fun e w' => e = .returned (.int .i64 (fEi E)) ∧ w = w' := by
  obtain ⟨AL, cL, AT, cT, AG, cG, hr, hl⟩ := h.row
  have HG := Lib.hid (own_at hl.g)
  have HB := Lib.hid (fun i e (h : E[i]? = some e) (hi : i < fE E) => fE_before h hi)
  have HA := Lib.hid (fun e (h : E[fE E]? = some e) => fE_at h)
  have hle := fE_le (E := E)
  have HF := Lib.hid (show fEi E = if fE E < E.length then (fE E : Int) else -1 from rfl)
  have HN := Lib.hid (fun i (hi : i < E.length) => (⟨_, List.getElem?_eq_getElem hi⟩ : ∃ e, E[i]? = some e))
  have hm := h.many
  generalize hf : fE E = f at *
  generalize hn : E.length = n at *
  obtain ⟨c0, c1, c2, c3⟩ := qcells hr
  clear h hr hl hn hf
  go_enter Try.func178, Try.ntmps178
  go_wp2
  go_loopw [3] (fun s3 wr => ∃ i : Nat, i ≤ f ∧ s3 = .int .i64 i ∧ w = wr) (fun s3 _ => f - (intOf s3).toNat)
  case atStart => exact ⟨0, by omega, rfl, rfl⟩
  case round =>
    obtain ⟨i, hi, rfl, rfl⟩ := hrel
    by_cases hlt : i < n
    · obtain ⟨e, he⟩ := HN.out i hlt
      obtain ⟨g, rfl, z⟩ := HG.out.cell (eG_at he)
      have h1 : (i : Int) < n := by omega
      have h0 : (0 : Int) ≤ i := by omega
      by_cases hif : i < f
      · have hg := HB.out i e he hif
        rw [hg] at z
        have HIF := Lib.hid hif
        clear he hg hlt hif
        go_wp2
        go_roundw
        case rel => exact ⟨i + 1, by have := HIF.out; omega, by go_num, trivial⟩
        case measure => have := HIF.out; simp [intOf]; omega
      · obtain rfl : i = f := by omega
        have hg := HA.out e he
        rw [hg] at z
        have HR := Lib.hid (show fEi E = (i : Int) by rw [HF.out, if_pos hlt])
        clear he hg hlt hif
        go_wp2
        go_ret
        exact ⟨ret_int HR.out.symm, rfl⟩
    · have h1 : ¬ (i : Int) < n := by omega
      have HR := Lib.hid (show fEi E = -1 by rw [HF.out, if_neg (by omega)])
      clear hlt
      go_wp2
      go_ret
      exact ⟨ret_int HR.out.symm, rfl⟩
def idk (E : List Ent) (k : Nat) : List Nat := ((List.range k).filter fun i => !((E[i]?.map Ent.gone).getD true)).map fun i => i + 1
def u64v (l : List Nat) : List Value := l.map fun b : Nat => .int .u64 (b : Int)
theorem idk_succ {k : Nat} {e : Ent} (h : E[k]? = some e) : idk E (k + 1) = idk E k ++ (if e.gone = true then [] else [k + 1]) := by
  unfold idk
  rw [List.range_succ, List.filter_append, List.map_append]
  congr 1
  by_cases hg : e.gone = true
  · rw [if_pos hg, List.filter_cons_of_neg (by rw [h]; simp [hg])]; rfl
  · rw [if_neg hg, List.filter_cons_of_pos (by rw [h]; simpa using hg)]; rfl
theorem idk_le (E : List Ent) (k : Nat) : (idk E k).length ≤ k := by
  unfold idk
  rw [List.length_map]
  exact Nat.le_trans (List.length_filter_le _ _) (by simp)
theorem u64v_app (l k : List Nat) : u64v (l ++ k) = u64v l ++ u64v k := by unfold u64v; simp
set_option maxRecDepth 100000 in
set_option maxHeartbeats 3200000 in
theorem rq_ids (h : RQ w y B room E) : Calls Try.prog 74 #[.pointer (some ⟨y, 0, none⟩)] w fun e w' => ∃ A c, e = .returned (.slice A (idk E E.length).length c) ∧ SlAt w.heap.size 101 w' A (u64v (idk E E.length)) ∧ Below w.heap.size w w' := by
  obtain ⟨AL, cL, AT, cT, AG, cG, hr, hl⟩ := h.row
  have HG := Lib.hid (own_at hl.g)
  have HR := Lib.hid hr
  have HN := Lib.hid (fun i (hi : i < E.length) => (⟨_, List.getElem?_eq_getElem hi⟩ : ∃ e, E[i]? = some e))
  have HS := Lib.hid (fun k e (h : E[k]? = some e) => idk_succ h)
  have HL := Lib.hid (idk_le E)
  have HZ0 : ∀ wr : World, wr.ownsRow w.heap.size 101 1 (.slice none 0 0) (idk E 0).length (u64v (idk E 0)) := fun wr => World.ownsRow_nil _ _ _ _
  have HZ := Lib.hid HZ0
  clear HZ0
  have hm := h.many
  generalize idk E = id at *
  generalize hn : E.length = n at *
  clear h hr hl hn
  go_enter Try.func74, Try.ntmps74
  go_wp2
  go_loopw [3, 4] (fun s3 s4 wr => ∃ i : Nat, i ≤ n ∧ s4 = .int .i64 i ∧ Hid (wr.ownsRow w.heap.size 101 1 s3 (id i).length (u64v (id i))) ∧ Hid (Below w.heap.size w wr)) (fun _ s4 _ => n - (intOf s4).toNat)
  case atStart => exact ⟨0, by omega, rfl, Lib.hid (HZ.out _), Lib.hid (Below.refl _ _)⟩
  case round =>
    obtain ⟨i, hi, rfl, HOW, HBr⟩ := hrel
    obtain ⟨A3, c3', rfl, hc3, hc3m⟩ := own_shape HOW.out
    obtain ⟨c0, c1, c2, c3⟩ := qcells (HR.out.later HBr.out)
    by_cases hlt : i < n
    · obtain ⟨e, he⟩ := HN.out i hlt
      obtain ⟨g, rfl, z⟩ := (HG.out.later HBr.out).cell (eG_at he)
      have h1 : (i : Int) < n := by omega
      have h0 : (0 : Int) ≤ i := by omega
      have HSI := Lib.hid (HS.out i e he)
      have HLT := Lib.hid hlt
      have hu : IntKind.u64.wrap ((i : Int) + 1) = ((i + 1 : Nat) : Int) := by rw [IntKind.wrap_u64]; omega
      have hu0 : IntKind.u64.wrap (i : Int) = (i : Int) := by rw [IntKind.wrap_u64]; omega
      clear he hlt
      cases hg : e.gone
      · rw [hg] at z HSI
        simp only [Bool.false_eq_true, if_false] at HSI
        obtain ⟨A', c', w3, hrun, hown, hon⟩ := own_next (T := 108) (E := 101) (u := .int .u64 ((i + 1 : Nat) : Int)) (by kernel_rfl) (show (Try.prog.info? 101).map (fun i => (i.zero, i.size, i.bytes)) = some (some (.int .u64 0), 1, 8) by kernel_rfl) rfl (by omega) rfl HOW.out HBr.out.size (by have := HL.out i; omega)
        have HRUN := Lib.hid hrun
        have HOWN := Lib.hid hown
        have HON := Lib.hid (hon.below HBr.out.size (fun j hj hk => by have := (own_block HOW.out j hk).1; omega))
        clear hrun hown hon hg
        go_wp2_with (first
          | (at_builtin; refine wpList_is rfl (.tmp 22) (.tmp 26) 108 rfl _ _ (by rfl) (by rfl) HRUN.out ?_)
          | go_in)
        go_roundw
        case rel => exact ⟨i + 1, by have := HLT.out; omega, by go_num, Lib.hid (by rw [HSI.out, List.length_append, u64v_app]; exact HOWN.out), Lib.hid (HBr.out.trans HON.out)⟩
        case measure => have := HLT.out; simp [intOf]; omega
      · rw [hg] at z HSI
        simp only [if_true, List.append_nil] at HSI
        clear hg
        go_wp2
        go_roundw
        case rel => exact ⟨i + 1, by have := HLT.out; omega, by go_num, Lib.hid (by rw [HSI.out]; exact HOW.out), HBr⟩
        case measure => have := HLT.out; simp [intOf]; omega
    · have h1 : ¬ (i : Int) < n := by omega
      obtain rfl : i = n := by omega
      clear hlt
      go_wp2
      go_ret
      refine ⟨A3, ⟨c3', rfl⟩, own_at HOW.out, HBr.out⟩
/-- how many bytes wait of the first k texts -/
def byk (E : List Ent) (k : Nat) : Nat := ((E.take k).map fun e => if e.gone then 0 else e.bs.length - e.tk).sum
theorem byk_succ {k : Nat} {e : Ent} (h : E[k]? = some e) : byk E (k + 1) = byk E k + (if e.gone = true then 0 else e.bs.length - e.tk) := by
  unfold byk
  rw [List.take_add_one, h]
  simp
theorem byk_le (he : ∀ e ∈ E, e.bs.length ≤ 1000) (k : Nat) : byk E k ≤ 1000 * k := by
  induction k with
  | zero => simp [byk]
  | succ k ih =>
    by_cases hk : k < E.length
    · rw [byk_succ (List.getElem?_eq_getElem hk)]
      have := he _ (List.getElem_mem hk)
      split <;> omega
    · have : byk E (k + 1) = byk E k := by
        unfold byk
        rw [List.take_of_length_le (by omega), List.take_of_length_le (by omega)]
      omega
set_option maxRecDepth 100000 in
set_option maxHeartbeats 3200000 in
theorem rq_bytes (h : RQ w y B room E) : Calls Try.prog 72 #[.pointer (some ⟨y, 0, none⟩)] w fun e w' => e = .returned (.int .i64 (byk E E.length : Nat)) ∧ Below w.heap.size w w' := by
  obtain ⟨AL, cL, AT, cT, AG, cG, hr, hl⟩ := h.row
  have HG := Lib.hid (own_at hl.g)
  have HT := Lib.hid (own_at hl.t)
  have HLL := Lib.hid (own_at hl.l)
  have HR := Lib.hid hr
  have HE := Lib.hid h.ent
  have HN := Lib.hid (fun i (hi : i < E.length) => (⟨_, List.getElem?_eq_getElem hi⟩ : ∃ e, E[i]? = some e))
  have HS := Lib.hid (fun k e (h : E[k]? = some e) => byk_succ h)
  have HL := Lib.hid (byk_le (E := E) fun e he => (h.ent e he).2.1)
  have HZ := Lib.hid (show byk E 0 = 0 from rfl)
  have hm := h.many
  generalize byk E = by' at *
  generalize hn : E.length = n at *
  clear h hr hl hn
  go_enter Try.func72, Try.ntmps72
  go_wp2
  go_loopw [3, 4] (fun s3 s4 wr => ∃ i q : Nat, i ≤ n ∧ s4 = .int .i64 i ∧ s3 = .int .i64 (q : Int) ∧ Hid (by' i = q) ∧ q ≤ 200000 ∧ Hid (Below w.heap.size w wr)) (fun _ s4 _ => n - (intOf s4).toNat)
  case atStart => exact ⟨0, 0, by omega, rfl, rfl, HZ, by omega, Lib.hid (Below.refl _ _)⟩
  case round =>
    obtain ⟨i, q, hi, rfl, rfl, HQ, hq, HBr⟩ := hrel
    obtain ⟨c0, c1, c2, c3⟩ := qcells (HR.out.later HBr.out)
    by_cases hlt : i < n
    · obtain ⟨e, he⟩ := HN.out i hlt
      obtain ⟨g, rfl, z⟩ := (HG.out.later HBr.out).cell (eG_at he)
      have h1 : (i : Int) < n := by omega
      have h0 : (0 : Int) ≤ i := by omega
      have HSI := Lib.hid (HS.out i e he)
      have HLT := Lib.hid hlt
      have hbd := HL.out (i + 1)
      cases hg : e.gone
      · rw [hg] at z HSI
        simp only [Bool.false_eq_true, if_false] at HSI
        obtain ⟨g1, rfl, z1⟩ := (HT.out.later HBr.out).cell (eT_at he)
        obtain ⟨g2, rfl, z2⟩ := (HLL.out.later HBr.out).cell (eL_at he)
        obtain ⟨e1, e2, e3, _⟩ := HE.out e (List.mem_of_getElem? he)
        have HSJ := Lib.hid (show ((q : Int) + (e.bs.length : Int) - (e.tk : Int)) = ((by' (i + 1) : Nat) : Int) by rw [HSI.out, HQ.out]; omega)
        have HBD := Lib.hid (show by' (i + 1) ≤ 200000 by omega)
        generalize e.bs.length = bl at *
        generalize e.tk = tk at *
        clear he hg hlt e1 hbd
        have w1 : IntKind.i64.wrap ((q : Int) + (bl : Int)) = (q : Int) + bl := IntWalk.i64_in _ (by omega)
        have w2 : IntKind.i64.wrap ((q : Int) + (bl : Int) - (tk : Int)) = (q : Int) + bl - tk := IntWalk.i64_in _ (by omega)
        go_wp2
        go_quiet (fail)
        go_wp2
        go_roundw
        case rel => exact ⟨i + 1, by' (i + 1), by have := HLT.out; omega, by go_num, by rw [HSJ.out], Lib.hid rfl, HBD.out, Lib.hid (below_drewN HBr.out _)⟩
        case measure => have := HLT.out; simp [intOf]; omega
      · rw [hg] at z HSI
        simp only [if_true, Nat.add_zero] at HSI
        clear hg
        go_wp2
        go_roundw
        case rel => exact ⟨i + 1, q, by have := HLT.out; omega, by go_num, rfl, Lib.hid (by rw [HSI.out]; exact HQ.out), hq, HBr⟩
        case measure => have := HLT.out; simp [intOf]; omega
    · have h1 : ¬ (i : Int) < n := by omega
      obtain rfl : i = n := by omega
      clear hlt
      go_wp2
      go_ret
      exact ⟨ret_int (by rw [HQ.out]), HBr.out⟩
end
end Go.Proofs.Ytfgjlhklioijmaa
