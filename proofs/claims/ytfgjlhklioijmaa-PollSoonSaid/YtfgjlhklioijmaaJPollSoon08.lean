/-
  Rows of bytes as they came in; how they are gone through. How the packets and bytes that a statement draws read. How lists of numbers of 16 bits that a statement draws read. PollEmpty: the walk. PollSoon: the walk. PollEmpty and PollSoon, for every input. A law's row follows from its walk: the call returns true, and below the heap's old size the world is as it was; then every argument reads as it did.
-/
import Derived.Test.YtfgjlhklioijmaaJPollSoon03
import Derived.Test.YtfgjlhklioijmaaJPollSoon06
import Derived.Test.YtfgjlhklioijmaaJPollSoon07
import Derived.SizedLaws
import Derived.Deep.Matrix
import Derived.Lib.SmallJoins
import Derived.OpenShut
import Derived.Test.YtfgjlhklioijmaaJPollSoon01
import Derived.Test.YtfgjlhklioijmaaRows
import Derived.WalkKit
import Derived.ProofKit
namespace Go.Proofs.Ytfgjlhklioijmaa
open Go.RowKit


/-- bytes that lie in a row of rows -/
structure RowB where
  A : Option Addr
  cap : Nat
  bs : List Nat
def RowB.ok (W : World) (r : RowB) : Prop := Src W r.A (bts r.bs) ∧ r.bs.length ≤ r.cap ∧ r.cap ≤ 9223372036854775807 ∧ ∀ b ∈ r.bs, b < 256
def RowB.v (r : RowB) : Value := .slice r.A r.bs.length r.cap
def RSrc (W : World) (A : Option Addr) (L : List RowB) : Prop :=
  0 < L.length → ∃ ad, A = some ad ∧ ∀ k r, L[k]? = some r → W.cell? (ad.add k) = some r.v ∧ r.ok W
def lens (L : List RowB) : List Nat := L.map fun r => r.bs.length
def texts (L : List RowB) : List (List Nat) := L.map fun r => r.bs
theorem length_lens (L : List RowB) : (lens L).length = L.length := by simp [lens]
theorem lens_at {L : List RowB} {k : Nat} {r : RowB} (h : L[k]? = some r) : (lens L)[k]? = some r.bs.length := by simp [lens, h]
theorem src_later {w v : World} {A : Option Addr} {xs : List Value} (h : Src w A xs) (hb : Below w.heap.size w v) : Src v A xs := by
  intro h0
  obtain ⟨ad, rfl, hc⟩ := h h0
  exact ⟨ad, rfl, fun j u hu => cell_below hb (hc j u hu)⟩
theorem RowB.ok.later {w v : World} {r : RowB} (h : r.ok w) (hb : Below w.heap.size w v) : r.ok v := ⟨src_later h.1 hb, h.2⟩
theorem RSrc.later {w v : World} {A : Option Addr} {L : List RowB} (h : RSrc w A L) (hb : Below w.heap.size w v) : RSrc v A L := by
  intro h0
  obtain ⟨ad, hA, hc⟩ := h h0
  exact ⟨ad, hA, fun k r hr => ⟨cell_below hb (hc k r hr).1, (hc k r hr).2.later hb⟩⟩
theorem RSrc.take {w : World} {A : Option Addr} {L : List RowB} (h : RSrc w A L) (n : Nat) : RSrc w A (L.take n) := by
  intro h0
  obtain ⟨ad, hA, hc⟩ := h (by rw [List.length_take] at h0; omega)
  refine ⟨ad, hA, fun k r hr => hc k r ?_⟩
  rw [List.getElem?_take] at hr
  split at hr
  · exact hr
  · cases hr

theorem enters {f : FuncId} {fn : Func} {c : Code} (hf : Try.prog.funcs[f]? = some fn) (hname : (fn.name == "runtime.NumGoroutine") = false) (hb : fn.body = some c) (args : Array Value) (w : World) :
    (callFunc f args).run Try.prog w = .ok (.enter f args) w := by
  have h1 : fn.name ≠ "runtime.NumGoroutine" := by simpa using hname
  simp [callFunc, hf, h1, hb]
theorem addr_zero (ad : Addr) : ad.add 0 = ad := by simp [Addr.add]

set_option maxRecDepth 100000 in
set_option maxHeartbeats 1600000 in
theorem each_any {K : Nat} {caps : Array Value} {A : Option Addr} {L : List RowB} (n cap : Nat) (hcf : ∀ (args : Array Value) (w : World), (callFunc K args).run Try.prog w = .ok (.enter K args) w) (Inv : Nat → World → Prop) (Stop : World → Prop) (w : World) (hL : L.length = n) (hn : n ≤ 9223372036854775807) (h0 : Inv 0 w)
    (hsrc : ∀ k W, Inv k W → RSrc W A L)
    (hstep : ∀ k W r, L[k]? = some r → Inv k W → Calls Try.prog K (#[.int .i64 k, .slice r.A r.bs.length r.cap] ++ caps) W fun e W' => (e = .returned (.bool true) ∧ Inv (k + 1) W') ∨ (e = .returned (.bool false) ∧ Stop W')) :
    Calls Try.prog 228 #[.slice A n cap, .func (.func K) #[] caps] w fun e w' => (e = .returned (.bool true) ∧ Inv n w') ∨ (e = .returned (.bool false) ∧ Stop w') := by
  have HR := Lib.hid hsrc
  have HS := Lib.hid hstep
  have H0 := Lib.hid h0
  have HL := Lib.hid hL
  clear hsrc hstep h0 hL
  go_enter Try.func228, Try.ntmps228
  go_wp2
  refine wp_scope_jumps 0 (fun a' w' => ∃ k : Nat, k ≤ n ∧ Fr [some (.slice A n cap), some (.func (.func K) #[] caps), none, none, some (.bool false), some (.int .i64 k), none, none, none, none, none, none, none, none, none, none, none, none, none, none] a' ∧ Inv k w') (fun a' _ => n - (intOf (a'.tmps.getD 5 undef)).toNat) rfl ?_ ?_
  · rcases Nat.eq_zero_or_pos n with hk0 | hk0
    · subst hk0
      go_wp2
      go_step3
      go_wp2
      simp only [Exit.jump]
      go_ret
      exact .inl ⟨rfl, H0.out⟩
    · obtain ⟨ad, rfl, hcell⟩ := HR.out 0 w H0.out (by rw [HL.out]; exact hk0)
      obtain ⟨r, hy⟩ : ∃ r, L[0]? = some r := ⟨_, List.getElem?_eq_getElem (by rw [HL.out]; exact hk0)⟩
      have c0 : w.cell? ad = some (.slice r.A r.bs.length r.cap) := by have h9 := (hcell 0 r hy).1; rw [addr_zero] at h9; exact h9
      have HC := Lib.hid (HS.out 0 w r hy H0.out)
      have hk0i : (0 : Int) < (n : Int) := by omega
      clear hcell hy
      skip
      all_goals
        go_wp2
        go_step3
        go_wp2_with fail
        refine (HC.out).mono ?_
        rintro e w1 (⟨rfl, hi⟩ | ⟨rfl, hs⟩)
        · go_wp2_with fail
          go_step3
          refine ⟨rfl, 1, by omega, ?_, hi⟩
          simp only [Fr, Holes]
          repeat apply Exists.intro
          rfl
        · go_wp2_with fail
          simp only [Exit.jump]
          go_ret
          exact .inr ⟨rfl, hs⟩
  · rintro a' w' ⟨k, hk, hfr, hinv⟩
    simp only [Fr, Holes] at hfr
    repeat (obtain ⟨_, hfr⟩ := hfr)
    rcases Nat.lt_or_ge k n with hlt | hge
    · obtain ⟨ad, rfl, hcell⟩ := HR.out k w' hinv (by rw [HL.out]; omega)
      obtain ⟨r, hy⟩ : ∃ r, L[k]? = some r := ⟨_, List.getElem?_eq_getElem (by rw [HL.out]; exact hlt)⟩
      have c0 : w'.cell? (ad.add k) = some (.slice r.A r.bs.length r.cap) := (hcell k r hy).1
      have HC := Lib.hid (HS.out k w' r hy hinv)
      have HI := Lib.hid hinv
      clear hcell hy hinv
      skip
      all_goals
        go_wp2_with fail
        refine (HC.out).mono ?_
        rintro e w1 (⟨rfl, hi⟩ | ⟨rfl, hs⟩)
        · go_wp2_with fail
          go_step3
          refine ⟨rfl, ⟨k + 1, by omega, ?_, hi⟩, ?_⟩
          · simp only [Fr, Holes]
            repeat apply Exists.intro
            rfl
          · simp [intOf]
            omega
        · go_wp2_with fail
          simp only [Exit.jump]
          go_ret
          exact .inr ⟨rfl, hs⟩
    · obtain rfl : k = n := by omega
      go_wp2
      simp only [Exit.jump]
      go_ret
      exact .inl ⟨rfl, hinv⟩
end Go.Proofs.Ytfgjlhklioijmaa
namespace Go.Proofs.Ytfgjlhklioijmaa
open Go.ChangeShapes Go.WideShapes Go.ChangeAt Go.RowKit Go.Deep


theorem Try.cells5 : Try.prog.cellsOf 5 = 1 := by kernel_rfl
theorem Try.cells30 : Try.prog.cellsOf 30 = 1 := by kernel_rfl
theorem nums_src {W : World} {a : Addr} {cap len : Nat} {zs : List Int} (hl : len ≤ cap) (hz : zs.length = cap) (hc : ∀ j, j < cap → W.cell? (a.add j) = some (.int .u8 (zs.getD j 0))) (hw : ∀ n ∈ zs, (Lit.int .u8 n).wf = true) :
    ((zs.take len).map Int.toNat).length = len ∧ Src W (some a) (bts ((zs.take len).map Int.toNat)) ∧ ∀ b ∈ (zs.take len).map Int.toNat, b < 256 := by
  have hlen : ((zs.take len).map Int.toNat).length = len := by rw [List.length_map, List.length_take]; omega
  refine ⟨hlen, fun h0 => ⟨a, rfl, fun j u hu => ?_⟩, fun b hb => ?_⟩
  · have hj : j < len := by
      have h1 := (List.getElem?_eq_some_iff.1 hu).1
      rw [length_bts, hlen] at h1
      exact h1
    have h2 := hc j (by omega)
    rw [h2]
    have hjz : j < zs.length := by omega
    have hww := bounds_u8 (hw zs[j] (List.getElem_mem hjz))
    have h3 : ((zs.take len).map Int.toNat)[j]? = some zs[j].toNat := by
      rw [List.getElem?_map, List.getElem?_take, if_pos hj, List.getElem?_eq_getElem hjz]
      rfl
    have h4 := bts_at h3
    rw [h4] at hu
    injection hu with hu
    rw [← hu, List.getD_eq_getElem?_getD, List.getElem?_eq_getElem hjz]
    simp only [Option.getD_some]
    rw [Int.toNat_of_nonneg hww.1]
  · rw [List.mem_map] at hb
    obtain ⟨z, hz2, rfl⟩ := hb
    have hww := bounds_u8 (hw z (List.mem_of_mem_take hz2))
    omega
set_option maxRecDepth 100000 in
theorem bytes_arg {H : Type} {enc : TypeId × Value → H} {W : World} {base : Nat} {v : Value} {d : DataW H} {p : List MemPlace} (hok : Value.okWide Try.prog W .any base 30 v)
    (h : DataW.Trod enc Try.prog W 0 (fun _ => true) true 30 v d p) : ∃ (A : Option Addr) (cap : Nat) (l : List Nat), v = .slice A l.length cap ∧ l.length ≤ cap ∧ cap ≤ 9223372036854775807 ∧ Src W A (bts l) ∧ ∀ b ∈ l, b < 256 := by
  obtain ⟨a0, len, cap, rfl⟩ := okWide_slice Try.underlying30 hok
  obtain ⟨fuel, hf⟩ := h
  rcases open_ints Try.underlying30 Try.underlying5 Try.cells5 hf with ⟨hcs, _⟩ | ⟨a, len', cap', zs, hcs, _, hl, hm, hz, _, hcell, hwz⟩
  · simp only [Value.cells] at hcs
    have e : Value.slice a0 len cap = .slice none 0 0 := by simpa using hcs
    rw [e]
    exact ⟨none, 0, [], rfl, Nat.le_refl _, by omega, fun h0 => absurd h0 (by simp [bts]), fun b hb => by cases hb⟩
  · have e : Value.slice a0 len cap = .slice (some a) len' cap' := by simpa [Value.cells] using hcs
    rw [e]
    have hz' : zs.length = cap' := by simpa using hz
    obtain ⟨h1, h2, h3⟩ := nums_src (W := W) (a := a) hl hz' (fun j hj => hcell j (by omega)) hwz
    exact ⟨some a, cap', _, by rw [h1], by omega, by unfold maxLen at hm; exact hm, h2, h3⟩
set_option maxRecDepth 100000 in
theorem rows_cells {H : Type} {enc : TypeId × Value → H} {W : World} {fuel : Nat} {v : Value} {y : DataW H × List MemPlace} (hf : DataW.trod enc Try.prog W 0 (fun _ => true) true fuel 22 [v] = some y) :
    ∃ (A : Option Addr) (cap : Nat) (L : List RowB), v = .slice A L.length cap ∧ L.length ≤ cap ∧ cap ≤ 9223372036854775807 ∧ RSrc W A L ∧ ∀ m ∈ lens L, m ≤ 9223372036854775807 := by
  rcases open_int_rows Try.underlying22 Try.underlying30 Try.underlying5 Try.cells30 Try.cells5 hf with ⟨hcs, _⟩ | ⟨a, len', cap', A, L, C, Z, hcs, _, hl, hm, _, hx⟩
  · have e : v = .slice none 0 0 := by simpa [Value.cells] using hcs
    rw [e]
    exact ⟨none, 0, [], rfl, Nat.le_refl _, by omega, fun h0 => absurd h0 (by simp), fun m hm => by cases hm⟩
  · have e : v = .slice (some a) len' cap' := by simpa [Value.cells] using hcs
    rw [e]
    have hlen : ((List.range len').map fun k => (⟨A k, C k, ((Z k).take (L k)).map Int.toNat⟩ : RowB)).length = len' := by simp
    have hrow : ∀ k r, ((List.range len').map fun k => (⟨A k, C k, ((Z k).take (L k)).map Int.toNat⟩ : RowB))[k]? = some r → W.cell? (a.add k) = some r.v ∧ r.ok W := by
      intro k r hr
      have hk : k < len' := by
        have h1 := (List.getElem?_eq_some_iff.1 hr).1
        rw [hlen] at h1
        exact h1
      have hr' : r = ⟨A k, C k, ((Z k).take (L k)).map Int.toNat⟩ := by
        rw [List.getElem?_map, List.getElem?_range hk] at hr
        simp only [Option.map_some, Option.some.injEq] at hr
        exact hr.symm
      subst hr'
      obtain ⟨h1, h2, h3, h4, h5, h6, h7⟩ := hx k (by omega)
      unfold maxLen at h3
      have hll : (((Z k).take (L k)).map Int.toNat).length = L k := by rw [List.length_map, List.length_take]; omega
      refine ⟨by rw [h1]; show _ = some (Value.slice (A k) (((Z k).take (L k)).map Int.toNat).length (C k)); rw [hll], ?_⟩
      cases hA : A k with
      | none =>
        have hc0 := h6 hA
        have hl0 : L k = 0 := by omega
        refine ⟨fun h0 => ?_, by rw [hll]; exact h2, h3, fun b hb => ?_⟩
        · rw [length_bts, hll] at h0; omega
        · rw [hl0] at hb; simp at hb
      | some a' =>
        obtain ⟨_, hc⟩ := h7 a' hA
        obtain ⟨_, g2, g3⟩ := nums_src (W := W) h2 h4 hc h5
        exact ⟨g2, by rw [hll]; exact h2, h3, g3⟩
    refine ⟨some a, cap', (List.range len').map fun k => ⟨A k, C k, ((Z k).take (L k)).map Int.toNat⟩, by rw [hlen], by omega, by unfold maxLen at hm; exact hm, fun h0 => ⟨a, rfl, hrow⟩, fun m hm2 => ?_⟩
    obtain ⟨k, hk⟩ := List.getElem?_of_mem hm2
    simp only [lens, List.getElem?_map, Option.map_eq_some_iff] at hk
    obtain ⟨r, hr, rfl⟩ := hk
    have h9 := (hrow k r (by rw [List.getElem?_map, Option.map_eq_some_iff]; exact hr)).2
    have := h9.2.1
    have := h9.2.2.1
    omega
set_option maxRecDepth 100000 in
/-- a packet of umd as it came in -/
theorem upack_arg {H : Type} {enc : TypeId × Value → H} {W : World} {base : Nat} {v : Value} {d : DataW H} {p : List MemPlace} (hok : Value.okWide Try.prog W .any base 51 v)
    (h : DataW.Trod enc Try.prog W 0 (fun _ => true) true 51 v d p) : ∃ (fi sn : Int) (A : Option Addr) (cap : Nat) (L : List RowB), v = .agg #[.int .i64 fi, .int .i64 sn, .slice A L.length cap] ∧ L.length ≤ cap ∧ cap ≤ 9223372036854775807 ∧ RSrc W A L ∧ ∀ m ∈ lens L, m ≤ 9223372036854775807 := by
  obtain ⟨v0, v1, v2, y0, y1, y2, k, rfl, _, _, h0, h1, h2⟩ := Joins.open_agg3 Try.underlying51 (by kernel_rfl) (by kernel_rfl) hok h
  obtain ⟨A, cap, L, rfl, g1, g2, g3, g4⟩ := rows_cells h2
  obtain ⟨fi, rfl⟩ : ∃ fi, v0 = .int .i64 fi := by
    obtain ⟨n, h9, _⟩ := DataW.trod_int Try.underlying3 h0
    exact ⟨n, by simpa using h9⟩
  obtain ⟨sn, rfl⟩ : ∃ sn, v1 = .int .i64 sn := by
    obtain ⟨n, h9, _⟩ := DataW.trod_int Try.underlying3 h1
    exact ⟨n, by simpa using h9⟩
  exact ⟨fi, sn, A, cap, L, rfl, g1, g2, g3, g4⟩
end Go.Proofs.Ytfgjlhklioijmaa
namespace Go.Proofs.Ytfgjlhklioijmaa
open Go.ChangeShapes Go.WideShapes Go.ChangeAt Go.RowKit Go.Deep

theorem Try.cells164 : Try.prog.cellsOf 164 = 1 := by kernel_rfl
/-- numbers of 16 bits as values -/
def u16v (l : List Nat) : List Value := l.map fun b : Nat => .int .u16 b
theorem length_u16v (l : List Nat) : (u16v l).length = l.length := by simp [u16v]
theorem u16v_at {l : List Nat} {i b : Nat} (h : l[i]? = some b) : (u16v l)[i]? = some (.int .u16 b) := by simp [u16v, h]
theorem nums_src16 {W : World} {a : Addr} {cap len : Nat} {zs : List Int} (hl : len ≤ cap) (hz : zs.length = cap) (hc : ∀ j, j < cap → W.cell? (a.add j) = some (.int .u16 (zs.getD j 0))) (hw : ∀ n ∈ zs, (Lit.int .u16 n).wf = true) :
    ((zs.take len).map Int.toNat).length = len ∧ Src W (some a) (u16v ((zs.take len).map Int.toNat)) ∧ ∀ b ∈ (zs.take len).map Int.toNat, b < 65536 := by
  have hlen : ((zs.take len).map Int.toNat).length = len := by rw [List.length_map, List.length_take]; omega
  refine ⟨hlen, fun h0 => ⟨a, rfl, fun j u hu => ?_⟩, fun b hb => ?_⟩
  · have hj : j < len := by
      have h1 := (List.getElem?_eq_some_iff.1 hu).1
      rw [length_u16v, hlen] at h1
      exact h1
    have h2 := hc j (by omega)
    rw [h2]
    have hjz : j < zs.length := by omega
    have hww := bounds_u16 (hw zs[j] (List.getElem_mem hjz))
    have h3 : ((zs.take len).map Int.toNat)[j]? = some zs[j].toNat := by
      rw [List.getElem?_map, List.getElem?_take, if_pos hj, List.getElem?_eq_getElem hjz]
      rfl
    have h4 := u16v_at h3
    rw [h4] at hu
    injection hu with hu
    rw [← hu, List.getD_eq_getElem?_getD, List.getElem?_eq_getElem hjz]
    simp only [Option.getD_some]
    rw [Int.toNat_of_nonneg hww.1]
  · rw [List.mem_map] at hb
    obtain ⟨z, hz2, rfl⟩ := hb
    have hww := bounds_u16 (hw z (List.mem_of_mem_take hz2))
    omega
set_option maxRecDepth 100000 in
theorem u16s_arg {H : Type} {enc : TypeId × Value → H} {W : World} {base : Nat} {v : Value} {d : DataW H} {p : List MemPlace} (hok : Value.okWide Try.prog W .any base 161 v)
    (h : DataW.Trod enc Try.prog W 0 (fun _ => true) true 161 v d p) : ∃ (A : Option Addr) (cap : Nat) (l : List Nat), v = .slice A l.length cap ∧ l.length ≤ cap ∧ cap ≤ 9223372036854775807 ∧ Src W A (u16v l) ∧ ∀ b ∈ l, b < 65536 := by
  obtain ⟨a0, len, cap, rfl⟩ := okWide_slice Try.underlying161 hok
  obtain ⟨fuel, hf⟩ := h
  rcases open_ints Try.underlying161 Try.underlying164 Try.cells164 hf with ⟨hcs, _⟩ | ⟨a, len', cap', zs, hcs, _, hl, hm, hz, _, hcell, hwz⟩
  · simp only [Value.cells] at hcs
    have e : Value.slice a0 len cap = .slice none 0 0 := by simpa using hcs
    rw [e]
    exact ⟨none, 0, [], rfl, Nat.le_refl _, by omega, fun h0 => absurd h0 (by simp [u16v]), fun b hb => by cases hb⟩
  · have e : Value.slice a0 len cap = .slice (some a) len' cap' := by simpa [Value.cells] using hcs
    rw [e]
    have hz' : zs.length = cap' := by simpa using hz
    obtain ⟨h1, h2, h3⟩ := nums_src16 (W := W) (a := a) hl hz' (fun j hj => hcell j (by omega)) hwz
    exact ⟨some a, cap', _, by rw [h1], by omega, by unfold maxLen at hm; exact hm, h2, h3⟩
end Go.Proofs.Ytfgjlhklioijmaa
namespace Go.Proofs.Ytfgjlhklioijmaa
open Go.RowKit

theorem and3u : ∀ b : Nat, b < 256 → ∃ q : Nat, bits BinOp.and IntKind.u8 (b : Int) 3 = (q : Int) ∧ q ≤ 3 := by
  have h : ∀ b : Fin 256, ∃ q : Fin 4, bits BinOp.and IntKind.u8 ((b : Nat) : Int) 3 = ((q : Nat) : Int) := by decide +kernel
  intro b hb
  obtain ⟨q, hq⟩ := h ⟨b, hb⟩
  exact ⟨q, hq, by have := q.2; omega⟩
theorem src_cell {W w : World} {A : Option Addr} {xs : List Value} {j : Nat} {u : Value} (h : Src W A xs) (hb : Below W.heap.size W w) (hj : xs[j]? = some u) : ∃ ad, A = some ad ∧ w.cell? (ad.add j) = some u := by
  obtain ⟨ad, rfl, hc⟩ := h (by have := (List.getElem?_eq_some_iff.1 hj).1; omega)
  exact ⟨ad, rfl, cell_below hb (hc j u hj)⟩
set_option maxRecDepth 100000 in
set_option maxHeartbeats 1600000 in
theorem pempty_no (P B : Int) (a : Int) (A : Option Addr) (n c : Nat) (w : World) (h : ¬ (1 ≤ P ∧ P ≤ 1000 ∧ 1 ≤ B ∧ B ≤ 20000)) : Calls Try.prog 19 #[.int .i64 P, .int .i64 B, .slice A n c, .int .u8 a] w fun e w' => e = .returned (.bool true) ∧ Below w.heap.size w w' := by
  have HN := Lib.hid (pnew_bad w h)
  have HA := Lib.hid polalive_any
  clear h
  go_enter Try.func19, Try.ntmps19
  go_wp2_with (first
    | (go_at_call 121; (with_reducible refine HN.out.mono ?_); rintro e w1 ⟨rfl, rfl⟩)
    | (go_at_call 122; (with_reducible refine (HA.out _).mono ?_); rintro e w2 ⟨rfl, hb⟩; (have HB2 := Lib.hid hb; clear hb)))
  go_ret
  exact ⟨rfl, HB2.out⟩
set_option maxRecDepth 100000 in
set_option maxHeartbeats 3200000 in
theorem pempty_ok (P B : Int) (a : Nat) (A : Option Addr) (l : List Nat) (n c : Nat) (w : World) (h1 : 1 ≤ P) (h2 : P ≤ 1000) (h3 : 1 ≤ B) (h4 : B ≤ 20000) (ha : a < 256) (hl : l.length = n) (hn : n ≤ 9223372036854775807) (hs : Src w A (u16v l)) (hb6 : ∀ b ∈ l, b < 65536) : Calls Try.prog 19 #[.int .i64 P, .int .i64 B, .slice A n c, .int .u8 a] w fun e w' => e = .returned (.bool true) ∧ Below w.heap.size w w' := by
  have HN := Lib.hid (PS.new w h1 h2 h3 h4)
  have HA := Lib.hid polalive_any
  obtain ⟨q, hq, hq3⟩ := and3u a ha
  have hq4 : bits BinOp.and IntKind.u8 (a : Int) 3 = 0 ∨ bits BinOp.and IntKind.u8 (a : Int) 3 = 1 ∨ bits BinOp.and IntKind.u8 (a : Int) 3 = 2 ∨ bits BinOp.and IntKind.u8 (a : Int) 3 = 3 := by omega
  clear hq hq3
  have HV := Lib.hid (fun i (hi : i < n) => (⟨_, List.getElem?_eq_getElem (by omega), hb6 _ (List.getElem_mem _)⟩ : ∃ e, l[i]? = some e ∧ e < 65536))
  have HS := Lib.hid hs
  have HH := Lib.hid (And.intro h1 h3)
  clear hs hb6 hl h1 h2 h3 h4
  go_enter Try.func19, Try.ntmps19
  go_wp2_with (go_at_call 121; (with_reducible refine HN.out.mono ?_); rintro e w1 ⟨x, rfl, hp⟩; (have HP := Lib.hid hp; clear hp))
  go_loopw [11] (fun s11 wr => ∃ k m : Nat, k ≤ n ∧ k ≤ 100 ∧ m ≤ 4000 * k ∧ s11 = .int .i64 k ∧ Hid (PS w wr x P B (k : Int) (m : Int) false)) (fun s11 _ => n - (intOf s11).toNat)
  case atStart => exact ⟨0, 0, by omega, by omega, by omega, rfl, HP⟩
  case round =>
    obtain ⟨k, m, hk, hk1, hm, rfl, HPr⟩ := hrel
    have HY0 := Lib.hid (show askP P B (k : Int) (m : Int) true false false = true by unfold askP; rfl)
    have HY1 := Lib.hid (show askP P B (k : Int) (m : Int) false true false = true by unfold askP; rfl)
    have HY2 := Lib.hid (show askP P B (k : Int) (m : Int) false false true = true by unfold askP; rfl)
    have HN0 := Lib.hid (show askP P B 0 0 false false false = false by unfold askP; have := HH.out; simp; omega)
    by_cases hlt : k < n
    · have hlti : (k : Int) < n := by omega
      by_cases hlt2 : k < 100
      · have hlt2i : (k : Int) < 100 := by omega
        have h0 : (0 : Int) ≤ k := by omega
        obtain ⟨e, he, he6⟩ := HV.out k hlt
        obtain ⟨ad, rfl, z⟩ := src_cell HS.out HPr.out.bl (u16v_at he)
        clear he
        have HLT := Lib.hid (And.intro hlt hlt2)
        have HK := Lib.hid (And.intro hk1 hm)
        clear hlt hlt2 hk1 hm hk
        obtain ⟨r, hr, hr4⟩ : ∃ r : Nat, (e : Int) % 4001 = r ∧ r ≤ 4000 := ⟨e % 4001, by omega, by omega⟩
        have HSN := Lib.hid (HPr.out.sent (k := (r : Int)) (by omega) (by omega) (by have := HK.out; omega) (by have := HK.out; omega))
        have HR4 := Lib.hid hr4
        clear hr4
        go_wp2_with (go_at_call 123; (with_reducible refine HSN.out.mono ?_); rintro e w2 ⟨rfl, hp, _⟩; (have HP2 := Lib.hid hp; clear hp))
        go_roundw
        case rel => exact ⟨k + 1, m + r, by have := HLT.out; omega, by have := HLT.out; omega, by have := HK.out; have := HR4.out; omega, by go_num, by rw [show ((k + 1 : Nat) : Int) = (k : Int) + 1 by omega, show ((m + r : Nat) : Int) = (m : Int) + r by omega]; exact HP2⟩
        case measure => have := HLT.out; simp [intOf]; omega
      · have hlt2i : ¬ (k : Int) < 100 := by omega
        clear hlt hlt2 hk1 hk hm
        rcases hq4 with hq4 | hq4 | hq4 | hq4
        · go_wp2_with (first
            | (go_at_call 124; (with_reducible refine HPr.out.want.mono ?_); rintro e w2 ⟨rfl, hp, _⟩; (have HP2 := Lib.hid hp; clear hp))
            | (go_at_call 125; (with_reducible refine (HP2.out.yes HY0.out).mono ?_); rintro e w3 ⟨rfl, hp, _⟩; (have HP3 := Lib.hid hp; clear hp HP2))
            | (go_at_call 128; (with_reducible refine HP3.out.since.mono ?_); rintro e w4 ⟨rfl, hp, _⟩; (have HP4 := Lib.hid hp; clear hp HP3))
            | (go_at_call 122; (with_reducible refine (HA.out _).mono ?_); rintro e w5 ⟨rfl, hb⟩; (have HP5 := Lib.hid (HP4.out.later hb); clear hb HP4))
            | (go_at_call 125; (with_reducible refine (HP5.out.not HN0.out).mono ?_); rintro e w6 ⟨rfl, hp, _⟩; (have HP6 := Lib.hid hp; clear hp)))
          go_ret
          exact ⟨rfl, HP6.out.bl⟩
        · go_wp2_with (first
            | (go_at_call 125; (with_reducible refine (HPr.out.yes HY1.out).mono ?_); rintro e w3 ⟨rfl, hp, _⟩; (have HP3 := Lib.hid hp; clear hp HPr))
            | (go_at_call 128; (with_reducible refine HP3.out.since.mono ?_); rintro e w4 ⟨rfl, hp, _⟩; (have HP4 := Lib.hid hp; clear hp HP3))
            | (go_at_call 122; (with_reducible refine (HA.out _).mono ?_); rintro e w5 ⟨rfl, hb⟩; (have HP5 := Lib.hid (HP4.out.later hb); clear hb HP4))
            | (go_at_call 125; (with_reducible refine (HP5.out.not HN0.out).mono ?_); rintro e w6 ⟨rfl, hp, _⟩; (have HP6 := Lib.hid hp; clear hp)))
          go_ret
          exact ⟨rfl, HP6.out.bl⟩
        · go_wp2_with (first
            | (go_at_call 125; (with_reducible refine (HPr.out.yes HY2.out).mono ?_); rintro e w3 ⟨rfl, hp, _⟩; (have HP3 := Lib.hid hp; clear hp HPr))
            | (go_at_call 128; (with_reducible refine HP3.out.since.mono ?_); rintro e w4 ⟨rfl, hp, _⟩; (have HP4 := Lib.hid hp; clear hp HP3))
            | (go_at_call 122; (with_reducible refine (HA.out _).mono ?_); rintro e w5 ⟨rfl, hb⟩; (have HP5 := Lib.hid (HP4.out.later hb); clear hb HP4))
            | (go_at_call 125; (with_reducible refine (HP5.out.not HN0.out).mono ?_); rintro e w6 ⟨rfl, hp, _⟩; (have HP6 := Lib.hid hp; clear hp)))
          go_ret
          exact ⟨rfl, HP6.out.bl⟩
        · go_wp2_with (first
            | (go_at_call 125; (with_reducible refine (HPr.out.yes HY2.out).mono ?_); rintro e w3 ⟨rfl, hp, _⟩; (have HP3 := Lib.hid hp; clear hp HPr))
            | (go_at_call 128; (with_reducible refine HP3.out.since.mono ?_); rintro e w4 ⟨rfl, hp, _⟩; (have HP4 := Lib.hid hp; clear hp HP3))
            | (go_at_call 122; (with_reducible refine (HA.out _).mono ?_); rintro e w5 ⟨rfl, hb⟩; (have HP5 := Lib.hid (HP4.out.later hb); clear hb HP4))
            | (go_at_call 125; (with_reducible refine (HP5.out.not HN0.out).mono ?_); rintro e w6 ⟨rfl, hp, _⟩; (have HP6 := Lib.hid hp; clear hp)))
          go_ret
          exact ⟨rfl, HP6.out.bl⟩
    · have hlti : ¬ (k : Int) < n := by omega
      clear hlt hk1 hk hm
      rcases hq4 with hq4 | hq4 | hq4 | hq4
      · go_wp2_with (first
          | (go_at_call 124; (with_reducible refine HPr.out.want.mono ?_); rintro e w2 ⟨rfl, hp, _⟩; (have HP2 := Lib.hid hp; clear hp))
          | (go_at_call 125; (with_reducible refine (HP2.out.yes HY0.out).mono ?_); rintro e w3 ⟨rfl, hp, _⟩; (have HP3 := Lib.hid hp; clear hp HP2))
          | (go_at_call 128; (with_reducible refine HP3.out.since.mono ?_); rintro e w4 ⟨rfl, hp, _⟩; (have HP4 := Lib.hid hp; clear hp HP3))
          | (go_at_call 122; (with_reducible refine (HA.out _).mono ?_); rintro e w5 ⟨rfl, hb⟩; (have HP5 := Lib.hid (HP4.out.later hb); clear hb HP4))
          | (go_at_call 125; (with_reducible refine (HP5.out.not HN0.out).mono ?_); rintro e w6 ⟨rfl, hp, _⟩; (have HP6 := Lib.hid hp; clear hp)))
        go_ret
        exact ⟨rfl, HP6.out.bl⟩
      · go_wp2_with (first
          | (go_at_call 125; (with_reducible refine (HPr.out.yes HY1.out).mono ?_); rintro e w3 ⟨rfl, hp, _⟩; (have HP3 := Lib.hid hp; clear hp HPr))
          | (go_at_call 128; (with_reducible refine HP3.out.since.mono ?_); rintro e w4 ⟨rfl, hp, _⟩; (have HP4 := Lib.hid hp; clear hp HP3))
          | (go_at_call 122; (with_reducible refine (HA.out _).mono ?_); rintro e w5 ⟨rfl, hb⟩; (have HP5 := Lib.hid (HP4.out.later hb); clear hb HP4))
          | (go_at_call 125; (with_reducible refine (HP5.out.not HN0.out).mono ?_); rintro e w6 ⟨rfl, hp, _⟩; (have HP6 := Lib.hid hp; clear hp)))
        go_ret
        exact ⟨rfl, HP6.out.bl⟩
      · go_wp2_with (first
          | (go_at_call 125; (with_reducible refine (HPr.out.yes HY2.out).mono ?_); rintro e w3 ⟨rfl, hp, _⟩; (have HP3 := Lib.hid hp; clear hp HPr))
          | (go_at_call 128; (with_reducible refine HP3.out.since.mono ?_); rintro e w4 ⟨rfl, hp, _⟩; (have HP4 := Lib.hid hp; clear hp HP3))
          | (go_at_call 122; (with_reducible refine (HA.out _).mono ?_); rintro e w5 ⟨rfl, hb⟩; (have HP5 := Lib.hid (HP4.out.later hb); clear hb HP4))
          | (go_at_call 125; (with_reducible refine (HP5.out.not HN0.out).mono ?_); rintro e w6 ⟨rfl, hp, _⟩; (have HP6 := Lib.hid hp; clear hp)))
        go_ret
        exact ⟨rfl, HP6.out.bl⟩
      · go_wp2_with (first
          | (go_at_call 125; (with_reducible refine (HPr.out.yes HY2.out).mono ?_); rintro e w3 ⟨rfl, hp, _⟩; (have HP3 := Lib.hid hp; clear hp HPr))
          | (go_at_call 128; (with_reducible refine HP3.out.since.mono ?_); rintro e w4 ⟨rfl, hp, _⟩; (have HP4 := Lib.hid hp; clear hp HP3))
          | (go_at_call 122; (with_reducible refine (HA.out _).mono ?_); rintro e w5 ⟨rfl, hb⟩; (have HP5 := Lib.hid (HP4.out.later hb); clear hb HP4))
          | (go_at_call 125; (with_reducible refine (HP5.out.not HN0.out).mono ?_); rintro e w6 ⟨rfl, hp, _⟩; (have HP6 := Lib.hid hp; clear hp)))
        go_ret
        exact ⟨rfl, HP6.out.bl⟩
end Go.Proofs.Ytfgjlhklioijmaa
namespace Go.Proofs.Ytfgjlhklioijmaa
open Go.RowKit

set_option maxRecDepth 100000 in
set_option maxHeartbeats 3200000 in
theorem psoon_no (P B : Int) (A : Option Addr) (n c : Nat) (w : World) (h : ¬ (1 ≤ P ∧ P ≤ 1000 ∧ 1 ≤ B ∧ B ≤ 20000)) : Calls Try.prog 18 #[.int .i64 P, .int .i64 B, .slice A n c] w fun e w' => e = .returned (.bool true) ∧ Below w.heap.size w w' := by
  have HN := Lib.hid (pnew_bad w h)
  have HA := Lib.hid polalive_any
  by_cases h1 : P < 1
  · clear h
    go_enter Try.func18, Try.ntmps18
    go_wp2_with (first
      | (go_at_call 121; (with_reducible refine HN.out.mono ?_); rintro e w1 ⟨rfl, rfl⟩)
      | (go_at_call 122; (with_reducible refine (HA.out _).mono ?_); rintro e w2 ⟨rfl, hb⟩; (have HB2 := Lib.hid hb; clear hb)))
    go_ret
    exact ⟨rfl, HB2.out⟩
  · by_cases h2 : 1000 < P
    · clear h
      go_enter Try.func18, Try.ntmps18
      go_wp2_with (first
        | (go_at_call 121; (with_reducible refine HN.out.mono ?_); rintro e w1 ⟨rfl, rfl⟩)
        | (go_at_call 122; (with_reducible refine (HA.out _).mono ?_); rintro e w2 ⟨rfl, hb⟩; (have HB2 := Lib.hid hb; clear hb)))
      go_ret
      exact ⟨rfl, HB2.out⟩
    · by_cases h3 : B < 1
      · clear h
        go_enter Try.func18, Try.ntmps18
        go_wp2_with (first
          | (go_at_call 121; (with_reducible refine HN.out.mono ?_); rintro e w1 ⟨rfl, rfl⟩)
          | (go_at_call 122; (with_reducible refine (HA.out _).mono ?_); rintro e w2 ⟨rfl, hb⟩; (have HB2 := Lib.hid hb; clear hb)))
        go_ret
        exact ⟨rfl, HB2.out⟩
      · have h4 : 20000 < B := by omega
        clear h
        go_enter Try.func18, Try.ntmps18
        go_wp2_with (first
          | (go_at_call 121; (with_reducible refine HN.out.mono ?_); rintro e w1 ⟨rfl, rfl⟩)
          | (go_at_call 122; (with_reducible refine (HA.out _).mono ?_); rintro e w2 ⟨rfl, hb⟩; (have HB2 := Lib.hid hb; clear hb)))
        go_ret
        exact ⟨rfl, HB2.out⟩
set_option maxRecDepth 100000 in
set_option maxHeartbeats 3200000 in
theorem psoon_ok (P B : Int) (A : Option Addr) (l : List Nat) (n c : Nat) (w : World) (h1 : 1 ≤ P) (h2 : P ≤ 1000) (h3 : 1 ≤ B) (h4 : B ≤ 20000) (hl : l.length = n) (hn : n ≤ 9223372036854775807) (hs : Src w A (u16v l)) (hb6 : ∀ b ∈ l, b < 65536) : Calls Try.prog 18 #[.int .i64 P, .int .i64 B, .slice A n c] w fun e w' => e = .returned (.bool true) ∧ Below w.heap.size w w' := by
  have HN := Lib.hid (PS.new w h1 h2 h3 h4)
  have HA := Lib.hid polalive_any
  have HV := Lib.hid (fun i (hi : i < n) => (⟨_, List.getElem?_eq_getElem (by omega), hb6 _ (List.getElem_mem _)⟩ : ∃ e, l[i]? = some e ∧ e < 65536))
  have HS := Lib.hid hs
  have HN0 := Lib.hid (show askP P B 0 0 false false false = false by unfold askP; simp; omega)
  clear hs hb6 hl h1 h2 h3 h4
  go_enter Try.func18, Try.ntmps18
  go_wp2_with (go_at_call 121; (with_reducible refine HN.out.mono ?_); rintro e w1 ⟨x, rfl, hp⟩; (have HP := Lib.hid hp; clear hp))
  go_loopw [9, 10, 11] (fun s9 s10 s11 wr => ∃ k q m : Nat, k ≤ n ∧ k ≤ 300 ∧ q ≤ k ∧ m ≤ 4000 * k ∧ s11 = .int .i64 k ∧ s9 = .int .i64 q ∧ s10 = .int .i64 m ∧ Hid (PS w wr x P B (q : Int) (m : Int) false)) (fun _ _ s11 _ => n - (intOf s11).toNat)
  case atStart => exact ⟨0, 0, 0, by omega, by omega, by omega, by omega, rfl, rfl, rfl, HP⟩
  case round =>
    obtain ⟨k, q, m, hk, hk1, hq, hm, rfl, rfl, rfl, HPr⟩ := hrel
    by_cases hlt : k < n
    · have hlti : (k : Int) < n := by omega
      by_cases hlt2 : k < 300
      · have hlt2i : (k : Int) < 300 := by omega
        have h0 : (0 : Int) ≤ k := by omega
        obtain ⟨e, he, he6⟩ := HV.out k hlt
        obtain ⟨ad, rfl, z⟩ := src_cell HS.out HPr.out.bl (u16v_at he)
        clear he
        have HLT := Lib.hid (And.intro hlt hlt2)
        have HK := Lib.hid (And.intro hq hm)
        obtain ⟨r, hr, hr4⟩ : ∃ r : Nat, (e : Int) % 4001 = r ∧ r ≤ 4000 := ⟨e % 4001, by omega, by omega⟩
        have HSN := Lib.hid (HPr.out.sent (k := (r : Int)) (by omega) (by omega) (by omega) (by omega))
        have HR4 := Lib.hid hr4
        have e1 : IntKind.i64.wrap ((q : Int) + 1) = (q : Int) + 1 := IntWalk.i64_in _ (by omega)
        have e2 : IntKind.i64.wrap ((m : Int) + r) = (m : Int) + r := IntWalk.i64_in _ (by omega)
        clear hr4 hlt hlt2 hk1 hm hk hq
        by_cases g1 : P ≤ (q : Int) + 1
        · have HQ := Lib.hid (show askP P B ((q : Int) + 1) ((m : Int) + r) false false false = true by unfold askP; simp [g1])
          go_wp2_with (first
            | (go_at_call 123; (with_reducible refine HSN.out.mono ?_); rintro e w2 ⟨rfl, hp, _⟩; (have HP2 := Lib.hid hp; clear hp HSN))
            | (go_at_call 125; (with_reducible refine (HP2.out.yes HQ.out).mono ?_); rintro e w3 ⟨rfl, hp, _⟩; (have HP3 := Lib.hid hp; clear hp HP2))
            | (go_at_call 125; (with_reducible refine (HP3.out.not HN0.out).mono ?_); rintro e w4 ⟨rfl, hp, _⟩; (have HP4 := Lib.hid hp; clear hp HP3)))
          go_roundw
          case rel => exact ⟨k + 1, 0, 0, by have := HLT.out; omega, by have := HLT.out; omega, by omega, by omega, by go_num, rfl, rfl, HP4⟩
          case measure => have := HLT.out; simp [intOf]; omega
        · have g1b : decide (P ≤ (q : Int) + 1) = false := by simpa using g1
          by_cases g2 : B ≤ (m : Int) + r
          · have HQ := Lib.hid (show askP P B ((q : Int) + 1) ((m : Int) + r) false false false = true by unfold askP; simp [g2])
            go_wp2_with (first
              | (go_at_call 123; (with_reducible refine HSN.out.mono ?_); rintro e w2 ⟨rfl, hp, _⟩; (have HP2 := Lib.hid hp; clear hp HSN))
              | (go_at_call 125; (with_reducible refine (HP2.out.yes HQ.out).mono ?_); rintro e w3 ⟨rfl, hp, _⟩; (have HP3 := Lib.hid hp; clear hp HP2))
              | (go_at_call 125; (with_reducible refine (HP3.out.not HN0.out).mono ?_); rintro e w4 ⟨rfl, hp, _⟩; (have HP4 := Lib.hid hp; clear hp HP3)))
            go_roundw
            case rel => exact ⟨k + 1, 0, 0, by have := HLT.out; omega, by have := HLT.out; omega, by omega, by omega, by go_num, rfl, rfl, HP4⟩
            case measure => have := HLT.out; simp [intOf]; omega
          · have g2b : decide (B ≤ (m : Int) + r) = false := by simpa using g2
            have HQ := Lib.hid (show askP P B ((q : Int) + 1) ((m : Int) + r) false false false = false by unfold askP; simp only [g1b, g2b]; rfl)
            go_wp2_with (first
              | (go_at_call 123; (with_reducible refine HSN.out.mono ?_); rintro e w2 ⟨rfl, hp, _⟩; (have HP2 := Lib.hid hp; clear hp HSN))
              | (go_at_call 125; (with_reducible refine (HP2.out.not HQ.out).mono ?_); rintro e w3 ⟨rfl, hp, _⟩; (have HP3 := Lib.hid hp; clear hp HP2))
              | (go_at_call 125; (with_reducible refine (HP3.out.not HQ.out).mono ?_); rintro e w4 ⟨rfl, hp, _⟩; (have HP4 := Lib.hid hp; clear hp HP3)))
            go_roundw
            case rel => exact ⟨k + 1, q + 1, m + r, by have := HLT.out; omega, by have := HLT.out; omega, by have := HK.out; omega, by have := HK.out; have := HR4.out; omega, by go_num, by go_num, by go_num, by rw [show ((q + 1 : Nat) : Int) = (q : Int) + 1 by omega, show ((m + r : Nat) : Int) = (m : Int) + r by omega]; exact HP4⟩
            case measure => have := HLT.out; simp [intOf]; omega
      · have hlt2i : ¬ (k : Int) < 300 := by omega
        clear hlt2 hlt
        go_wp2_with (go_at_call 122; (with_reducible refine (HA.out _).mono ?_); rintro e w2 ⟨rfl, hb⟩; (have HB2 := Lib.hid hb; clear hb))
        go_ret
        exact ⟨rfl, bl_step HPr.out.bl HB2.out⟩
    · have hlti : ¬ (k : Int) < n := by omega
      clear hlt
      go_wp2_with (go_at_call 122; (with_reducible refine (HA.out _).mono ?_); rintro e w2 ⟨rfl, hb⟩; (have HB2 := Lib.hid hb; clear hb))
      go_ret
      exact ⟨rfl, bl_step HPr.out.bl HB2.out⟩
end Go.Proofs.Ytfgjlhklioijmaa
namespace Go.Proofs.Ytfgjlhklioijmaa
open Go.RowKit

theorem u8_wfp {a : Int} (h : (Lit.int .u8 a).wf = true) : ∃ k : Nat, a = k ∧ k < 256 := by
  have := Go.bounds_u8 h
  exact ⟨a.toNat, by omega, by omega⟩
theorem pempty_every (P B a : Int) (A : Option Addr) (l : List Nat) (c : Nat) {n : Nat} (w : World) (hl : l.length = n) (hn : n ≤ 9223372036854775807) (hs : Src w A (u16v l)) (hb : ∀ b ∈ l, b < 65536) (h : (Lit.int .u8 a).wf = true) : Calls Try.prog 19 #[.int .i64 P, .int .i64 B, .slice A n c, .int .u8 a] w fun e w' => e = .returned (.bool true) ∧ Below w.heap.size w w' := by
  obtain ⟨k, rfl, hk⟩ := u8_wfp h
  by_cases hg : 1 ≤ P ∧ P ≤ 1000 ∧ 1 ≤ B ∧ B ≤ 20000
  · exact pempty_ok P B k A l n c w hg.1 hg.2.1 hg.2.2.1 hg.2.2.2 hk hl hn hs hb
  · exact pempty_no P B k A n c w hg
theorem psoon_every (P B : Int) (A : Option Addr) (l : List Nat) (c : Nat) {n : Nat} (w : World) (hl : l.length = n) (hn : n ≤ 9223372036854775807) (hs : Src w A (u16v l)) (hb : ∀ b ∈ l, b < 65536) : Calls Try.prog 18 #[.int .i64 P, .int .i64 B, .slice A n c] w fun e w' => e = .returned (.bool true) ∧ Below w.heap.size w w' := by
  by_cases hg : 1 ≤ P ∧ P ≤ 1000 ∧ 1 ≤ B ∧ B ≤ 20000
  · exact psoon_ok P B A l n c w hg.1 hg.2.1 hg.2.2.1 hg.2.2.2 hl hn hs hb
  · exact psoon_no P B A n c w hg
end Go.Proofs.Ytfgjlhklioijmaa
namespace Go.Proofs.Ytfgjlhklioijmaa
open Go.ChangeShapes Go.WideShapes Go.ChangeAt Go.RowKit

theorem lawOwn : ownKnob Try.prog.godebug = none := by kernel_rfl
theorem lawLaid : laidOutB Try.prog = true := by kernel_rfl

section
variable {H : Type} {enc : TypeId × Value → H} {P : Program}
/-- what was read in the old world is read in the new one -/
theorem args_stay (hl : laidOutB P = true) {W W' : World} (hb : Below W.heap.size W W') : ∀ (ts : List TypeId) (vs : List Value) (ds : List (DataW H)) (ps : List MemPlace),
    (∀ t ∈ ts, P.readableRec t = true ∧ t < P.types.size) → DataW.TrodAll enc P W 0 (fun _ => true) true ts vs ds ps → (∀ x ∈ ps, x.block < W.heap.size) →
    DataW.TrodAll enc P W' 0 (fun b => decide (b < W.heap.size)) true ts vs ds ps := by
  intro ts
  induction ts with
  | nil =>
    intro vs ds ps _ h _
    obtain ⟨rfl, rfl, rfl⟩ := trodAll_nil h
    exact trodAll_mk0
  | cons t ts ih =>
    intro vs ds ps hr h hlt
    obtain ⟨v, vs', d, ds', p, q, rfl, rfl, rfl, h1, h2⟩ := trodAll_cons h
    have ht := hr t (List.mem_cons_self ..)
    exact trodAll_cons_mk (Below.trod hl ht.1 ht.2 h1 hb fun x hx => hlt x (List.mem_append_left _ hx))
      (ih vs' ds' q (fun u hu => hr u (List.mem_cons_of_mem _ hu)) h2 fun x hx => hlt x (List.mem_append_right _ hx))

theorem law_post {f : Func} {s : ChangeSpec} {W W' : World} {args : Array Value} {ds gs : List (DataW H)} {before : List MemPlace} {B : TypeId}
    (hl : laidOutB P = true) (hr : f.params.toList.all (fun t => P.readableRec t && decide (t < P.types.size)) = true) (hv : s.vars = [])
    (hW : DataW.Whole enc P f.params.toList s.vars false W args.toList ds gs before)
    (hs : s.fn H (ds ++ gs) = { results := [.lit (.bool true)], args := ds }) (ht : f.resultTypes = #[B]) (hB : P.underlying B = some .bool)
    (hb : Below W.heap.size W W') : s.post enc P f false true false false W args (.bool true) W' := by
  have hW' := hW
  obtain ⟨p, q, hA, hV, rfl, _, _⟩ := hW
  rw [hv] at hV
  obtain ⟨rfl, rfl⟩ := trodVars_none hV
  refine ⟨ds, [], p ++ [], [], p, [], hW', ?_, ?_, ?_, hb.frame _, fun h => by cases h⟩
  · rw [hs, ht]
    exact trodAll_mk1 (shut_bool hB true)
  · rw [hs]
    exact args_stay hl hb _ _ _ _ (fun t h => by have := List.all_eq_true.1 hr t h; simpa using this) hA fun x hx => hW'.lt x (List.mem_append_left _ hx)
  · rw [hs, hv]
    exact rfl
end
end Go.Proofs.Ytfgjlhklioijmaa
