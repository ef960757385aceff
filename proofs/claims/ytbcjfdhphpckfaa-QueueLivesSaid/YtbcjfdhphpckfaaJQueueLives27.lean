/-
  How calls of two numbers and bytes that a statement draws read.
-/
import Derived.Test.YtbcjfdhphpckfaaJQueueLives25
import Derived.Test.YtbcjfdhphpckfaaJQueueLives26
import Derived.Test.YtbcjfdhphpckfaaJQueueLives01
import Derived.Deep.Slices
import Derived.Deep.SlicePairs
import Derived.Lib.SmallJoins
namespace Go.Proofs.Ytbcjfdhphpckfaa
open Go.ChangeShapes Go.WideShapes Go.ChangeAt Go.RowKit Go.Deep Go.Joins

theorem Try.cells36p : Try.prog.cellsOf 36 = 3 := by kernel_rfl
theorem Try.cells3p : Try.prog.cellsOf 3 = 1 := by kernel_rfl
set_option maxRecDepth 100000 in
theorem bytes_cellp {H : Type} {enc : TypeId × Value → H} {W : World} {fuel : Nat} {cs : List Value} {y : DataW H × List MemPlace} (hf : DataW.trod enc Try.prog W 0 (fun _ => true) true fuel 34 cs = some y) :
    ∃ r : RowB, cs = [r.v] ∧ r.ok W := by
  rcases open_ints Try.underlying34 Try.underlying5 Try.cells5 hf with ⟨hcs, _⟩ | ⟨a, len', cap', zs, hcs, _, hl, hm, hz, _, hcell, hwz⟩
  · exact ⟨⟨none, 0, []⟩, hcs, fun h0 => absurd h0 (by simp [bts]), Nat.le_refl _, by show 0 ≤ 9223372036854775807; omega, fun b hb => by cases hb⟩
  · have hz : zs.length = cap' := by simpa using hz
    obtain ⟨h1, h2, h3⟩ := nums_src hl hz (fun j hj => hcell j (by omega)) hwz
    refine ⟨⟨some a, cap', (zs.take len').map Int.toNat⟩, by rw [hcs]; unfold RowB.v; rw [h1], h2, by show ((zs.take len').map Int.toNat).length ≤ cap'; omega, by show cap' ≤ 9223372036854775807; unfold maxLen at hm; exact hm, h3⟩
set_option maxRecDepth 100000 in
theorem opb_cells {H : Type} {enc : TypeId × Value → H} {W : World} {fuel : Nat} {cs : List Value} {x : DataW H × List MemPlace}
    (h : DataW.trod enc Try.prog W 0 (fun _ => true) true fuel 36 cs = some x) : ∃ (a b : Int) (r : RowB), cs = [.int .i64 a, .int .i64 b, r.v] ∧ r.ok W := by
  obtain ⟨xs, n, _, _, hl, hxs, hf⟩ := DataW.trod_struct Try.underlying36 h
  have h0 := hf 0 _ rfl
  have h1 := hf 1 _ rfl
  have h2 := hf 2 _ rfl
  rw [Try.cells36p] at hl
  match cs, hl with
  | [c0, c1, c2], _ =>
    have hxs' : xs.length = 3 := by simpa using hxs
    match xs, hxs' with
    | [y0, y1, y2], _ =>
      have h0' : DataW.trod enc Try.prog W 0 (fun _ => true) true n 3 (([c0, c1, c2].drop 0).take (Try.prog.cellsOf 3)) = some y0 := h0
      have h1' : DataW.trod enc Try.prog W 0 (fun _ => true) true n 3 (([c0, c1, c2].drop 1).take (Try.prog.cellsOf 3)) = some y1 := h1
      have h2' : DataW.trod enc Try.prog W 0 (fun _ => true) true n 34 (([c0, c1, c2].drop 2).take (Try.prog.cellsOf 34)) = some y2 := h2
      rw [Try.cells3p] at h0' h1'
      rw [Try.cells34] at h2'
      obtain ⟨a, ea, _, _⟩ := DataW.trod_int Try.underlying3 h0'
      obtain ⟨b, eb, _, _⟩ := DataW.trod_int Try.underlying3 h1'
      obtain ⟨r, er, hr⟩ := bytes_cellp h2'
      simp at ea eb er
      exact ⟨a, b, r, by rw [ea, eb, er], hr⟩
set_option maxRecDepth 100000 in
theorem opsb_arg {H : Type} {enc : TypeId × Value → H} {W : World} {base : Nat} {v : Value} {d : DataW H} {p : List MemPlace} (hok : Value.okWide Try.prog W .any base 22 v)
    (h : DataW.Trod enc Try.prog W 0 (fun _ => true) true 22 v d p) : ∃ (A : Option Addr) (cap : Nat) (l : List OpB), v = .slice A l.length cap ∧ l.length ≤ cap ∧ cap ≤ 9223372036854775807 ∧ BSrc04 W A l := by
  obtain ⟨a0, len, cap, rfl⟩ := okWide_slice Try.underlying22 hok
  obtain ⟨fuel, hf⟩ := h
  rcases open_slice Try.underlying22 hf with ⟨hcs, _⟩ | ⟨a, len', cap', m, n, D, Pl, hcs, _, hl, hm, hmm, _, hcell⟩
  · have e : Value.slice a0 len cap = .slice none 0 0 := by simpa [Value.cells] using hcs
    rw [e]
    exact ⟨none, 0, [], rfl, Nat.le_refl _, by omega, fun h0 => absurd h0 (by simp)⟩
  · have e : Value.slice a0 len cap = .slice (some a) len' cap' := by simpa [Value.cells] using hcs
    rw [e]
    have hm' : m = cap' := by simpa using hmm
    have each : ∀ i, i < len' → ∃ o : OpB, W.cell? (a.add (i * 3)) = some (.int .i64 o.k) ∧ W.cell? (a.add (i * 3 + 1)) = some (.int .i64 o.n) ∧ W.cell? (a.add (i * 3 + 2)) = some o.r.v ∧ o.r.ok W := by
      intro i hi
      obtain ⟨cs', hc, ht⟩ := hcell i (by omega)
      rw [Try.cells36p] at hc
      obtain ⟨t, u, r, rfl, hr⟩ := opb_cells ht
      obtain ⟨_, _, hat⟩ := World.cells?_some hc
      have h0 := hat 0 (by omega)
      have h1 := hat 1 (by omega)
      have h2 := hat 2 (by omega)
      rw [add_add] at h0 h1 h2
      exact ⟨⟨t, u, r⟩, h0, h1, h2, hr⟩
    have pick : ∃ f : Nat → OpB, ∀ i, i < len' → W.cell? (a.add (i * 3)) = some (.int .i64 (f i).k) ∧ W.cell? (a.add (i * 3 + 1)) = some (.int .i64 (f i).n) ∧ W.cell? (a.add (i * 3 + 2)) = some (f i).r.v ∧ (f i).r.ok W := by
      refine ⟨fun i => if hi : i < len' then (each i hi).choose else ⟨0, 0, ⟨none, 0, []⟩⟩, fun i hi => ?_⟩
      simp only [dif_pos hi]
      exact (each i hi).choose_spec
    obtain ⟨f, hf'⟩ := pick
    have hlen : ((List.range len').map f).length = len' := by simp
    refine ⟨some a, cap', (List.range len').map f, by rw [hlen], by omega, by unfold maxLen at hm; exact hm, fun h0 => ?_⟩
    rw [hlen] at h0
    obtain ⟨b, off, spot⟩ := a
    have hspot : spot = none := by
      have hc := (hf' 0 (by omega)).1
      simpa [Addr.add] using World.cell?_spot hc
    subst hspot
    refine ⟨b, off, rfl, fun k o ho => ?_⟩
    have hk : k < len' := by
      have h1 := (List.getElem?_eq_some_iff.1 ho).1
      rw [hlen] at h1
      exact h1
    have ho' : o = f k := by
      rw [List.getElem?_map, List.getElem?_range hk] at ho
      simp at ho
      exact ho.symm
    subst ho'
    have h3 := hf' k hk
    rw [add_plain, add_plain, add_plain] at h3
    simpa [Nat.add_assoc] using h3
end Go.Proofs.Ytbcjfdhphpckfaa
