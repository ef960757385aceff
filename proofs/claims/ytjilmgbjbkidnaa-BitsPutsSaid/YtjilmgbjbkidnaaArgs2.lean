/-
  How the argument of a statement of bits reads that is pairs of a number and a width.
-/
import Derived.Test.YtjilmgbjbkidnaaArgs
import Derived.Test.YtjilmgbjbkidnaaBitsBack
namespace Go.Proofs.Ytjilmgbjbkidnaa
open Go.ChangeShapes Go.WideShapes Go.ChangeAt Go.RowKit Go.Deep

theorem Try.cells30 : Try.prog.cellsOf 30 = 2 := by kernel_rfl
theorem Try.cells28 : Try.prog.cellsOf 28 = 1 := by kernel_rfl
theorem Try.cells3 : Try.prog.cellsOf 3 = 1 := by kernel_rfl

theorem pairs_arg {H : Type} {enc : TypeId × Value → H} {W : World} {base : Nat} {v : Value} {d : DataW H} {p : List MemPlace} (hok : Value.okWide Try.prog W .any base 22 v)
    (h : DataW.Trod enc Try.prog W 0 (fun _ => true) true 22 v d p) : ∃ (A : Option Addr) (cap : Nat) (l : List (Nat × Int)), v = .slice A l.length cap ∧ l.length ≤ cap ∧ cap ≤ 9223372036854775807 ∧ PSrc W A l ∧ ∀ x ∈ l, x.1 < 18446744073709551616 := by
  obtain ⟨a0, len, cap, rfl⟩ := okWide_slice Try.underlying22 hok
  obtain ⟨fuel, hf⟩ := h
  rcases open_slice_pairs Try.underlying22 Try.underlying30 Try.cells30 rfl rfl Try.cells28 Try.cells3 hf with ⟨hcs, _⟩ | ⟨a, len', cap', m, n, V0, V1, D0, D1, P0, P1, hcs, _, hl, hm, hmm, _, hcell⟩
  · have e : Value.slice a0 len cap = .slice none 0 0 := by simpa [Value.cells] using hcs
    rw [e]
    exact ⟨none, 0, [], rfl, Nat.le_refl _, by omega, fun h0 => absurd h0 (by simp), fun b hb => by cases hb⟩
  · have e : Value.slice a0 len cap = .slice (some a) len' cap' := by simpa [Value.cells] using hcs
    rw [e]
    have hm' : m = cap' := by simpa using hmm
    have each : ∀ i, i < len' → ∃ zv zn : Int, V0 i = .int .u64 zv ∧ V1 i = .int .i64 zn ∧ 0 ≤ zv ∧ zv < 18446744073709551616 := by
      intro i hi
      obtain ⟨_, _, t0, t1⟩ := hcell i (by omega)
      obtain ⟨zv, e0, _, w0⟩ := DataW.trod_int Try.underlying28 t0
      obtain ⟨zn, e1, _, _⟩ := DataW.trod_int Try.underlying3 t1
      have hb := bounds_u64 w0
      simp at e0 e1
      exact ⟨zv, zn, e0, e1, hb.1, by omega⟩
    have hlen : ((List.range len').map fun i => ((intOf (V0 i)).toNat, intOf (V1 i))).length = len' := by simp
    refine ⟨some a, cap', (List.range len').map fun i => ((intOf (V0 i)).toNat, intOf (V1 i)), by rw [hlen], by omega, by unfold maxLen at hm; exact hm, fun h0 => ?_, fun x hx => ?_⟩
    · rw [hlen] at h0
      obtain ⟨b, off, spot⟩ := a
      have hspot : spot = none := by
        have hc := (hcell 0 (by omega)).1
        simpa [Addr.add] using World.cell?_spot hc
      subst hspot
      refine ⟨b, off, rfl, fun j x hx => ?_⟩
      have hj : j < len' := by
        have h1 := (List.getElem?_eq_some_iff.1 hx).1
        rw [hlen] at h1
        exact h1
      obtain ⟨c0, c1, _, _⟩ := hcell j (by omega)
      rw [add_plain] at c0 c1
      obtain ⟨zv, zn, e0, e1, hb0, _⟩ := each j hj
      have hx' : x = (zv.toNat, zn) := by
        rw [List.getElem?_map, List.getElem?_range hj] at hx
        simp [e0, e1, intOf] at hx
        exact hx.symm
      subst hx'
      rw [e0] at c0
      rw [e1] at c1
      refine ⟨?_, ?_⟩
      · rw [c0]
        simp only [Int.toNat_of_nonneg hb0]
      · rw [← Nat.add_assoc] at c1
        exact c1
    · rw [List.mem_map] at hx
      obtain ⟨i, hi, rfl⟩ := hx
      obtain ⟨zv, zn, e0, _, hb0, hb1⟩ := each i (List.mem_range.1 hi)
      simp only [e0, intOf]
      omega
end Go.Proofs.Ytjilmgbjbkidnaa
