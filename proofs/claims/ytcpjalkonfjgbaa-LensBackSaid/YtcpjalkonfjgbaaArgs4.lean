/-
  How ints that a statement draws read.
-/
import Derived.Test.YtcpjalkonfjgbaaArgs3
import Derived.Test.YtcpjalkonfjgbaaLensFault
namespace Go.Proofs.Ytcpjalkonfjgbaa
open Go.ChangeShapes Go.WideShapes Go.ChangeAt Go.RowKit

theorem Try.cells3i : Try.prog.cellsOf 3 = 1 := by kernel_rfl
theorem ints_arg2 {H : Type} {enc : TypeId × Value → H} {W : World} {base : Nat} {v : Value} {d : DataW H} {p : List MemPlace} (hok : Value.okWide Try.prog W .any base 34 v)
    (h : DataW.Trod enc Try.prog W 0 (fun _ => true) true 34 v d p) : ∃ (A : Option Addr) (cap : Nat) (l : List Int), v = .slice A l.length cap ∧ l.length ≤ cap ∧ cap ≤ maxLen ∧ Src W A (ins l) := by
  obtain ⟨a0, len, cap, rfl⟩ := okWide_slice Try.underlying34 hok
  obtain ⟨fuel, hf⟩ := h
  rcases open_ints Try.underlying34 Try.underlying3 Try.cells3i hf with ⟨hcs, _⟩ | ⟨a, len', cap', zs, hcs, _, hl, hm, hz, _, hcell, hwz⟩
  · simp only [Value.cells] at hcs
    have e : Value.slice a0 len cap = .slice none 0 0 := by simpa using hcs
    rw [e]
    exact ⟨none, 0, [], rfl, Nat.le_refl _, by simp [maxLen], fun h0 => absurd h0 (by simp [ins])⟩
  · have e : Value.slice a0 len cap = .slice (some a) len' cap' := by simpa [Value.cells] using hcs
    rw [e]
    have hz' : zs.length = cap' := by simpa using hz
    have hlen : (zs.take len').length = len' := by rw [List.length_take]; omega
    refine ⟨some a, cap', zs.take len', by rw [hlen], by omega, hm, fun _ => ⟨a, rfl, fun j u hu => ?_⟩⟩
    have hj : j < len' := by
      have h1 := (List.getElem?_eq_some_iff.1 hu).1
      rw [length_ins, hlen] at h1
      exact h1
    have h2 := hcell j (by omega)
    rw [h2]
    have hjz : j < zs.length := by omega
    have h3 : (zs.take len')[j]? = some zs[j] := by
      rw [List.getElem?_take, if_pos hj, List.getElem?_eq_getElem hjz]
    rw [ins_at h3] at hu
    injection hu with hu
    rw [← hu, List.getD_eq_getElem?_getD, List.getElem?_eq_getElem hjz]
    rfl
end Go.Proofs.Ytcpjalkonfjgbaa
