/-
  How the arguments of a statement of bits read: bytes, and pairs of a number and a width.
-/
import Derived.Test.YtcpjalkonfjgbaaLaw
import Derived.Test.YtcpjalkonfjgbaaBits
import Derived.Deep.SlicePairs
namespace Go.Proofs.Ytcpjalkonfjgbaa
open Go.ChangeShapes Go.WideShapes Go.ChangeAt Go.RowKit

theorem Try.cells5 : Try.prog.cellsOf 5 = 1 := by kernel_rfl

theorem bytes_arg {H : Type} {enc : TypeId × Value → H} {W : World} {base : Nat} {v : Value} {d : DataW H} {p : List MemPlace} (hok : Value.okWide Try.prog W .any base 23 v)
    (h : DataW.Trod enc Try.prog W 0 (fun _ => true) true 23 v d p) : ∃ (A : Option Addr) (cap : Nat) (l : List Nat), v = .slice A l.length cap ∧ l.length ≤ cap ∧ cap ≤ maxLen ∧ Src W A (bts l) ∧ ∀ b ∈ l, b < 256 := by
  obtain ⟨a0, len, cap, rfl⟩ := okWide_slice Try.underlying23 hok
  obtain ⟨fuel, hf⟩ := h
  rcases open_ints Try.underlying23 Try.underlying5 Try.cells5 hf with ⟨hcs, _⟩ | ⟨a, len', cap', zs, hcs, _, hl, hm, hz, _, hcell, hwz⟩
  · simp only [Value.cells] at hcs
    have e : Value.slice a0 len cap = .slice none 0 0 := by simpa using hcs
    rw [e]
    exact ⟨none, 0, [], rfl, Nat.le_refl _, by simp [maxLen], fun h0 => absurd h0 (by simp [bts]), fun b hb => by cases hb⟩
  · have e : Value.slice a0 len cap = .slice (some a) len' cap' := by simpa [Value.cells] using hcs
    rw [e]
    have hz' : zs.length = cap' := by simpa using hz
    have hlen : ((zs.take len').map Int.toNat).length = len' := by rw [List.length_map, List.length_take]; omega
    refine ⟨some a, cap', (zs.take len').map Int.toNat, by rw [hlen], by omega, hm, fun _ => ⟨a, rfl, fun j u hu => ?_⟩, fun b hb => ?_⟩
    · have hj : j < len' := by
        have h1 := (List.getElem?_eq_some_iff.1 hu).1
        rw [length_bts, hlen] at h1
        exact h1
      have h2 := hcell j (by omega)
      rw [h2]
      have hjz : j < zs.length := by omega
      have hw := bounds_u8 (hwz zs[j] (List.getElem_mem hjz))
      have h3 : ((zs.take len').map Int.toNat)[j]? = some zs[j].toNat := by
        rw [List.getElem?_map, List.getElem?_take, if_pos hj, List.getElem?_eq_getElem hjz]
        rfl
      have h4 := bts_at h3
      rw [h4] at hu
      injection hu with hu
      rw [← hu, List.getD_eq_getElem?_getD, List.getElem?_eq_getElem hjz]
      simp only [Option.getD_some]
      rw [Int.toNat_of_nonneg hw.1]
    · rw [List.mem_map] at hb
      obtain ⟨z, hz2, rfl⟩ := hb
      have hw := bounds_u8 (hwz z (List.mem_of_mem_take hz2))
      omega
end Go.Proofs.Ytcpjalkonfjgbaa
