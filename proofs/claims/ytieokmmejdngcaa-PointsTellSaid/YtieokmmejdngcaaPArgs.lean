/-
  How the arguments of the statements of points read: bytes, and small numbers.
-/
import Derived.Test.YtieokmmejdngcaaLaw
import Derived.Test.YtieokmmejdngcaaPAlive
import Derived.Deep.Slices
namespace Go.Proofs.Ytieokmmejdngcaa
open Go.ChangeShapes Go.WideShapes Go.ChangeAt Go.RowKit Go.Deep

theorem Try.cells5 : Try.prog.cellsOf 5 = 1 := by kernel_rfl
theorem Try.cells70 : Try.prog.cellsOf 70 = 1 := by kernel_rfl

theorem add_of (b off j : Nat) : (⟨b, off, none⟩ : Addr).add j = ⟨b, off + j, none⟩ := by
  unfold Addr.add
  split
  · rename_i h; rw [h]; rfl
  · rfl
/-- numbers of a kind, where they lie -/
def KSrc (k : IntKind) (w : World) (A : Option Addr) (l : List Int) : Prop := ∀ (i : Nat) (x : Int), l[i]? = some x → ∃ g off, A = some ⟨g, off, none⟩ ∧ w.cell? ⟨g, off + i, none⟩ = some (.int k x)
theorem kinds_src {k : IntKind} {W : World} {a : Addr} {cap len : Nat} {zs : List Int} (hl : len ≤ cap) (hz : zs.length = cap) (hc : ∀ j, j < cap → W.cell? (a.add j) = some (.int k (zs.getD j 0))) :
    (zs.take len).length = len ∧ KSrc k W (some a) (zs.take len) := by
  have hlen : (zs.take len).length = len := by rw [List.length_take]; omega
  refine ⟨hlen, fun i x hx => ?_⟩
  have hi : i < len := by
    obtain ⟨h1, _⟩ := List.getElem?_eq_some_iff.1 hx
    omega
  obtain ⟨b, off, spot⟩ := a
  have hspot : spot = none := by
    have h1 := hc 0 (by omega)
    simpa [Addr.add] using World.cell?_spot h1
  subst hspot
  refine ⟨b, off, rfl, ?_⟩
  have h2 := hc i (by omega)
  rw [add_of] at h2
  rw [h2]
  rw [List.getElem?_take, if_pos hi] at hx
  rw [List.getD_eq_getElem?_getD, hx]
  rfl

theorem i8s_arg {H : Type} {enc : TypeId × Value → H} {W : World} {base : Nat} {v : Value} {d : DataW H} {p : List MemPlace} (hok : Value.okWide Try.prog W .any base 45 v)
    (h : DataW.Trod enc Try.prog W 0 (fun _ => true) true 45 v d p) : ∃ (A : Option Addr) (cap : Nat) (l : List Int), v = .slice A l.length cap ∧ l.length ≤ cap ∧ cap ≤ maxLen ∧ KSrc .i8 W A l ∧ ∀ b ∈ l, -128 ≤ b ∧ b ≤ 127 := by
  obtain ⟨a0, len, cap, rfl⟩ := okWide_slice Try.underlying45 hok
  obtain ⟨fuel, hf⟩ := h
  rcases open_ints Try.underlying45 Try.underlying70 Try.cells70 hf with ⟨hcs, _⟩ | ⟨a, len', cap', zs, hcs, _, hl, hm, hz, _, hcell, hwz⟩
  · simp only [Value.cells] at hcs
    have e : Value.slice a0 len cap = .slice none 0 0 := by simpa using hcs
    rw [e]
    exact ⟨none, 0, [], rfl, Nat.le_refl _, by simp [maxLen], fun i x hx => by simp at hx, fun b hb => by cases hb⟩
  · have e : Value.slice a0 len cap = .slice (some a) len' cap' := by simpa [Value.cells] using hcs
    rw [e]
    have hz' : zs.length = cap' := by simpa using hz
    obtain ⟨h1, h2⟩ := kinds_src (k := .i8) (W := W) (a := a) hl hz' (fun j hj => hcell j (by omega))
    exact ⟨some a, cap', _, by rw [h1], by omega, hm, h2, fun b hb => bounds_i8 (hwz b (List.mem_of_mem_take hb))⟩

theorem bytes_arg {H : Type} {enc : TypeId × Value → H} {W : World} {base : Nat} {v : Value} {d : DataW H} {p : List MemPlace} (hok : Value.okWide Try.prog W .any base 44 v)
    (h : DataW.Trod enc Try.prog W 0 (fun _ => true) true 44 v d p) : ∃ (A : Option Addr) (cap : Nat) (l : List Nat), v = .slice A l.length cap ∧ l.length ≤ cap ∧ cap ≤ maxLen ∧ BSrc W A l ∧ ∀ b ∈ l, b < 256 := by
  obtain ⟨a0, len, cap, rfl⟩ := okWide_slice Try.underlying44 hok
  obtain ⟨fuel, hf⟩ := h
  rcases open_ints Try.underlying44 Try.underlying5 Try.cells5 hf with ⟨hcs, _⟩ | ⟨a, len', cap', zs, hcs, _, hl, hm, hz, _, hcell, hwz⟩
  · simp only [Value.cells] at hcs
    have e : Value.slice a0 len cap = .slice none 0 0 := by simpa using hcs
    rw [e]
    exact ⟨none, 0, [], rfl, Nat.le_refl _, by simp [maxLen], fun i x hx => by simp at hx, fun b hb => by cases hb⟩
  · have e : Value.slice a0 len cap = .slice (some a) len' cap' := by simpa [Value.cells] using hcs
    rw [e]
    have hz' : zs.length = cap' := by simpa using hz
    obtain ⟨h1, h2⟩ := kinds_src (k := .u8) (W := W) (a := a) hl hz' (fun j hj => hcell j (by omega))
    refine ⟨some a, cap', (zs.take len').map Int.toNat, by rw [List.length_map, h1], by rw [List.length_map, h1]; exact hl, hm, fun i b hb => ?_, fun b hb => ?_⟩
    · rw [List.getElem?_map, Option.map_eq_some_iff] at hb
      obtain ⟨x, hx, rfl⟩ := hb
      obtain ⟨g, off, h3, h4⟩ := h2 i x hx
      refine ⟨g, off, h3, ?_⟩
      have hb2 := bounds_u8 (hwz x (List.mem_of_mem_take (List.mem_of_getElem? hx)))
      rw [h4, Int.toNat_of_nonneg hb2.1]
    · rw [List.mem_map] at hb
      obtain ⟨z, hz2, rfl⟩ := hb
      have hww := bounds_u8 (hwz z (List.mem_of_mem_take hz2))
      omega
end Go.Proofs.Ytieokmmejdngcaa
