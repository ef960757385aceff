/-
  How the arguments of the statements of spans read: calls (whether taken out, and a span), and spans.
-/
import Derived.Test.YtmaefeckkodllaaLaw
import Derived.Test.YtmaefeckkodllaaSpans
import Derived.Deep.Slices
import Derived.Deep.SlicePairs
import Derived.Lib.SmallJoins
namespace Go.Proofs.Ytmaefeckkodllaa
open Go.ChangeShapes Go.WideShapes Go.ChangeAt Go.RowKit Go.Deep Go.Joins

theorem Try.cells33 : Try.prog.cellsOf 33 = 3 := by kernel_rfl
theorem Try.cells24 : Try.prog.cellsOf 24 = 2 := by kernel_rfl
theorem Try.cells4 : Try.prog.cellsOf 4 = 1 := by kernel_rfl
theorem Try.cells3 : Try.prog.cellsOf 3 = 1 := by kernel_rfl

/-- where calls lie -/
def OSrc (w : World) (A : Option Addr) (l : List (Bool × (Int × Int))) : Prop :=
  0 < l.length → ∃ b off, A = some ⟨b, off, none⟩ ∧ ∀ k o, l[k]? = some o → w.cell? ⟨b, off + k * 3, none⟩ = some (.bool o.1) ∧ w.cell? ⟨b, off + k * 3 + 1, none⟩ = some (.int .i64 o.2.1) ∧ w.cell? ⟨b, off + k * 3 + 2, none⟩ = some (.int .i64 o.2.2)

theorem span_cells {H : Type} {enc : TypeId × Value → H} {W : World} {base fuel : Nat} {sp : Nat → Bool} {held : Bool} {cs : List Value} {x : DataW H × List MemPlace}
    (h : DataW.trod enc Try.prog W base sp held fuel 24 cs = some x) : ∃ a b : Int, cs = [.int .i64 a, .int .i64 b] := by
  obtain ⟨xs, n, _, _, hl, hxs, hf⟩ := DataW.trod_struct Try.underlying24 h
  have h0 := hf 0 _ rfl
  have h1 := hf 1 _ rfl
  rw [Try.cells24] at hl
  match cs, hl with
  | [c0, c1], _ =>
    have hxs' : xs.length = 2 := by simpa using hxs
    match xs, hxs' with
    | [y0, y1], _ =>
      have h0' : DataW.trod enc Try.prog W base sp held n 3 (([c0, c1].drop 0).take (Try.prog.cellsOf 3)) = some y0 := h0
      have h1' : DataW.trod enc Try.prog W base sp held n 3 (([c0, c1].drop 1).take (Try.prog.cellsOf 3)) = some y1 := h1
      rw [Try.cells3] at h0' h1'
      obtain ⟨a, ea, _, _⟩ := DataW.trod_int Try.underlying3 h0'
      obtain ⟨b, eb, _, _⟩ := DataW.trod_int Try.underlying3 h1'
      simp at ea eb
      exact ⟨a, b, by rw [ea, eb]⟩

theorem op_cells {H : Type} {enc : TypeId × Value → H} {W : World} {base fuel : Nat} {sp : Nat → Bool} {held : Bool} {cs : List Value} {x : DataW H × List MemPlace}
    (h : DataW.trod enc Try.prog W base sp held fuel 33 cs = some x) : ∃ (t : Bool) (a b : Int), cs = [.bool t, .int .i64 a, .int .i64 b] := by
  obtain ⟨xs, n, _, _, hl, hxs, hf⟩ := DataW.trod_struct Try.underlying33 h
  have h0 := hf 0 _ rfl
  have h1 := hf 1 _ rfl
  rw [Try.cells33] at hl
  match cs, hl with
  | [c0, c1, c2], _ =>
    have hxs' : xs.length = 2 := by simpa using hxs
    match xs, hxs' with
    | [y0, y1], _ =>
      have h0' : DataW.trod enc Try.prog W base sp held n 4 (([c0, c1, c2].drop 0).take (Try.prog.cellsOf 4)) = some y0 := h0
      have h1' : DataW.trod enc Try.prog W base sp held n 24 (([c0, c1, c2].drop 1).take (Try.prog.cellsOf 24)) = some y1 := h1
      rw [Try.cells4] at h0'
      rw [Try.cells24] at h1'
      obtain ⟨t, et, _⟩ := DataW.trod_bool Try.underlying4 h0'
      obtain ⟨a, b, eab⟩ := span_cells h1'
      simp at et eab
      exact ⟨t, a, b, by rw [et, eab.1, eab.2]⟩

theorem ops_arg {H : Type} {enc : TypeId × Value → H} {W : World} {base : Nat} {v : Value} {d : DataW H} {p : List MemPlace} (hok : Value.okWide Try.prog W .any base 22 v)
    (h : DataW.Trod enc Try.prog W 0 (fun _ => true) true 22 v d p) : ∃ (A : Option Addr) (cap : Nat) (l : List (Bool × (Int × Int))), v = .slice A l.length cap ∧ l.length ≤ cap ∧ cap ≤ 9223372036854775807 ∧ OSrc W A l := by
  obtain ⟨a0, len, cap, rfl⟩ := okWide_slice Try.underlying22 hok
  obtain ⟨fuel, hf⟩ := h
  rcases open_slice Try.underlying22 hf with ⟨hcs, _⟩ | ⟨a, len', cap', m, n, D, Pl, hcs, _, hl, hm, hmm, _, hcell⟩
  · have e : Value.slice a0 len cap = .slice none 0 0 := by simpa [Value.cells] using hcs
    rw [e]
    exact ⟨none, 0, [], rfl, Nat.le_refl _, by omega, fun h0 => absurd h0 (by simp)⟩
  · have e : Value.slice a0 len cap = .slice (some a) len' cap' := by simpa [Value.cells] using hcs
    rw [e]
    have hm' : m = cap' := by simpa using hmm
    have each : ∀ i, i < len' → ∃ (t : Bool) (u w : Int), W.cell? (a.add (i * 3)) = some (.bool t) ∧ W.cell? (a.add (i * 3 + 1)) = some (.int .i64 u) ∧ W.cell? (a.add (i * 3 + 2)) = some (.int .i64 w) := by
      intro i hi
      obtain ⟨cs', hc, ht⟩ := hcell i (by omega)
      rw [Try.cells33] at hc
      obtain ⟨t, u, w, rfl⟩ := op_cells ht
      obtain ⟨_, _, hat⟩ := World.cells?_some hc
      have h0 := hat 0 (by omega)
      have h1 := hat 1 (by omega)
      have h2 := hat 2 (by omega)
      rw [add_add] at h0 h1 h2
      exact ⟨t, u, w, h0, h1, h2⟩
    have pick : ∃ f : Nat → Bool × (Int × Int), ∀ i, i < len' → W.cell? (a.add (i * 3)) = some (.bool (f i).1) ∧ W.cell? (a.add (i * 3 + 1)) = some (.int .i64 (f i).2.1) ∧ W.cell? (a.add (i * 3 + 2)) = some (.int .i64 (f i).2.2) := by
      refine ⟨fun i => if hi : i < len' then ((each i hi).choose, ((each i hi).choose_spec.choose, (each i hi).choose_spec.choose_spec.choose)) else (false, (0, 0)), fun i hi => ?_⟩
      simp only [dif_pos hi]
      exact (each i hi).choose_spec.choose_spec.choose_spec
    obtain ⟨f, hf'⟩ := pick
    have hlen : ((List.range len').map f).length = len' := by simp
    refine ⟨some a, cap', (List.range len').map f, by rw [hlen], by omega, by unfold maxLen at hm; exact hm, fun h0 => ?_⟩
    rw [hlen] at h0
    obtain ⟨b, off, spot⟩ := a
    have hspot : spot = none := by
      have hc := (hf' 0 (by omega)).1
      simpa [Addr.add] using World.cell?_spot hc
    subst hspot
    refine ⟨b, off, rfl, fun k o ho => ?_⟩
    have hk : k < len' := by
      have h1 := (List.getElem?_eq_some_iff.1 ho).1
      rw [hlen] at h1
      exact h1
    have ho' : o = f k := by
      rw [List.getElem?_map, List.getElem?_range hk] at ho
      simp at ho
      exact ho.symm
    subst ho'
    have h3 := hf' k hk
    rw [add_plain, add_plain, add_plain] at h3
    simpa [Nat.add_assoc] using h3

theorem span_arg {H : Type} {enc : TypeId × Value → H} {W : World} {base : Nat} {v : Value} {d : DataW H} {p : List MemPlace} (hok : Value.okWide Try.prog W .any base 24 v)
    (h : DataW.Trod enc Try.prog W 0 (fun _ => true) true 24 v d p) : ∃ x : Int × Int, v = spv x := by
  obtain ⟨cs, rfl, hsz⟩ := okWide_struct Try.underlying24 hok
  obtain ⟨fuel, hf⟩ := h
  obtain ⟨a, b, e⟩ := span_cells hf
  refine ⟨(a, b), ?_⟩
  have : cs = #[.int .i64 a, .int .i64 b] := by
    apply Array.toList_inj.1
    simpa [Value.cells] using e
  rw [this]
  rfl
end Go.Proofs.Ytmaefeckkodllaa
