/-
  How the packets of amd that a statement draws read.
-/
import Derived.Test.YtfgjlhklioijmaaJResegWhole33
namespace Go.Proofs.Ytfgjlhklioijmaa
open Go.ChangeShapes Go.WideShapes Go.ChangeAt Go.RowKit Go.Deep

theorem agg_field {H : Type} {enc : TypeId × Value → H} {P : Program} {w : World} {base b0 : Nat} {spare : Nat → Bool} {held : Bool} {r : Reach} {t : TypeId} {fs : Array Field} {v : Value} {d : DataW H} {p : List MemPlace}
    (hs : P.underlying t = some (.struct fs)) (hone : oneCellFields P fs = true) (hC : P.cellsOf t = fs.size) (hv : Value.okWide P w r b0 t v) (h : DataW.Trod enc P w base spare held t v d p) :
    ∃ cs : Array Value, v = .agg cs ∧ cs.size = fs.size ∧ ∃ n, ∀ (j : Nat) (f : Field), fs[j]? = some f → ∃ (x : Value) (y : DataW H × List MemPlace), cs[j]? = some x ∧ DataW.trod enc P w base spare held n f.type [x] = some y := by
  obtain ⟨cs, rfl, hsz⟩ := okWide_struct hs hv
  obtain ⟨fuel, hf⟩ := h
  obtain ⟨xs, n, _, _, _, hlen, hg⟩ := DataW.trod_struct hs hf
  refine ⟨cs, rfl, hsz.trans hC, n, fun j f hj => ?_⟩
  obtain ⟨ho, hk⟩ := hone_of hone j f hj
  have hjl : j < fs.size := (Array.getElem?_eq_some_iff.1 hj).1
  have hjc : j < cs.size := by rw [hsz, hC]; exact hjl
  have hjx : j < xs.length := by omega
  refine ⟨cs[j], xs[j], Array.getElem?_eq_getElem hjc, ?_⟩
  have h1 := hg j f hj
  rw [ho, hk, List.getElem?_eq_getElem hjx] at h1
  have e : ((Value.agg cs).cells.toList.drop j).take 1 = [cs[j]] := by
    simp only [Value.cells]
    rw [List.drop_eq_getElem_cons (by simpa using hjc)]
    simp
  rw [← e]
  exact h1
set_option maxRecDepth 100000 in
/-- a packet of amd as it came in -/
theorem apack_arg {H : Type} {enc : TypeId × Value → H} {W : World} {base : Nat} {v : Value} {d : DataW H} {p : List MemPlace} (hok : Value.okWide Try.prog W .any base 24 v)
    (h : DataW.Trod enc Try.prog W 0 (fun _ => true) true 24 v d p) : ∃ (poll part last : Bool) (fi sn off : Int) (A : Option Addr) (cap : Nat) (L : List RowB), v = .agg #[.bool poll, .int .i64 fi, .int .i64 sn, .bool part, .bool last, .int .i64 off, .slice A L.length cap] ∧ L.length ≤ cap ∧ cap ≤ 9223372036854775807 ∧ RSrc W A L ∧ ∀ m ∈ lens L, m ≤ 9223372036854775807 := by
  obtain ⟨cs, rfl, hsz, n, hf⟩ := agg_field Try.underlying24 (by kernel_rfl) (by kernel_rfl) hok h
  obtain ⟨x0, y0, e0, h0⟩ := hf 0 _ rfl
  obtain ⟨x1, y1, e1, h1⟩ := hf 1 _ rfl
  obtain ⟨x2, y2, e2, h2⟩ := hf 2 _ rfl
  obtain ⟨x3, y3, e3, h3⟩ := hf 3 _ rfl
  obtain ⟨x4, y4, e4, h4⟩ := hf 4 _ rfl
  obtain ⟨x5, y5, e5, h5⟩ := hf 5 _ rfl
  obtain ⟨x6, y6, e6, h6⟩ := hf 6 _ rfl
  have hcs : cs = #[x0, x1, x2, x3, x4, x5, x6] := by
    have hsz7 : cs.size = 7 := hsz
    apply Array.ext (by rw [hsz7]; rfl)
    intro i hi _
    have h7 : i < 7 := by omega
    have key : ∀ k x, cs[k]? = some x → ∀ (hk : k < cs.size), cs[k] = x := fun k x hx hk => by
      rw [Array.getElem?_eq_getElem hk] at hx
      injection hx
    rcases i with _ | _ | _ | _ | _ | _ | _ | i
    · exact key 0 _ e0 hi
    · exact key 1 _ e1 hi
    · exact key 2 _ e2 hi
    · exact key 3 _ e3 hi
    · exact key 4 _ e4 hi
    · exact key 5 _ e5 hi
    · exact key 6 _ e6 hi
    · omega
  subst hcs
  obtain ⟨b0, g0, _⟩ := DataW.trod_bool Try.underlying4 h0
  obtain ⟨n1, g1, _⟩ := DataW.trod_int Try.underlying3 h1
  obtain ⟨n2, g2, _⟩ := DataW.trod_int Try.underlying3 h2
  obtain ⟨b3, g3, _⟩ := DataW.trod_bool Try.underlying4 h3
  obtain ⟨b4, g4, _⟩ := DataW.trod_bool Try.underlying4 h4
  obtain ⟨n5, g5, _⟩ := DataW.trod_int Try.underlying3 h5
  injection g0 with g0
  injection g1 with g1
  injection g2 with g2
  injection g3 with g3
  injection g4 with g4
  injection g5 with g5
  subst g0 g1 g2 g3 g4 g5
  obtain ⟨A, cap, L, rfl, q1, q2, q3, q4⟩ := rows_cells h6
  exact ⟨b0, b3, b4, n1, n2, n5, A, cap, L, rfl, q1, q2, q3, q4⟩
end Go.Proofs.Ytfgjlhklioijmaa
