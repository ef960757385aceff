/-
  UmtxLives: whatever the config. pdu: how the configs that a statement draws read.
-/
import Derived.Test.YtjonkpdjhjobfaaJUmtxLives26
import Derived.Test.YtjonkpdjhjobfaaJUmtxLives05
import Derived.Test.YtjonkpdjhjobfaaJUmtxLives25
namespace Go.Proofs.Ytjonkpdjhjobfaa
open Go.RowKit

section
theorem ulives_every (A0 : Option Addr) (n0 c0 : Nat) (l0 : List OpB) (c : Cf) (W : World) (hl0 : l0.length = n0) (hm0 : n0 ≤ 9223372036854775807) (hs0 : BSrc16 W A0 l0) :
    Calls Try.prog 3 #[.agg c.a, .slice A0 n0 c0] W fun e w' => e = .returned (.bool true) ∧ Below W.heap.size W w' := by
  obtain ⟨mode, bits, win, reo, prx, pro, ppd, pby, mrx, qb⟩ := c
  by_cases h : checkF ⟨mode, bits, win, reo, prx, pro, ppd, pby, mrx, qb⟩ = 0
  · by_cases hm : mode = 1
    · subst hm
      exact ulives_ok A0 n0 c0 l0 bits win reo prx pro ppd pby mrx qb W h hl0 hm0 hs0
    · exact ulives_kind mode bits win reo prx pro ppd pby mrx qb W h hm
  · exact ulives_bad mode bits win reo prx pro ppd pby mrx qb W h
end
end Go.Proofs.Ytjonkpdjhjobfaa
namespace Go.Proofs.Ytjonkpdjhjobfaa
open Go.ChangeShapes Go.WideShapes Go.ChangeAt Go.RowKit Go.Deep

set_option maxRecDepth 100000 in
theorem config_arg {H : Type} {enc : TypeId × Value → H} {W : World} {base : Nat} {v : Value} {d : DataW H} {p : List MemPlace} (hok : Value.okWide Try.prog W .any base 23 v)
    (h : DataW.Trod enc Try.prog W 0 (fun _ => true) true 23 v d p) : ∃ c : Cf, v = .agg c.a := by
  obtain ⟨cs, rfl, hsz, n, hf⟩ := st_agg_field Try.underlying23 (by kernel_rfl) (by kernel_rfl) hok h
  obtain ⟨x0, y0, e0, h0⟩ := hf 0 _ rfl
  obtain ⟨x1, y1, e1, h1⟩ := hf 1 _ rfl
  obtain ⟨x2, y2, e2, h2⟩ := hf 2 _ rfl
  obtain ⟨x3, y3, e3, h3⟩ := hf 3 _ rfl
  obtain ⟨x4, y4, e4, h4⟩ := hf 4 _ rfl
  obtain ⟨x5, y5, e5, h5⟩ := hf 5 _ rfl
  obtain ⟨x6, y6, e6, h6⟩ := hf 6 _ rfl
  obtain ⟨x7, y7, e7, h7⟩ := hf 7 _ rfl
  obtain ⟨x8, y8, e8, h8⟩ := hf 8 _ rfl
  obtain ⟨x9, y9, e9, h9⟩ := hf 9 _ rfl
  have hcs : cs = #[x0, x1, x2, x3, x4, x5, x6, x7, x8, x9] := by
    have hsz7 : cs.size = 10 := hsz
    apply Array.ext (by rw [hsz7]; rfl)
    intro i hi _
    have h7 : i < 10 := by omega
    have key : ∀ k x, cs[k]? = some x → ∀ (hk : k < cs.size), cs[k] = x := fun k x hx hk => by
      rw [Array.getElem?_eq_getElem hk] at hx
      injection hx
    rcases i with _ | _ | _ | _ | _ | _ | _ | _ | _ | _ | i
    · exact key 0 _ e0 hi
    · exact key 1 _ e1 hi
    · exact key 2 _ e2 hi
    · exact key 3 _ e3 hi
    · exact key 4 _ e4 hi
    · exact key 5 _ e5 hi
    · exact key 6 _ e6 hi
    · exact key 7 _ e7 hi
    · exact key 8 _ e8 hi
    · exact key 9 _ e9 hi
    · omega
  subst hcs
  obtain ⟨a0, g0, _⟩ := DataW.trod_int Try.underlying3 h0
  injection g0 with g0
  subst g0
  obtain ⟨a1, g1, _⟩ := DataW.trod_int Try.underlying3 h1
  injection g1 with g1
  subst g1
  obtain ⟨a2, g2, _⟩ := DataW.trod_int Try.underlying3 h2
  injection g2 with g2
  subst g2
  obtain ⟨a3, g3, _⟩ := DataW.trod_int Try.underlying3 h3
  injection g3 with g3
  subst g3
  obtain ⟨a4, g4, _⟩ := DataW.trod_int Try.underlying3 h4
  injection g4 with g4
  subst g4
  obtain ⟨a5, g5, _⟩ := DataW.trod_int Try.underlying3 h5
  injection g5 with g5
  subst g5
  obtain ⟨a6, g6, _⟩ := DataW.trod_int Try.underlying3 h6
  injection g6 with g6
  subst g6
  obtain ⟨a7, g7, _⟩ := DataW.trod_int Try.underlying3 h7
  injection g7 with g7
  subst g7
  obtain ⟨a8, g8, _⟩ := DataW.trod_int Try.underlying3 h8
  injection g8 with g8
  subst g8
  obtain ⟨a9, g9, _⟩ := DataW.trod_int Try.underlying3 h9
  injection g9 with g9
  subst g9
  exact ⟨⟨a0, a1, a2, a3, a4, a5, a6, a7, a8, a9⟩, rfl⟩
end Go.Proofs.Ytjonkpdjhjobfaa
