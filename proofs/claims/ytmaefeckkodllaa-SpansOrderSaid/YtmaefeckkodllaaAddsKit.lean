/-
  A set and two spans in boxes, as SpansAdds has them.
-/
import Derived.Test.YtmaefeckkodllaaOrdered
import Derived.Test.YtmaefeckkodllaaAddsMath
namespace Go.Proofs.Ytmaefeckkodllaa
open Go.RowKit

/-- a set at block p, and two spans in boxes -/
def Box2 (B p xb yb : Nat) (x y : Int × Int) (L : List (Int × Int)) (w : World) : Prop :=
  p ≠ xb ∧ p ≠ yb ∧ Sits B p L w ∧ Row w xb 24 #[.int .i64 x.1, .int .i64 x.2] ∧ Row w yb 24 #[.int .i64 y.1, .int .i64 y.2]
section
variable {B p xb yb : Nat} {x y : Int × Int} {L L' : List (Int × Int)} {w w' : World}
theorem Box2.later (h : Box2 B p xb yb x y L w) (hb : Below w.heap.size w w') : Box2 B p xb yb x y L w' :=
  ⟨h.1, h.2.1, h.2.2.1.later hb, h.2.2.2.1.later hb, h.2.2.2.2.later hb⟩
theorem Box2.set (h : Box2 B p xb yb x y L w) (hs : Sits B p L' w') (ho : Only (fun k => k = p) w w') : Box2 B p xb yb x y L' w' :=
  ⟨h.1, h.2.1, hs, h.2.2.2.1.only ho (fun e => h.1 e.symm), h.2.2.2.2.only ho (fun e => h.2.1 e.symm)⟩
theorem Box2.x0 (h : Box2 B p xb yb x y L w) : w.cell? ⟨xb, 0, none⟩ = some (.int .i64 x.1) := h.2.2.2.1.read rfl
theorem Box2.x1 (h : Box2 B p xb yb x y L w) : w.cell? ⟨xb, 1, none⟩ = some (.int .i64 x.2) := h.2.2.2.1.read rfl
theorem Box2.y0 (h : Box2 B p xb yb x y L w) : w.cell? ⟨yb, 0, none⟩ = some (.int .i64 y.1) := h.2.2.2.2.read rfl
theorem Box2.y1 (h : Box2 B p xb yb x y L w) : w.cell? ⟨yb, 1, none⟩ = some (.int .i64 y.2) := h.2.2.2.2.read rfl
theorem Box2.down (h : Box2 B p xb yb x y L w) (ho : Only (fun k => k = p) w w') : Below B w w' := ho.below h.2.2.1.2.1 (fun k hk hh => by have := h.2.2.1.1; omega)
end

theorem right_is (y : Int × Int) (v : Bool) (hv : rightB y = v) (w : World) : Calls Try.prog 27 #[spv y] w fun e w' => e = .returned (.bool v) ∧ Below w.heap.size w w' := by
  have := right_any y w
  rw [hv] at this
  exact this
theorem sit_addR {B p : Nat} {L : List (Int × Int)} {w : World} (x : Int × Int) (hx : rightB x = true) (h : Sits B p L w) (hl : L.length ≤ 2047) :
    Calls Try.prog 14 #[.pointer (some ⟨p, 0, none⟩), spv x] w fun e w' => e = .returned (.int .i64 0) ∧ Sits B p (addF x L) w' ∧ Only (fun k => k = p) w w' := by
  have := sit_add x h hl
  unfold opE addO at this
  rw [if_pos hx, if_pos hx] at this
  exact this
theorem sit_takeR {B p : Nat} {L : List (Int × Int)} {w : World} (x : Int × Int) (hx : rightB x = true) (h : Sits B p L w) (hl : L.length ≤ 2047) :
    Calls Try.prog 13 #[.pointer (some ⟨p, 0, none⟩), spv x] w fun e w' => e = .returned (.int .i64 0) ∧ Sits B p (takeF x L) w' ∧ Only (fun k => k = p) w w' := by
  have := sit_take x h hl
  unfold opE takeO at this
  rw [if_pos hx, if_pos hx] at this
  exact this

end Go.Proofs.Ytmaefeckkodllaa
