/-
  A region that draws its order, walked by hand.
-/
import Derived.Test.YtdklddpkklodnaaKit
import Derived.Deep.RegionHeld3
namespace Go.Proofs.Ytdklddpkklodnaa
open Go.RowKit

/-- a stronger condition may be held from here on -/
theorem wpAnyH_more {P : Program} {md : Region.Mode} {ops : Array Oper} {Q : Exit → Act → World → Prop} {S S' : World → Prop} : ∀ {fuel : Nat} {listed : Array Bool} {a : Act} {w : World}, wpAnyH P md ops Q S' fuel listed a w → (∀ w, S' w → S w) → wpAnyH P md ops Q S fuel listed a w
  | 0, _, _, _, h, _ => h
  | _ + 1, _, _, _, h, hs => ⟨h.1, fun i hi => wpOp_mono (fun _ _ h' => ⟨hs _ h'.1, wpAnyH_more h'.2 hs⟩) (h.2 i hi)⟩

theorem take_at {P : Program} {md : Region.Mode} {ops : Array Oper} {Q : Exit → Act → World → Prop} {S : World → Prop} (i t : Nat) {oi : Oper} {v : Value} {fuel : Nat} {listed : Array Bool} {a : Act} {w : World} (hi : ops[i]? = some oi) (hd : oi.dst = some t)
    (hs : Region.noSelect ops = true) (hf : Region.free md ops listed i = true) (hr : (Region.ready md ops listed).contains i = true)
    (hQ : ∀ c a w, Q (.panic c) (a.put oi.dst v) w → Q (.panic c) a w) (hy : YieldsIf P ops S oi v a) (hS : S w)
    (h : wpAnyH P md ops Q S fuel (listed.setIfInBounds i true) (a.put (some t) v) w) : wpAnyH P md ops Q S (fuel + 1) listed a w :=
  wpAnyH_take hi hs hf hr hQ hy hS (by rw [hd]; exact h)

/-- what of a frame is forgotten -/
theorem wp_of_frame {P : Program} {c : Code} {Q : Exit → Act → World → Prop} {a : Act} {w : World} (xs : List (Option Value)) (h : Fr xs a) (k : ∀ a', Fr xs a' → c.wp P Q a' w) : c.wp P Q a w := k a h
end Go.Proofs.Ytdklddpkklodnaa
