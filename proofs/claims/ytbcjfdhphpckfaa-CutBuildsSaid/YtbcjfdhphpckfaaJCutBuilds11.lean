/-
  A region that draws its order: what holds of the world may hang on which operations have come up.
-/
import Derived.Test.YtbcjfdhphpckfaaJCutBuilds03
import Derived.OrdersHeld
namespace Go.Proofs.Ytbcjfdhphpckfaa
open Go.RowKit

section
variable {P : Program} {ops : Array Oper} {Q : Exit → Act → World → Prop} {md : Region.Mode} {S : Array Bool → World → Prop} {T : World → Prop}
/-- whatever order is picked, and behind each operation S holds of what has come up and of the world -/
def AnyL (P : Program) (md : Region.Mode) (ops : Array Oper) (Q : Exit → Act → World → Prop) (S : Array Bool → World → Prop) : Nat → Array Bool → Act → World → Prop
  | 0, l, a, w => Region.ready md ops l = [] ∧ Q .normal a w
  | f + 1, l, a, w => (Region.ready md ops l = [] → Q .normal a w) ∧ ∀ i ∈ Region.ready md ops l, wpOp P ops Q i (fun a' w' => S (l.setIfInBounds i true) w' ∧ AnyL P md ops Q S f (l.setIfInBounds i true) a' w') a w
theorem AnyL.any : ∀ (f : Nat) (l : Array Bool) (a : Act) (w : World), AnyL P md ops Q S f l a w → wpAny P md ops Q f l a w
  | 0, _, _, _, h => h
  | f + 1, _, _, _, h => ⟨h.1, fun i hi => wpOp_mono (fun a' w' h' => AnyL.any f _ a' w' h'.2) (h.2 i hi)⟩
/-- an operation may be taken first that yields as long as one which waits for it has not come up -/
theorem AnyL.first {i g : Nat} {oi og : Oper} {v : Value} (hi : ops[i]? = some oi) (hg : ops[g]? = some og) (hgi : ∃ e ∈ og.after, Region.binds md e = true ∧ e.on = i) (hsel : ∀ (j : Nat) (o : Oper) cs b, ops[j]? = some o → o.op ≠ .select cs b)
    (hQ : ∀ c a w, Q (.panic c) (a.put oi.dst v) w → Q (.panic c) a w) (hT : ∀ l w, l.getD g true = false → S l w → T w) (hS1 : ∀ l w, S l w → S (l.setIfInBounds i true) w) (hS2 : ∀ l w, S (l.setIfInBounds i true) w → S l w) :
    ∀ (f : Nat) (l : Array Bool) (a : Act) (w : World), (∀ j oj, ops[j]? = some oj → j ≠ i → l.getD j true = false → (∀ e ∈ oj.after, Region.binds md e = true → e.on ≠ i) → oi.apart ops oj = true) →
      i ∈ Region.ready md ops l → l.getD g true = false → YieldsIf P ops T oi v a → S l w → AnyL P md ops Q S f (l.setIfInBounds i true) (a.put oi.dst v) w → AnyL P md ops Q S (f + 1) l a w := by
  intro f
  induction f with
  | zero =>
    intro l a w _ hr hlg hy hS H
    refine ⟨fun h => (by rw [h] at hr; cases hr), fun j hj => ?_⟩
    by_cases hji : j = i
    · subst hji
      exact hy.wpOp hi (hT l w hlg hS) ⟨hS1 l w hS, H⟩
    · have := ready_mono hj hji
      rw [H.1] at this
      cases this
  | succ f ih =>
    intro l a w hfree hr hlg hy hS H
    refine ⟨fun h => (by rw [h] at hr; cases hr), fun j hj => ?_⟩
    by_cases hji : j = i
    · subst hji
      exact hy.wpOp hi (hT l w hlg hS) ⟨hS1 l w hS, H⟩
    · have h1 := H.2 j (ready_mono hj hji)
      obtain ⟨hjun, oj, hoj, hall⟩ := mem_ready.1 hj
      have hnot : ∀ e ∈ oj.after, Region.binds md e = true → e.on ≠ i := fun e he hb heq => by
        have h1 := hall e he hb
        have h0 := (mem_ready.1 hr).1
        rw [heq] at h1
        rcases Nat.lt_or_ge i l.size with h' | h'
        · simp [h'] at h0 h1
          rw [h0] at h1
          cases h1
        · simp [Array.getElem?_eq_none h'] at h1
      have hjg : j ≠ g := fun e => by
        subst e
        rw [hg] at hoj
        injection hoj with hoj
        subst hoj
        obtain ⟨e, he, hb, ho⟩ := hgi
        exact hnot e he hb ho
      have h2 := wpOp_putIf hoj (hfree j oj hoj hji hjun hnot) (fun cs b => hsel i oi cs b hi) (fun cs b => hsel j oj cs b hoj) hQ hy h1
      refine wpOp_mono (fun a' w' h3 => ?_) h2
      have hc := Array.setIfInBounds_comm (xs := l) true true (Ne.symm hji)
      have h4 : S (l.setIfInBounds j true) w' := hS2 _ _ (by
        have := h3.2.1
        rw [hc] at this
        exact this)
      refine ⟨h4, ih (l.setIfInBounds j true) a' w' ?_ (ready_mono hr (Ne.symm hji)) (by rw [getD_set_ne true hjg]; exact hlg) h3.1 h4 ?_⟩
      · intro k ok hk hki hun hno
        refine hfree k ok hk hki ?_ hno
        by_cases hjk : j = k
        · subst hjk; exact hjun
        · rw [getD_set_ne true hjk] at hun; exact hun
      · have := h3.2.2
        rw [hc] at this
        exact this
/-- the same, its side conditions as Bools -/
theorem AnyL.take (g : Nat) {i : Nat} {oi : Oper} {v : Value} {f : Nat} {l : Array Bool} {a : Act} {w : World} (T : World → Prop) (hi : ops[i]? = some oi) (hs : Region.noSelect ops = true) (hf : Region.free md ops l i = true) (hr : (Region.ready md ops l).contains i = true)
    (hg : ((ops[g]?).map fun o => o.after.any fun e => Region.binds md e && e.on == i) = some true) (hlg : l.getD g true = false) (hQ : ∀ c a w, Q (.panic c) (a.put oi.dst v) w → Q (.panic c) a w)
    (hT : ∀ l w, l.getD g true = false → S l w → T w) (hS1 : ∀ l w, S l w → S (l.setIfInBounds i true) w) (hS2 : ∀ l w, S (l.setIfInBounds i true) w → S l w) (hy : YieldsIf P ops T oi v a) (hS : S l w)
    (h : AnyL P md ops Q S f (l.setIfInBounds i true) (a.put oi.dst v) w) : AnyL P md ops Q S (f + 1) l a w := by
  obtain ⟨og, hog⟩ : ∃ og, ops[g]? = some og := by
    cases e : ops[g]? with
    | none => rw [e] at hg; simp at hg
    | some og => exact ⟨og, rfl⟩
  rw [hog] at hg
  simp only [Option.map_some, Option.some.injEq] at hg
  obtain ⟨e, he, hb⟩ := Array.any_eq_true'.1 hg
  simp only [Bool.and_eq_true, beq_iff_eq] at hb
  exact AnyL.first hi hog ⟨e, he, hb.1, hb.2⟩ (Region.noSelect_spec hs) hQ hT hS1 hS2 f l a w (Region.free_spec hi hf) (by simpa using hr) hlg hy hS h
/-- whichever comes up -/
theorem AnyL.take_at (g i t : Nat) {oi : Oper} {v : Value} {f : Nat} {l : Array Bool} {a : Act} {w : World} (T : World → Prop) (hi : ops[i]? = some oi) (hd : oi.dst = some t) (hs : Region.noSelect ops = true) (hf : Region.free md ops l i = true) (hr : (Region.ready md ops l).contains i = true)
    (hg : ((ops[g]?).map fun o => o.after.any fun e => Region.binds md e && e.on == i) = some true) (hlg : l.getD g true = false) (hQ : ∀ c a w, Q (.panic c) (a.put oi.dst v) w → Q (.panic c) a w)
    (hT : ∀ l w, l.getD g true = false → S l w → T w) (hS1 : ∀ l w, S l w → S (l.setIfInBounds i true) w) (hS2 : ∀ l w, S (l.setIfInBounds i true) w → S l w) (hy : YieldsIf P ops T oi v a) (hS : S l w)
    (h : AnyL P md ops Q S f (l.setIfInBounds i true) (a.put (some t) v) w) : AnyL P md ops Q S (f + 1) l a w :=
  AnyL.take g T hi hs hf hr hg hlg hQ hT hS1 hS2 hy hS (by rw [hd]; exact h)
theorem AnyL.all {rs : List Nat} {f : Nat} {l : Array Bool} {a : Act} {w : World} (hr : Region.ready md ops l = rs) (hne : rs ≠ [])
    (h : ∀ i ∈ rs, wpOp P ops Q i (fun a' w' => S (l.setIfInBounds i true) w' ∧ AnyL P md ops Q S f (l.setIfInBounds i true) a' w') a w) : AnyL P md ops Q S (f + 1) l a w :=
  ⟨fun h0 => absurd (hr ▸ h0) hne, hr ▸ h⟩
theorem AnyL.done {l : Array Bool} {a : Act} {w : World} (hr : Region.ready md ops l = []) (h : Q .normal a w) : ∀ f, AnyL P md ops Q S f l a w
  | 0 => ⟨hr, h⟩
  | _ + 1 => ⟨fun _ => h, by rw [hr]; simp⟩
theorem AnyL.start {id : Nat} {a : Act} {w : World} (hm : P.follows .mixedOrders = true) (h : AnyL P .any ops Q S ops.size (Array.replicate ops.size false) a w.drew) : (Code.region id ops true).wp P Q a w :=
  wp_region_any hm (AnyL.any _ _ _ _ h)
end
end Go.Proofs.Ytbcjfdhphpckfaa
