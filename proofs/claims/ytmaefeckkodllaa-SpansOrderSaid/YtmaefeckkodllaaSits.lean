/-
  A set that is asked and changed, call by call: what it holds, whatever the spans.
-/
import Derived.Test.YtmaefeckkodllaaSpanAlive
namespace Go.Proofs.Ytmaefeckkodllaa
open Go.RowKit

def addO (x : Int × Int) (L : List (Int × Int)) : List (Int × Int) := if rightB x then addF x L else L
def takeO (x : Int × Int) (L : List (Int × Int)) : List (Int × Int) := if rightB x then takeF x L else L
def opE (x : Int × Int) : Int := if rightB x then 0 else 1
def opO (o : Bool × (Int × Int)) (L : List (Int × Int)) : List (Int × Int) := if o.1 then takeO o.2 L else addO o.2 L

theorem addO_norm {x : Int × Int} {L : List (Int × Int)} (h : Norm 0 L) : Norm 0 (addO x L) := by
  unfold addO
  by_cases hx : rightB x = true
  · have hx' := rightB_iff.1 hx
    rw [if_pos hx, addF_eq h hx'.2.2]
    exact addR_norm h hx'.1 hx'.2.2 hx'.2.1
  · rw [if_neg hx]; exact h
theorem takeO_norm {x : Int × Int} {L : List (Int × Int)} (h : Norm 0 L) : Norm 0 (takeO x L) := by
  unfold takeO
  by_cases hx : rightB x = true
  · rw [if_pos hx]; exact takeF_norm (rightB_iff.1 hx).2.2 h
  · rw [if_neg hx]; exact h
theorem addO_len {x : Int × Int} {L : List (Int × Int)} (h : Norm 0 L) : (addO x L).length ≤ L.length + 1 := by
  unfold addO
  by_cases hx : rightB x = true
  · rw [if_pos hx, addF_eq h (rightB_iff.1 hx).2.2]; exact addR_len
  · rw [if_neg hx]; omega
theorem takeO_len {x : Int × Int} {L : List (Int × Int)} (h : Norm 0 L) : (takeO x L).length ≤ L.length + 1 := by
  unfold takeO
  by_cases hx : rightB x = true
  · rw [if_pos hx]; exact takeF_len (rightB_iff.1 hx).2.2 h
  · rw [if_neg hx]; omega
theorem addO_ins {x : Int × Int} {L : List (Int × Int)} (h : Norm 0 L) (p : Int) : Ins p (addO x L) ↔ Ins p L ∨ (rightB x = true ∧ x.1 ≤ p ∧ p < x.2) := by
  unfold addO
  by_cases hx : rightB x = true
  · rw [if_pos hx, addF_eq h (rightB_iff.1 hx).2.2, addR_ins h (rightB_iff.1 hx).2.2]
    simp [hx]
  · rw [if_neg hx]; simp [hx]
theorem takeO_ins {x : Int × Int} {L : List (Int × Int)} (p : Int) : Ins p (takeO x L) ↔ Ins p L ∧ ¬ (rightB x = true ∧ x.1 ≤ p ∧ p < x.2) := by
  unfold takeO
  by_cases hx : rightB x = true
  · rw [if_pos hx, takeF_ins (rightB_iff.1 hx).2.2]
    simp [hx]
  · rw [if_neg hx]; simp [hx]
theorem opO_norm {o : Bool × (Int × Int)} {L : List (Int × Int)} (h : Norm 0 L) : Norm 0 (opO o L) := by
  unfold opO
  split
  · exact takeO_norm h
  · exact addO_norm h
theorem opO_len {o : Bool × (Int × Int)} {L : List (Int × Int)} (h : Norm 0 L) : (opO o L).length ≤ L.length + 1 := by
  unfold opO
  split
  · exact takeO_len h
  · exact addO_len h

/-- the set at block p holds these spans -/
def Sits (B p : Nat) (L : List (Int × Int)) (w : World) : Prop := B ≤ p ∧ B ≤ w.heap.size ∧ Norm 0 L ∧ ∃ sv, SRep B w p sv L
section
variable {B p : Nat} {L : List (Int × Int)} {w w' : World}
theorem Sits.other (h : Sits B p L w) {q : Nat} {t : TypeId} {cs : Array Value} (hq : Row w q t cs) (ht : t ≠ 24) (hqp : p ≠ q) (ho : Only (fun k => k = q) w w') : Sits B p L w' := by
  obtain ⟨h1, h2, h3, sv, h4⟩ := h
  exact ⟨h1, by have := ho.size; omega, h3, sv, h4.only ho hqp fun k hk e => by subst e; exact own_apart h4.2.2 hq (fun e => ht e.symm) hk⟩
theorem Sits.later (h : Sits B p L w) (hb : Below w.heap.size w w') : Sits B p L w' := by
  obtain ⟨h1, h2, h3, sv, h4⟩ := h
  exact ⟨h1, by have := hb.size; omega, h3, sv, h4.later hb⟩
theorem Sits.row (h : Sits B p L w) : ∃ sv, Row w p 88 #[sv] := by
  obtain ⟨_, _, _, sv, h4⟩ := h
  exact ⟨sv, h4.2.1⟩
theorem Sits.two (h : Sits B p L w) {q : Nat} {M : List (Int × Int)} (h' : Sits B q M w) (hne : p ≠ q) (ho : Only (fun k => k = q) w w') : Sits B p L w' := by
  obtain ⟨sv, hr⟩ := h'.row
  exact h.other hr (by decide) hne ho

theorem sit_add (x : Int × Int) (h : Sits B p L w) (hl : L.length ≤ 2047) :
    Calls Try.prog 14 #[.pointer (some ⟨p, 0, none⟩), spv x] w fun e w' => e = .returned (.int .i64 (opE x)) ∧ Sits B p (addO x L) w' ∧ Only (fun k => k = p) w w' := by
  obtain ⟨h1, h2, h3, sv, h4⟩ := id h
  by_cases hx : rightB x = true
  · refine (add_any x hx h4 h3 hl h2).mono ?_
    rintro e w' ⟨rfl, h5, h6⟩
    have hn := addO_norm (x := x) h3
    have e1 : addO x L = addF x L := by unfold addO; rw [if_pos hx]
    have e2 : opE x = 0 := by unfold opE; rw [if_pos hx]
    rw [e2, e1]
    rw [e1] at hn
    exact ⟨rfl, ⟨h1, by have := h6.size; omega, hn, h5⟩, h6⟩
  · refine (add_arg p x w (by simpa using hx)).mono ?_
    rintro e w' ⟨rfl, h5⟩
    unfold opE addO
    rw [if_neg hx, if_neg hx]
    exact ⟨rfl, h.later h5, .of_below h5⟩
theorem sit_take (x : Int × Int) (h : Sits B p L w) (hl : L.length ≤ 2047) :
    Calls Try.prog 13 #[.pointer (some ⟨p, 0, none⟩), spv x] w fun e w' => e = .returned (.int .i64 (opE x)) ∧ Sits B p (takeO x L) w' ∧ Only (fun k => k = p) w w' := by
  obtain ⟨h1, h2, h3, sv, h4⟩ := id h
  by_cases hx : rightB x = true
  · refine (take_any x hx h4 h3 hl h2).mono ?_
    rintro e w' ⟨rfl, h5, h6⟩
    have hn := takeO_norm (x := x) h3
    have e1 : takeO x L = takeF x L := by unfold takeO; rw [if_pos hx]
    have e2 : opE x = 0 := by unfold opE; rw [if_pos hx]
    rw [e2, e1]
    rw [e1] at hn
    exact ⟨rfl, ⟨h1, by have := h6.size; omega, hn, h5⟩, h6⟩
  · refine (take_arg p x w (by simpa using hx)).mono ?_
    rintro e w' ⟨rfl, h5⟩
    unfold opE takeO
    rw [if_neg hx, if_neg hx]
    exact ⟨rfl, h.later h5, .of_below h5⟩
theorem sit_has (x : Int × Int) (h : Sits B p L w) (v : Bool) (hv : (hasF x L && rightB x) = v) : Calls Try.prog 25 #[.pointer (some ⟨p, 0, none⟩), spv x] w fun e w' => e = .returned (.bool v) ∧ Below w.heap.size w w' := by
  obtain ⟨_, _, _, sv, h4⟩ := h
  exact has_any x h4 v hv
theorem sit_tou (x : Int × Int) (h : Sits B p L w) (v : Bool) (hv : (touF x L && rightB x) = v) : Calls Try.prog 26 #[.pointer (some ⟨p, 0, none⟩), spv x] w fun e w' => e = .returned (.bool v) ∧ Below w.heap.size w w' := by
  obtain ⟨_, _, _, sv, h4⟩ := h
  exact tou_any x h4 v hv
theorem sit_count (h : Sits B p L w) (hl : L.length ≤ 100000) : Calls Try.prog 16 #[.pointer (some ⟨p, 0, none⟩)] w fun e w' => e = .returned (.int .i64 (countF L)) ∧ Below w.heap.size w w' := by
  obtain ⟨_, _, h3, sv, h4⟩ := h
  exact count_any h4 h3 hl
theorem sit_spans (h : Sits B p L w) (hl : L.length ≤ 100000) : Calls Try.prog 21 #[.pointer (some ⟨p, 0, none⟩)] w fun e w' => e = .returned (.slice (some ⟨w.heap.size, 0, none⟩) L.length L.length) ∧ Row w' w.heap.size 24 (spc L).toArray ∧ Below w.heap.size w w' := by
  obtain ⟨_, _, _, sv, h4⟩ := h
  exact spans_any h4 hl
end
/-- what comes of calls -/
def runO (l : List (Bool × (Int × Int))) : List (Int × Int) := l.foldl (fun L o => opO o L) []
theorem runO_ok (l : List (Bool × (Int × Int))) : Norm 0 (runO l) ∧ (runO l).length ≤ l.length := by
  have g : ∀ (l : List (Bool × (Int × Int))) (L : List (Int × Int)), Norm 0 L → Norm 0 (l.foldl (fun L o => opO o L) L) ∧ (l.foldl (fun L o => opO o L) L).length ≤ L.length + l.length := by
    intro l
    induction l with
    | nil => intro L h; exact ⟨h, by simp⟩
    | cons o r ih =>
      intro L h
      have h1 := ih (opO o L) (opO_norm h)
      have h2 := opO_len (o := o) h
      rw [List.foldl_cons]
      exact ⟨h1.1, by have := h1.2; simp; omega⟩
  have := g l [] trivial
  simp only [List.length_nil, Nat.zero_add] at this
  exact this
theorem runO_snoc (l : List (Bool × (Int × Int))) (o : Bool × (Int × Int)) : runO (l ++ [o]) = opO o (runO l) := by
  unfold runO
  rw [List.foldl_append]
  rfl
theorem new_sits (w : World) : Calls Try.prog 11 #[.slice none 0 0] w fun e w' => e = .returned (.tuple #[.pointer (some ⟨w.heap.size, 0, none⟩), .int .i64 0]) ∧ Sits w.heap.size w.heap.size [] w' ∧ Below w.heap.size w w' := by
  refine (new_none (B := w.heap.size) w (Nat.le_refl _)).mono ?_
  rintro e w' ⟨rfl, h1, h2⟩
  exact ⟨rfl, ⟨Nat.le_refl _, h2.size, trivial, _, h1⟩, h2⟩
theorem Sits.down {B B' p : Nat} {L : List (Int × Int)} {w : World} (h : Sits B p L w) (hb : B' ≤ B) : Sits B' p L w := by
  obtain ⟨h1, h2, h3, sv, h4, h5, h6⟩ := h
  exact ⟨by omega, by omega, h3, sv, by omega, h5, h6.mono hb⟩
end Go.Proofs.Ytmaefeckkodllaa
