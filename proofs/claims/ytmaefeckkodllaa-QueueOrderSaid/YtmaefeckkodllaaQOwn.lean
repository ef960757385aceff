/-
  A law's own lists beside a queue: what the queue's calls do leaves them as they are, and what is appended to them leaves the queue as it is.
-/
import Derived.Test.YtmaefeckkodllaaQPieces
namespace Go.Proofs.Ytmaefeckkodllaa
open Go.RowKit

theorem row_same {w : World} {k : Nat} {t u : TypeId} {cs ds : Array Value} (h : Row w k t cs) (h' : Row w k u ds) : t = u := by
  unfold Row at h h'
  rw [h] at h'
  injection h' with h'
  injection h' with _ h'

theorem OwnX.q {w w' : World} {B B' e size : Nat} {v : Value} {n : Nat} {xs : List Value} (h : OwnX w B' e size v n xs) (h1 : e ≠ 80) (h2 : e ≠ 98) (ho : QOnly B w w') : OwnX w' B' e size v n xs :=
  h.only ho fun k hk ⟨_, t, cs, hr, ht⟩ => by
    refine h.apart hr (fun e => ?_) hk
    subst e
    rcases ht with ht | ht
    · exact h1 ht
    · exact h2 ht

/-- blocks of one type that a queue has not -/
theorem QRep.apart {B : Nat} {w v : World} {p : Nat} {room : Int} {last : Nat} {ts : List Txt} {S : Nat → Prop} (h : QRep B w p room last ts) (ho : Only S w v) (hS : ∀ k, S k → ∀ t cs, Row w k t cs → t ≠ 80 ∧ t ≠ 98 ∧ t ≠ 5) : QRep B v p room last ts := by
  obtain ⟨h1, h2, sv, h3, h4, h5⟩ := h
  refine ⟨h1, by have := ho.size; omega, sv, h3.only ho (fun hk => (hS _ hk _ _ h3).1 rfl), h4.only ho (fun k hk hk' => ?_), fun t ht => ?_⟩
  · rcases h4.2 with ⟨rfl, _⟩ | ⟨g, cap, cur, rfl, _, hh, _⟩
    · simp [Value.ownBlock] at hk
    · have e : g = k := by simpa [Value.ownBlock] using hk
      subst e
      exact (hS _ hk' _ _ hh).2.1 rfl
  · obtain ⟨g1, g2, g3, cs, g4, g5⟩ := h5 t ht
    exact ⟨g1, g2, g3, cs, g4.only ho (fun hk => (hS _ hk _ _ g4).2.2 rfl), g5⟩
/-- blocks that are none of a queue's -/
theorem QRep.beside {B : Nat} {w v : World} {p : Nat} {room : Int} {last : Nat} {ts : List Txt} {S : Nat → Prop} (h : QRep B w p room last ts) (ho : Only S w v) (hS : ∀ k, S k → ∀ t cs, Row w k t cs → t = 5 ∧ ∀ x ∈ ts, x.g ≠ k) : QRep B v p room last ts := by
  obtain ⟨h1, h2, sv, h3, h4, h5⟩ := h
  refine ⟨h1, by have := ho.size; omega, sv, h3.only ho (fun hk => absurd (hS _ hk _ _ h3).1 (by decide)), h4.only ho (fun k hk hk' => ?_), fun t ht => ?_⟩
  · rcases h4.2 with ⟨rfl, _⟩ | ⟨g, cap, cur, rfl, _, hh, _⟩
    · simp [Value.ownBlock] at hk
    · have e : g = k := by simpa [Value.ownBlock] using hk
      subst e
      exact absurd (hS _ hk' _ _ hh).1 (by decide)
  · obtain ⟨g1, g2, g3, cs, g4, g5⟩ := h5 t ht
    exact ⟨g1, g2, g3, cs, g4.only ho (fun hk => (hS _ hk _ _ g4).2 t ht rfl), g5⟩
end Go.Proofs.Ytmaefeckkodllaa
