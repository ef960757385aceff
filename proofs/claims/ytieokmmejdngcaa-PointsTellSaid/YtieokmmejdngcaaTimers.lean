/-
  What a set of timers is in memory, and what its small calls answer.
-/
import Derived.Test.YtieokmmejdngcaaMem
namespace Go.Proofs.Ytieokmmejdngcaa
open Go.RowKit

def TCells (m : Bool) (L : List Int) : Array Value := (.bool m :: L.map (Value.int .i64 ·)).toArray
/-- a set at block p whose timers have so many ticks left -/
def TRep (w : World) (p : Nat) (L : List Int) : Prop := L.length = 8 ∧ (∀ x ∈ L, 0 ≤ x ∧ x ≤ 1000) ∧ Row w p 39 (TCells true L)
/-- no set that a call made -/
def TZero (w : World) (p : Nat) : Prop := ∃ L, Row w p 39 (TCells false L)

section
variable {w v : World} {p : Nat} {L : List Int}
theorem TRep.later (h : TRep w p L) (hb : Below w.heap.size w v) : TRep v p L := ⟨h.1, h.2.1, h.2.2.later hb⟩
theorem TRep.only {S : Nat → Prop} (h : TRep w p L) (ho : Only S w v) (hp : ¬ S p) : TRep v p L := ⟨h.1, h.2.1, h.2.2.only ho hp⟩
theorem TRep.inside (h : TRep w p L) : p < w.heap.size := h.2.2.inside
theorem TRep.made (h : TRep w p L) : w.cell? ⟨p, 0, none⟩ = some (.bool true) := h.2.2.read rfl
theorem TRep.at (h : TRep w p L) {k : Nat} {x : Int} (hk : L[k]? = some x) : w.cell? ⟨p, 1 + k, none⟩ = some (.int .i64 x) :=
  h.2.2.read (by unfold TCells; rw [List.getElem?_toArray, Nat.add_comm, List.getElem?_cons_succ, List.getElem?_map, hk]; rfl)
theorem TRep.free (h : TRep w p L) (i : Nat) : w.frozen? ⟨p, i, none⟩ = false := h.2.2.free i
theorem TRep.has (h : TRep w p L) {k : Nat} (hk : k < 8) : ∃ x, L[k]? = some x ∧ 0 ≤ x ∧ x ≤ 1000 := by
  have hl : k < L.length := by rw [h.1]; exact hk
  exact ⟨L[k], List.getElem?_eq_getElem hl, h.2.1 _ (List.getElem_mem hl)⟩
theorem TRep.set (h : TRep w p L) (k : Nat) {x : Int} (h0 : 0 ≤ x) (h1 : x ≤ 1000) : TRep (w.setCell ⟨p, 1 + k, none⟩ (.int .i64 x)) p (L.set k x) := by
  refine ⟨by rw [List.length_set]; exact h.1, fun y hy => ?_, ?_⟩
  · rcases List.mem_or_eq_of_mem_set hy with hy | rfl
    · exact h.2.1 y hy
    · exact ⟨h0, h1⟩
  · have := h.2.2.written (1 + k) (.int .i64 x)
    have e : (TCells true L).setIfInBounds (1 + k) (.int .i64 x) = TCells true (L.set k x) := by
      unfold TCells
      rw [List.setIfInBounds_toArray, Nat.add_comm, List.set_cons_succ, List.map_set]
    rw [e] at this
    exact this
theorem wrote_at (w : World) (p i : Nat) (x : Value) : Only (fun k => k = p) w (w.setCell ⟨p, i, none⟩ x) := (Only.refl (fun k => k = p) w).set (p := ⟨p, i, none⟩) (.inl rfl) x
end

def inR (i : Int) : Bool := decide (0 ≤ i) && decide (i < 8)
def FE (i : Int) : Int := if inR i then 0 else 1
theorem inR_nat {i : Int} (h : inR i = true) : ∃ k : Nat, i = k ∧ k < 8 := by
  simp [inR] at h
  exact ⟨i.toNat, by omega, by omega⟩
theorem inR_not {i : Int} (h : inR i = false) : i < 0 ∨ 8 ≤ i := by
  simp [inR] at h
  omega
theorem inR_of {k : Nat} (h : k < 8) : inR k = true := by
  simp [inR]; omega

theorem fault_ok {p : Nat} {L : List Int} (k : Nat) (hk : k < 8) (w : World) (h : TRep w p L) :
    Calls Try.prog 37 #[.pointer (some ⟨p, 0, none⟩), .int .i64 k] w fun e w' => e = .returned (.int .i64 0) ∧ w = w' := by
  have h0 := h.made
  clear h
  go_enter Try.func37, Try.ntmps37
  go_wp2
  go_ret
  exact ⟨rfl, rfl⟩
theorem fault_bad {p : Nat} {L : List Int} (i : Int) (hi : inR i = false) (w : World) (h : TRep w p L) :
    Calls Try.prog 37 #[.pointer (some ⟨p, 0, none⟩), .int .i64 i] w fun e w' => e = .returned (.int .i64 1) ∧ w = w' := by
  have h0 := h.made
  have hi := inR_not hi
  clear h
  rcases hi with hi | hi
  · go_enter Try.func37, Try.ntmps37
    go_wp2
    go_ret
    exact ⟨rfl, rfl⟩
  · have hj : ¬ i < 0 := by omega
    go_enter Try.func37, Try.ntmps37
    go_wp2
    go_ret
    exact ⟨rfl, rfl⟩
theorem fault_nil (i : Int) (w : World) : Calls Try.prog 37 #[.pointer none, .int .i64 i] w fun e w' => e = .returned (.int .i64 6) ∧ w = w' := by
  go_enter Try.func37, Try.ntmps37
  go_wp2
  go_ret
  exact ⟨rfl, rfl⟩
theorem fault_zero {p : Nat} (i : Int) (w : World) (h : TZero w p) : Calls Try.prog 37 #[.pointer (some ⟨p, 0, none⟩), .int .i64 i] w fun e w' => e = .returned (.int .i64 6) ∧ w = w' := by
  obtain ⟨L, h⟩ := h
  have h0 : w.cell? ⟨p, 0, none⟩ = some (.bool false) := h.read rfl
  clear h
  go_enter Try.func37, Try.ntmps37
  go_wp2
  go_ret
  exact ⟨rfl, rfl⟩
end Go.Proofs.Ytieokmmejdngcaa
