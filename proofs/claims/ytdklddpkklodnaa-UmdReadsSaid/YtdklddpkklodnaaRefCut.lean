/-
  The document's answer for fields behind a head.
-/
import Derived.Test.YtdklddpkklodnaaFldCut2
import Derived.Test.YtdklddpkklodnaaLensRefRead
namespace Go.Proofs.Ytdklddpkklodnaa
open Go.RowKit


/-- rows that lie in bytes that were there -/
structure OwnL (B : Nat) (w0 : World) (A0 : Option Addr) (bs0 : List Nat) (w : World) (v : Value) (L : List RowB) : Prop where
  own : w.ownsRow B 30 1 v L.length (L.map RowB.v)
  ok : ∀ r ∈ L, ∀ V, Src V A0 (bts bs0) → r.ok V
  below : Below B w0 w
section
variable {B : Nat} {w0 w w' : World} {v : Value} {L : List RowB} {A0 : Option Addr} {bs0 : List Nat}
theorem OwnL.form (h : OwnL B w0 A0 bs0 w v L) : ∃ A c, v = .slice A L.length c ∧ L.length ≤ c ∧ c ≤ 9223372036854775807 := by
  rcases h.own.2 with ⟨rfl, h0⟩ | ⟨g, cap, cur, rfl, _, _, h1, h2, _⟩
  · exact ⟨none, 0, by rw [h0], by omega, by omega⟩
  · exact ⟨_, cap, rfl, h1, by unfold maxLen at h2; exact h2⟩
theorem OwnL.src {A : Option Addr} {n c : Nat} {V : World} {S : Nat → Prop} (h : OwnL B w0 A0 bs0 w (.slice A n c) L) (ho : Only S w V) (hS : ∀ k, S k → k < B) (hs : Src V A0 (bts bs0)) : RSrc V A L := by
  intro h0
  have hown : V.ownsRow B 30 1 (.slice A n c) L.length (L.map RowB.v) := own_only h.own ho (fun k hk hk' => by have := (h.own.lt k hk).1; have := hS k hk'; omega)
  obtain ⟨g, cap, hv, _, _⟩ := hown.form h0
  injection hv with h1 h2 h3
  subst h1
  refine ⟨_, rfl, fun k r hr => ⟨?_, h.ok r (List.mem_of_getElem? hr) V hs⟩⟩
  exact hown.cells (g := g) rfl k _ (by rw [List.getElem?_map, hr]; rfl)
theorem OwnL.next (h : OwnL B w0 A0 bs0 w v L) (hB : B ≤ w.heap.size) (r : RowB) (hr : ∀ V, Src V A0 (bts bs0) → r.ok V) (hl : L.length ≤ 1000000) :
    ∃ g c w3, (Builtin.append_ #[22, 22] 22 #[v, .slice (some ⟨w.heap.size, 0, none⟩) 1 1]).run Try.prog (w.alloc (.cells #[.slice r.A r.bs.length r.cap] 30)) = .ok (.slice (some ⟨g, 0, none⟩) (L.length + 1) c) w3 ∧
      OwnL B w0 A0 bs0 w3 (.slice (some ⟨g, 0, none⟩) (L.length + 1) c) (L ++ [r]) := by
  obtain ⟨g, c, w3, h1, h2, h3⟩ := app_row h.own hB r hl
  refine ⟨g, c, w3, h1, by rw [List.length_append, List.map_append]; exact h2, fun x hx => ?_, h.below.trans (own_only_below h.own h3 hB)⟩
  rw [List.mem_append, List.mem_singleton] at hx
  rcases hx with hx | rfl
  · exact h.ok x hx
  · exact hr
end
/-- what the document's Cut answers -/
def RcAns (Ab : Option Addr) (bs : List Nat) (w : World) (r : Int × List (List Nat)) (e : Ending) (w' : World) : Prop :=
  ((r.1 = 0 ∧ ∃ A c L, r.2 = texts L ∧ e = .returned (.tuple #[.slice A L.length c, .int .i64 0]) ∧ (∀ V S, Only S w' V → (∀ k, S k → k < w.heap.size) → Src V Ab (bts bs) → RSrc V A L) ∧ L.length ≤ c ∧ c ≤ 9223372036854775807) ∨ (r.1 ≠ 0 ∧ e = .returned (.tuple #[.slice none 0 0, .int .i64 r.1]))) ∧ Below w.heap.size w w'
/-- the loop's rounds: the fields so far -/
structure RcSt (w0 : World) (A0 : Option Addr) (bs ls : List Nat) (at0 k at' : Nat) (L : List RowB) (v : Value) (w : World) : Prop where
  own : OwnL w0.heap.size w0 A0 bs w v L
  inv : CInv (bs.drop at0) ls (texts L) (at' - at0)
  len : L.length = k
  ge : at0 ≤ at'
  le : at' ≤ bs.length
theorem row_at {w : World} {ad : Addr} {bs : List Nat} {n cap : Nat} (hs : Src w (some ad) (bts bs)) (hb : ∀ b ∈ bs, b < 256) (hn : bs.length = n) (hc : n ≤ cap) (hcm : cap ≤ 9223372036854775807) (a m : Nat) (ham : a + m ≤ n) : RowB.ok w ⟨some (ad.add a), cap - a, (bs.drop a).take m⟩ := by
  have h1 := src_dropc (c := 0) a (show Src w (some ad) (bts (bs.drop 0)) from hs)
  rw [Nat.zero_add] at h1
  refine ⟨src_take m h1, ?_, ?_, fun b h => hb b (List.mem_of_mem_drop (List.mem_of_mem_take h))⟩
  · show ((bs.drop a).take m).length ≤ cap - a
    rw [List.length_take, List.length_drop]
    omega
  · show cap - a ≤ _
    omega
theorem ans_ok {o : Option (List (List Nat))} {t : List (List Nat)} (h : o = some t) : ansOf o = (0, t) := by rw [h]; rfl
theorem ans_no {o : Option (List (List Nat))} (h : o = none) : ansOf o = (8, []) := by rw [h]; rfl
end Go.Proofs.Ytdklddpkklodnaa
