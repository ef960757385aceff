/-
  QueueOrder: what is taken, in whatever pieces, is the texts that were pushed, whole, in their order, each once.
-/
import Derived.Test.YtmaefeckkodllaaOrdN
import Derived.Test.YtmaefeckkodllaaHand
import Derived.Deep.Cut
import Derived.StillTailTactics
namespace Go.Proofs.Ytmaefeckkodllaa
open Go.RowKit

theorem ownx_src {w : World} {B n c : Nat} {A : Option Addr} {l : List Nat} (h : OwnX w B 5 1 (.slice A n c) n (bts l)) : SrcB w A (bts l) := by
  intro h0
  have hl := h.1
  obtain ⟨g, cap, hv, _, _⟩ := h.form (by omega)
  injection hv with hv _ _
  subst hv
  refine ⟨g, 0, rfl, fun j u hu => ?_⟩
  rw [Nat.zero_add]
  exact h.cells rfl j u hu
/-- what stands in memory when a part was taken: the text, and its beginning twice -/
theorem ord_facts {w w4 : World} {B N m kg kc nc : Nat} {NA : Option Addr} {rows : List RowB} {put : Nat} {r : RowB} (hrok : r.ok w) (hat : rows[put]? = some r) (hbe : Below w.heap.size w w4) (h0 : 0 < m) (hm : m ≤ r.bs.length)
    (hk : OwnX w4 B 64 1 (.slice (some ⟨kg, 0, none⟩) rows.length kc) rows.length (rows.map RowB.cell)) (hn : OwnX w4 N 5 1 (.slice NA m nc) m (bts (r.bs.take m))) :
    ∃ rb ro s, w4.drew.cell? ⟨kg, put, none⟩ = some (.slice (some ⟨rb, ro, none⟩) r.bs.length r.cap) ∧ (convert 64 9 (.slice (some ⟨rb, ro, none⟩) m r.cap)).run Try.prog w4.drew = .ok (.string s) w4.drew ∧
      (convert 64 9 (.slice NA m nc)).run Try.prog w4.drew = .ok (.string s) w4.drew := by
  obtain ⟨hs, _, _, hb⟩ := hrok
  obtain ⟨rb, ro, hA, _⟩ := hs (by rw [length_bts]; omega)
  have hl : (r.bs.take m).length = m := by rw [List.length_take]; omega
  have hb' : ∀ b ∈ r.bs.take m, b < 256 := fun b h => hb b (List.mem_of_mem_take h)
  have z1 := conv_src (c := r.cap) (src_take (hs.later (bl_drew hbe)) m) hb' (by omega)
  have z2 := conv_src (c := nc) (w := w4.drew) (ownx_src hn) hb' (by omega)
  rw [hl] at z1 z2
  have c1 : w4.cell? ⟨kg, put, none⟩ = some r.cell := hk.cells rfl put _ (by rw [List.getElem?_map, hat]; rfl)
  unfold RowB.cell at c1
  rw [hA] at c1 z1
  exact ⟨rb, ro, strOf (r.bs.take m), c1, z1, z2⟩


theorem bytes_e {B p last : Nat} {w : World} (h : QRep B w p 20000 last []) : Calls Try.prog 41 #[.pointer (some ⟨p, 0, none⟩)] w fun e w' => e = .returned (.int .i64 0) ∧ Below w.heap.size w w' :=
  bytes_any h (by omega) (by simp [bytesF])
theorem ids_e {B p last : Nat} {w : World} (h : QRep B w p 20000 last []) : Calls Try.prog 43 #[.pointer (some ⟨p, 0, none⟩)] w fun e w' => (∃ g, e = .returned (.slice (some ⟨g, 0, none⟩) 0 0) ∧ Below w.heap.size w w') := by
  refine (ids_any h (by omega) (by simp)).mono ?_
  rintro e w' ⟨g, h1, _, _, h2⟩
  exact ⟨g, h1, h2⟩
end Go.Proofs.Ytmaefeckkodllaa
