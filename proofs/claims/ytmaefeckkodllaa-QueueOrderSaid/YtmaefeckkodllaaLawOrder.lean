/-
  QueueOrder: what is taken, in whatever pieces, is the texts that were pushed, whole, in their order, each once: for every input the call returns true and the arguments read as before. No condition.
-/
import Derived.Test.YtmaefeckkodllaaOrd1
import Derived.Test.YtmaefeckkodllaaQPieces
namespace Go.Proofs.Ytmaefeckkodllaa.queueOrder
open Go.ChangeShapes Go.WideShapes Go.ChangeAt Go.RowKit

set_option maxRecDepth 100000 in
theorem lifted (os : Os) (started : os.Started) (H : Type) (enc : TypeId × Value → H) :
    ReturnsInHanded {} Try.checked os 8 .any (Rows.queueOrderSpec.pre6 enc Try.prog Try.f8 Rows.queueOrderRow.domain false) (Rows.queueOrderSpec.post enc Try.prog Try.f8 false true false false) := by
  refine returnsInHanded_of_change (C := Try.checked) lawOwn started (by kernel_rfl) Try.func8
    (ChangeSpec.witness6 (enc := enc) (C := Try.checked) false ⟨#[], #[.slice none 0 0, .slice none 0 0], []⟩ 8 (by kernel_rfl) (by kernel_rfl) (by kernel_rfl) (by kernel_rfl)) ?_
  intro W base args ds gs before hval0 hW hcnd _
  have hval : ∀ (j : Nat) t v, Try.f8.params[j]? = some t → args[j]? = some v → Value.okWide Try.prog W .any base t v := hval0
  have hW' := hW
  obtain ⟨p, q, hA0, hV, rfl, hfz, hnd⟩ := hW
  have hA : DataW.TrodAll enc Try.prog W 0 (fun _ => true) true Try.f8.params.toList args.toList ds p := hA0
  rw [Try.params8] at hA hval
  obtain ⟨v0, vs0, d0, ds0, p0, q0, hargs, rfl, rfl, h0, r0⟩ := trodAll_cons hA
  obtain ⟨v1, vs1, d1, ds1, p1, q1, rfl, rfl, rfl, h1, r1⟩ := trodAll_cons r0
  obtain ⟨rfl, rfl, rfl⟩ := trodAll_nil r1
  obtain rfl : args = #[v0, v1] := by cases args; simp_all
  obtain ⟨rfl, rfl⟩ := trodVars_none hV
  obtain ⟨A, cap, L, rfl, hcap, hm, hs⟩ := rows_arg (hval 0 60 v0 rfl rfl) h0
  obtain ⟨A2, cap2, l2, rfl, hcap2, hm2, hs2, hb2⟩ := pieces_arg (hval 1 82 v1 rfl rfl) h1
  have hwalk : Calls Try.prog 8 #[.slice A L.length cap, .slice A2 l2.length cap2] W fun e w' => e = .returned (.bool true) ∧ Below W.heap.size W w' := by
    simp only [maxLen] at hm2
    rcases Nat.eq_zero_or_pos l2.length with h | h
    · rw [h]
      exact order_guard A L.length cap A2 cap2 W
    · exact order_walk A A2 L cap l2 cap2 W hs h (by omega) hs2 hb2
  refine hwalk.mono fun e W' ⟨he, hg⟩ => ?_
  subst he
  exact ⟨_, rfl, law_post lawLaid (by kernel_rfl) rfl hW' rfl (by kernel_rfl) Try.underlying4 hg⟩

theorem proved : Rows.QueueOrderSaid :=
  OpenClaim.holds_of_wide 8 Try.f8 rfl rfl rfl rfl rfl rfl rfl ⟨rfl, rfl, rfl, rfl, rfl⟩ rfl rfl rfl rfl rfl (by kernel_rfl) Try.func8 (by kernel_rfl)
    (of_decide_eq_true (by kernel_rfl)) (by unfold Func.isWrapper; first | (rw [if_pos (by decide +kernel)]; kernel_rfl) | (rw [if_neg (by decide +kernel)]; exact ⟨rfl, rfl⟩))
    (fun os started H enc _ => lifted os started H enc)
end Go.Proofs.Ytmaefeckkodllaa.queueOrder
