/-
  AmdWrites: which packets of amd may be, their bytes, and how many these are, is told; and which two are equal: for every input the call returns true and the arguments read as before. No condition.
-/
import Derived.Test.YtgdpjaojlhdhdaaJAmdWrites29
import Derived.Test.YtgdpjaojlhdhdaaJAmdWrites30
import Derived.Test.YtgdpjaojlhdhdaaJAmdWrites31
import Derived.Test.YtgdpjaojlhdhdaaJAmdWrites32
import Derived.Test.YtgdpjaojlhdhdaaJAmdWrites33
import Derived.Test.YtgdpjaojlhdhdaaJAmdWrites34
namespace Go.Proofs.Ytgdpjaojlhdhdaa.amdWrites
open Go.ChangeShapes Go.WideShapes Go.ChangeAt Go.RowKit

set_option maxRecDepth 100000 in
theorem lifted (os : Os) (started : os.Started) (H : Type) (enc : TypeId × Value → H) :
    ReturnsInHanded {} Try.checked os 6 .any (Rows.amdWritesSpec.pre6 enc Try.prog Try.f6 Rows.amdWritesRow.domain false) (Rows.amdWritesSpec.post enc Try.prog Try.f6 false true false false) := by
  refine returnsInHanded_of_change (C := Try.checked) lawOwn started (by kernel_rfl) Try.func6
    (ChangeSpec.witness6 (enc := enc) (C := Try.checked) false ⟨#[], #[.agg #[.bool false, .int .i64 0, .int .i64 0, .bool false, .bool false, .int .i64 0, .slice none 0 0], .agg #[.bool false, .int .i64 0, .int .i64 0, .bool false, .bool false, .int .i64 0, .slice none 0 0], .int .i64 0], []⟩ 8 (by kernel_rfl) (by kernel_rfl) (by kernel_rfl) (by kernel_rfl)) ?_
  intro W base args ds gs before hval0 hW hcnd _
  have hval : ∀ (j : Nat) t v, Try.f6.params[j]? = some t → args[j]? = some v → Value.okWide Try.prog W .any base t v := hval0
  have hW' := hW
  obtain ⟨p, q, hA0, hV, rfl, hfz, hnd⟩ := hW
  have hA : DataW.TrodAll enc Try.prog W 0 (fun _ => true) true Try.f6.params.toList args.toList ds p := hA0
  rw [Try.params6] at hA hval
  obtain ⟨v0, vs0, d0, ds0, p0, q0, hargs, rfl, rfl, h0, r0⟩ := trodAll_cons hA
  obtain ⟨v1, vs1, d1, ds1, p1, q1, rfl, rfl, rfl, h1, r1⟩ := trodAll_cons r0
  obtain ⟨v2, vs2, d2, ds2, p2, q2, rfl, rfl, rfl, h2, r2⟩ := trodAll_cons r1
  obtain ⟨rfl, rfl, rfl⟩ := trodAll_nil r2
  obtain rfl : args = #[v0, v1, v2] := by cases args; simp_all
  obtain ⟨rfl, rfl⟩ := trodVars_none hV
  obtain ⟨poll0, part0, last0, fi0, sn0, off0, A0, cap0, L0, rfl, hcap0, hm0, hs0, hl0⟩ := apack_arg (hval 0 57 v0 rfl rfl) h0
  obtain ⟨poll1, part1, last1, fi1, sn1, off1, A1, cap1, L1, rfl, hcap1, hm1, hs1, hl1⟩ := apack_arg (hval 1 57 v1 rfl rfl) h1
  obtain ⟨a2, rfl, rfl, rfl, wf2⟩ := open_int Try.underlying3 (hval 2 3 v2 rfl rfl) h2
  refine (awrites_all poll0 part0 last0 fi0 sn0 off0 poll1 part1 last1 fi1 sn1 off1 a2 L0 L1 cap0 cap1 W hcap0 hm0 hs0 hl0 hcap1 hm1 hs1 hl1).mono fun e W' ⟨he, hg⟩ => ?_
  subst he
  exact ⟨_, rfl, law_post lawLaid (by kernel_rfl) rfl hW' rfl (by kernel_rfl) Try.underlying4 hg⟩

set_option maxRecDepth 100000 in
theorem closed : joinedFacts Try.pinned.checked.prog 6 Try.f6 Rows.amdWritesSpec Rows.amdWritesRow = true := by
  unfold joinedFacts
  rw [seat_enter, seat_lift, seat_make, seat_laid, seat_heard]
  kernel_rfl
theorem proved : Rows.AmdWritesSaid :=
  OpenClaim.holds_of_wide 6 Try.f6 rfl rfl rfl rfl rfl rfl rfl ⟨rfl, rfl, rfl, rfl, rfl⟩ rfl rfl rfl rfl rfl (by kernel_rfl) Try.func6 closed
    (of_decide_eq_true (by kernel_rfl)) (by unfold Func.isWrapper; first | (rw [if_pos (by decide +kernel)]; kernel_rfl) | (rw [if_neg (by decide +kernel)]; exact ⟨rfl, rfl⟩))
    (fun os started H enc _ => lifted os started H enc)
end Go.Proofs.Ytgdpjaojlhdhdaa.amdWrites
