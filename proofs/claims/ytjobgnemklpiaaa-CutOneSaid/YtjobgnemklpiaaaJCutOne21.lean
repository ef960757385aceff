/-
  CutOne walked. CutOne: all ways together. A law's row follows from its walk: the call returns true, and below the heap's old size the world is as it was; then every argument reads as it did.
-/
import Derived.Test.YtjobgnemklpiaaaJCutOne20
import Derived.Test.YtjobgnemklpiaaaJCutOne11
import Derived.StillTailTactics
import Derived.Test.YtjobgnemklpiaaaRows
import Derived.WalkKit
import Derived.ProofKit
import Derived.OpenShut
namespace Go.Proofs.Ytjobgnemklpiaaa
open Go.RowKit

theorem lenT_two {t1 t2 : Txt} {la lb : Nat} (h1 : t1.bs.length = la) (h2 : t2.bs.length = lb) : lenT ([] ++ [t1] ++ [t2]) = [la, lb] := by
  simp [lenT, h1, h2]
theorem one_none {la lb : Nat} : Bld 0 11 [la, lb] 0 0 := ⟨by simp, fun i l hi _ => by omega, by
  show (0 : Int) = nextF la [] 0 11
  unfold nextF
  rw [if_neg (by simp)]
  have : sizeF ((([] : List Nat).length : Nat) : Int) 11 = 0 := by decide
  rw [this]
  simp
  omega, .inl (by omega)⟩
theorem one_next0 {la : Nat} {room : Int} : nextF la [] room 11 = min (la : Int) room := by
  unfold nextF
  rw [if_neg (by simp)]
  have : sizeF ((([] : List Nat).length : Nat) : Int) 11 = 0 := by decide
  rw [this]
  simp
theorem one_next1 {la lb : Nat} {room : Int} : nextF lb [la] room 11 = min (lb : Int) (room - la - 2) := by
  unfold nextF
  rw [if_neg (by simp)]
  have : sizeF ((([la] : List Nat).length : Nat) : Int) 11 = 2 := by show sizeF 1 11 = 2; decide
  rw [this]
  simp
theorem one_all {la lb : Nat} {room : Int} (h : (la : Int) + lb + 2 ≤ room) : ∃ n ≤ 0, Bld room 11 [la, lb] 2 n := by
  refine ⟨nextF 0 [la, lb] room 11, by unfold nextF; split <;> omega, by simp, fun i l hi hl => ?_, rfl, .inl (by unfold nextF; split <;> omega)⟩
  match i, hi, hl with
  | 0, _, hl =>
    simp at hl
    subst hl
    show nextF la [] room 11 = _
    rw [one_next0]
    omega
  | 1, _, hl =>
    simp at hl
    subst hl
    show nextF lb [la] room 11 = _
    rw [one_next1]
    omega
theorem one_some {la lb : Nat} {room : Int} (h0 : (la : Int) ≤ room) (h : room < (la : Int) + lb + 2) : Bld room 11 [la, lb] 1 (min (lb : Int) (room - la - 2)) := by
  refine ⟨by simp, fun i l hi hl => ?_, ?_, .inr ⟨by simp, ?_⟩⟩
  · obtain rfl : i = 0 := by omega
    simp at hl
    subst hl
    show nextF la [] room 11 = _
    rw [one_next0]
    omega
  · show _ = nextF lb [la] room 11
    rw [one_next1]
  · show _ < ((lb : Nat) : Int)
    omega
/-- two texts wait -/
theorem one_push {W w : World} {p : Nat} {last : Nat} {ts : List Txt} {A : Option Addr} {l : List Nat} (n c : Nat) (h : QS p p 20000 w last ts) (hl : l.length = n) (hn0 : 0 < n) (hn : n ≤ 1000) (hts : ts.length ≤ 1) (hb : ∀ b ∈ l, b < 256) (hs : Src W A (bts l)) (hp : p = W.heap.size) (hw : Below p W w) (hlast : last ≤ 5) :
    Calls Try.prog 36 #[.pointer (some ⟨p, 0, none⟩), .slice A n c] w fun e w' => e = .returned (.tuple #[.int .u64 (last + 1 : Nat), .int .i64 0]) ∧ (∃ t : Txt, t.bs = l ∧ t.bg = false ∧ QS p p 20000 w' (last + 1) (ts ++ [t])) ∧ Below p W w' := by
  subst hl
  have hts2 : (bytesF ts : Int) ≤ 1000 := by
    rcases ts with _ | ⟨t, _ | ⟨u, r⟩⟩
    · simp [bytesF]
    · have := (h.bytes t (List.mem_cons_self ..)).2.1
      rw [bytesF_cons]
      simp [bytesF]
      omega
    · simp at hts
  refine (h.push A l c (by omega) (by omega) (by omega) (by omega) hb (fun V hV => src_qsrc (src_later hs ((hw.trans (hV.below h.q.2.1)).mono (by omega))))).mono ?_
  rintro e w' ⟨nid, er, rfl, ho, ⟨rfl, rfl, _, _, _, _, t, _, k2, ⟨k3, _⟩, k4⟩ | ⟨k1, _, _, k2⟩⟩
  · exact ⟨rfl, ⟨t, k2, k3, k4⟩, hw.trans (ho.below h.q.2.1)⟩
  · omega

set_option maxRecDepth 100000 in
set_option maxHeartbeats 6400000 in
theorem cutone_low {A B : Option Addr} {a b : List Nat} (la lb ca cb : Nat) (room : Int) (W : World) (hla : a.length = la) (hlb : b.length = lb) (hsa : Src W A (bts a)) (hsb : Src W B (bts b)) (hba : ∀ x ∈ a, x < 256) (hbb : ∀ x ∈ b, x < 256)
    (ha0 : 0 < la) (ha1 : la ≤ 1000) (hb0 : 0 < lb) (hb1 : lb ≤ 1000) (hr : room < (la : Int)) :
    Calls Try.prog 8 #[.slice A la ca, .slice B lb cb, .int .i64 room] W fun e w' => e = .returned (.bool true) ∧ Below W.heap.size W w' := by
  have HAL := Lib.hid (fun V => calive_any V)
  have HLA := Lib.hid hla
  have HLB := Lib.hid hlb
  have HSA := Lib.hid hsa
  have HSB := Lib.hid hsb
  have HBA := Lib.hid hba
  have HBB := Lib.hid hbb
  have z1 : ((la : Int) == 0) = false := by simp; omega
  have z2 : ((lb : Int) == 0) = false := by simp; omega
  have z3 : decide ((1000 : Int) < (la : Int)) = false := decide_eq_false (by omega)
  have z4 : decide ((1000 : Int) < (lb : Int)) = false := decide_eq_false (by omega)
  clear hla hlb hsa hsb hba hbb
  go_enter Try.func8, Try.ntmps8
  go_wp2_with fail
  refine (qnew_any W.heap.size 20000 W (Nat.le_refl _) (by omega) (by omega)).mono ?_
  rintro e w1 ⟨rfl, hq1, hb1'⟩
  generalize hp : W.heap.size = p at *
  have HP := Lib.hid hp.symm
  have HQ1 := Lib.hid (QS.start hq1 (by omega))
  have HB1 := Lib.hid hb1'
  have HPA := Lib.hid (one_push (c := ca) la HQ1.out HLA.out ha0 ha1 (by simp) HBA.out HSA.out HP.out hb1' (by omega))
  clear hq1 hb1' hp
  go_wp2_with fail
  refine HPA.out.mono ?_
  rintro e w2 ⟨rfl, ⟨t1, k1, k2, hq2⟩, hb2⟩
  have HT1 := Lib.hid (And.intro k1 k2)
  have HQ2 := Lib.hid hq2
  have HB2 := Lib.hid hb2
  have HPB := Lib.hid (one_push (c := cb) lb hq2 HLB.out hb0 hb1 (by simp) HBB.out HSB.out HP.out hb2 (by omega))
  clear k1 k2 hq2 hb2
  go_wp2_with fail
  refine HPB.out.mono ?_
  rintro e w3 ⟨rfl, ⟨t2, k1, k2, hq3⟩, hb3⟩
  have HT2 := Lib.hid (And.intro k1 k2)
  have HQ3 := Lib.hid hq3
  have HB3 := Lib.hid hb3
  have HLT := Lib.hid (lenT_two (la := la) (lb := lb) (t1 := t1) (t2 := t2) (by rw [HT1.out.1]; exact HLA.out) (by rw [k1]; exact HLB.out))
  have HN := Lib.hid (hq3.build_none 0 11 (by omega) (by decide) 0 (by rw [HLT.out]; exact one_none) (by omega))
  clear k1 k2 hq3 hb3
  go_wp2_with fail
  refine HN.out.mono ?_
  rintro e w4 ⟨rfl, hq4, ho4⟩
  have hbx := bl_alloc (Below.refl w4.heap.size w4) (.cells #[.int .i64 0, .slice none 0 0, .slice none 0 0] 91)
  have HQ4 := Lib.hid (hq4.later hbx)
  have HB4 := Lib.hid ((HB3.out.trans (ho4.below HQ3.out.q.2.1)).trans (hbx.mono hq4.q.2.1))
  have hbf : bytesF ([] ++ [t1] ++ [t2]) = la + lb := by
    simp only [List.nil_append, List.cons_append]
    rw [bytesF_cons, bytesF_cons, HT1.out.1, HT2.out.1, HLA.out, HLB.out]
    rfl
  have HBY := Lib.hid (by
    have h := qbytes_any HQ4.out.q (by omega) (by rw [hbf]; omega)
    rw [hbf] at h
    exact h)
  have hs : IntKind.i64.wrap ((la : Int) + (lb : Int)) = ((la + lb : Nat) : Int) := by rw [IntKind.wrap_i64]; omega
  clear hq4 ho4 hbx hbf
  have zz : ((((la + lb : Nat) : Int)) != ((la : Int) + (lb : Int))) = false := by simp
  go_wp2_with (first
    | (go_at_call 47; (with_reducible refine HBY.out.mono ?_); rintro e w5 ⟨rfl, hb5⟩; (have HQ5 := Lib.hid (HQ4.out.later hb5); have HB5 := Lib.hid (HB4.out.trans (hb5.mono HQ4.out.q.2.1)); clear hb5))
    | (go_at_call 53; (with_reducible refine (HAL.out _).mono ?_); rintro e w6 ⟨rfl, hb6⟩; (have HB6 := Lib.hid hb6; clear hb6)))
  go_ret
  rw [← HP.out]
  exact ⟨rfl, HB5.out.trans (HB6.out.mono HQ5.out.q.2.1)⟩

set_option maxRecDepth 100000 in
set_option maxHeartbeats 6400000 in
theorem cutone_high {A B : Option Addr} {a b : List Nat} (la lb ca cb : Nat) (room : Int) (W : World) (hla : a.length = la) (hlb : b.length = lb) (hsa : Src W A (bts a)) (hsb : Src W B (bts b)) (hba : ∀ x ∈ a, x < 256) (hbb : ∀ x ∈ b, x < 256)
    (ha0 : 0 < la) (ha1 : la ≤ 1000) (hb0 : 0 < lb) (hb1 : lb ≤ 1000) (hr0 : ¬ room < (la : Int)) (hr : 4000 < room) :
    Calls Try.prog 8 #[.slice A la ca, .slice B lb cb, .int .i64 room] W fun e w' => e = .returned (.bool true) ∧ Below W.heap.size W w' := by
  have HAL := Lib.hid (fun V => calive_any V)
  have HLA := Lib.hid hla
  have HLB := Lib.hid hlb
  have HSA := Lib.hid hsa
  have HSB := Lib.hid hsb
  have HBA := Lib.hid hba
  have HBB := Lib.hid hbb
  have z1 : ((la : Int) == 0) = false := by simp; omega
  have z2 : ((lb : Int) == 0) = false := by simp; omega
  have z3 : decide ((1000 : Int) < (la : Int)) = false := decide_eq_false (by omega)
  have z4 : decide ((1000 : Int) < (lb : Int)) = false := decide_eq_false (by omega)
  clear hla hlb hsa hsb hba hbb
  go_enter Try.func8, Try.ntmps8
  go_wp2_with fail
  refine (qnew_any W.heap.size 20000 W (Nat.le_refl _) (by omega) (by omega)).mono ?_
  rintro e w1 ⟨rfl, hq1, hb1'⟩
  generalize hp : W.heap.size = p at *
  have HP := Lib.hid hp.symm
  have HQ1 := Lib.hid (QS.start hq1 (by omega))
  have HB1 := Lib.hid hb1'
  have HPA := Lib.hid (one_push (c := ca) la HQ1.out HLA.out ha0 ha1 (by simp) HBA.out HSA.out HP.out hb1' (by omega))
  clear hq1 hb1' hp
  go_wp2_with fail
  refine HPA.out.mono ?_
  rintro e w2 ⟨rfl, ⟨t1, k1, k2, hq2⟩, hb2⟩
  have HT1 := Lib.hid (And.intro k1 k2)
  have HQ2 := Lib.hid hq2
  have HB2 := Lib.hid hb2
  have HPB := Lib.hid (one_push (c := cb) lb hq2 HLB.out hb0 hb1 (by simp) HBB.out HSB.out HP.out hb2 (by omega))
  clear k1 k2 hq2 hb2
  go_wp2_with fail
  refine HPB.out.mono ?_
  rintro e w3 ⟨rfl, ⟨t2, k1, k2, hq3⟩, hb3⟩
  have HT2 := Lib.hid (And.intro k1 k2)
  have HQ3 := Lib.hid hq3
  have HB3 := Lib.hid hb3
  have HLT := Lib.hid (lenT_two (la := la) (lb := lb) (t1 := t1) (t2 := t2) (by rw [HT1.out.1]; exact HLA.out) (by rw [k1]; exact HLB.out))
  have HN := Lib.hid (hq3.build_none 0 11 (by omega) (by decide) 0 (by rw [HLT.out]; exact one_none) (by omega))
  clear k1 k2 hq3 hb3
  go_wp2_with fail
  refine HN.out.mono ?_
  rintro e w4 ⟨rfl, hq4, ho4⟩
  have hbx := bl_alloc (Below.refl w4.heap.size w4) (.cells #[.int .i64 0, .slice none 0 0, .slice none 0 0] 91)
  have HQ4 := Lib.hid (hq4.later hbx)
  have HB4 := Lib.hid ((HB3.out.trans (ho4.below HQ3.out.q.2.1)).trans (hbx.mono hq4.q.2.1))
  have hbf : bytesF ([] ++ [t1] ++ [t2]) = la + lb := by
    simp only [List.nil_append, List.cons_append]
    rw [bytesF_cons, bytesF_cons, HT1.out.1, HT2.out.1, HLA.out, HLB.out]
    rfl
  have HBY := Lib.hid (by
    have h := qbytes_any HQ4.out.q (by omega) (by rw [hbf]; omega)
    rw [hbf] at h
    exact h)
  have hs : IntKind.i64.wrap ((la : Int) + (lb : Int)) = ((la + lb : Nat) : Int) := by rw [IntKind.wrap_i64]; omega
  clear hq4 ho4 hbx hbf
  have zz : ((((la + lb : Nat) : Int)) != ((la : Int) + (lb : Int))) = false := by simp
  go_wp2_with (first
    | (go_at_call 47; (with_reducible refine HBY.out.mono ?_); rintro e w5 ⟨rfl, hb5⟩; (have HQ5 := Lib.hid (HQ4.out.later hb5); have HB5 := Lib.hid (HB4.out.trans (hb5.mono HQ4.out.q.2.1)); clear hb5))
    | (go_at_call 53; (with_reducible refine (HAL.out _).mono ?_); rintro e w6 ⟨rfl, hb6⟩; (have HB6 := Lib.hid hb6; clear hb6)))
  go_ret
  rw [← HP.out]
  exact ⟨rfl, HB5.out.trans (HB6.out.mono HQ5.out.q.2.1)⟩

set_option maxRecDepth 100000 in
set_option maxHeartbeats 6400000 in
theorem cutone_all {A B : Option Addr} {a b : List Nat} (la lb ca cb : Nat) (room : Int) (W : World) (hla : a.length = la) (hlb : b.length = lb) (hsa : Src W A (bts a)) (hsb : Src W B (bts b)) (hba : ∀ x ∈ a, x < 256) (hbb : ∀ x ∈ b, x < 256)
    (ha0 : 0 < la) (ha1 : la ≤ 1000) (hb0 : 0 < lb) (hb1 : lb ≤ 1000) (hr : room ≤ 4000) (hr2 : (la : Int) + lb + 2 ≤ room) :
    Calls Try.prog 8 #[.slice A la ca, .slice B lb cb, .int .i64 room] W fun e w' => e = .returned (.bool true) ∧ Below W.heap.size W w' := by
  have HAL := Lib.hid (fun V => calive_any V)
  have HLA := Lib.hid hla
  have HLB := Lib.hid hlb
  have HSA := Lib.hid hsa
  have HSB := Lib.hid hsb
  have HBA := Lib.hid hba
  have HBB := Lib.hid hbb
  have z1 : ((la : Int) == 0) = false := by simp; omega
  have z2 : ((lb : Int) == 0) = false := by simp; omega
  have z3 : decide ((1000 : Int) < (la : Int)) = false := decide_eq_false (by omega)
  have z4 : decide ((1000 : Int) < (lb : Int)) = false := decide_eq_false (by omega)
  clear hla hlb hsa hsb hba hbb
  go_enter Try.func8, Try.ntmps8
  go_wp2_with fail
  refine (qnew_any W.heap.size 20000 W (Nat.le_refl _) (by omega) (by omega)).mono ?_
  rintro e w1 ⟨rfl, hq1, hb1'⟩
  generalize hp : W.heap.size = p at *
  have HP := Lib.hid hp.symm
  have HQ1 := Lib.hid (QS.start hq1 (by omega))
  have HB1 := Lib.hid hb1'
  have HPA := Lib.hid (one_push (c := ca) la HQ1.out HLA.out ha0 ha1 (by simp) HBA.out HSA.out HP.out hb1' (by omega))
  clear hq1 hb1' hp
  go_wp2_with fail
  refine HPA.out.mono ?_
  rintro e w2 ⟨rfl, ⟨t1, k1, k2, hq2⟩, hb2⟩
  have HT1 := Lib.hid (And.intro k1 k2)
  have HQ2 := Lib.hid hq2
  have HB2 := Lib.hid hb2
  have HPB := Lib.hid (one_push (c := cb) lb hq2 HLB.out hb0 hb1 (by simp) HBB.out HSB.out HP.out hb2 (by omega))
  clear k1 k2 hq2 hb2
  go_wp2_with fail
  refine HPB.out.mono ?_
  rintro e w3 ⟨rfl, ⟨t2, k1, k2, hq3⟩, hb3⟩
  have HT2 := Lib.hid (And.intro k1 k2)
  have HQ3 := Lib.hid hq3
  have HB3 := Lib.hid hb3
  have HLT := Lib.hid (lenT_two (la := la) (lb := lb) (t1 := t1) (t2 := t2) (by rw [HT1.out.1]; exact HLA.out) (by rw [k1]; exact HLB.out))
  have HN := Lib.hid (hq3.build_none 0 11 (by omega) (by decide) 0 (by rw [HLT.out]; exact one_none) (by omega))
  clear k1 k2 hq3 hb3
  go_wp2_with fail
  refine HN.out.mono ?_
  rintro e w4 ⟨rfl, hq4, ho4⟩
  have hbx := bl_alloc (Below.refl w4.heap.size w4) (.cells #[.int .i64 0, .slice none 0 0, .slice none 0 0] 91)
  have HQ4 := Lib.hid (hq4.later hbx)
  have HB4 := Lib.hid ((HB3.out.trans (ho4.below HQ3.out.q.2.1)).trans (hbx.mono hq4.q.2.1))
  have hbf : bytesF ([] ++ [t1] ++ [t2]) = la + lb := by
    simp only [List.nil_append, List.cons_append]
    rw [bytesF_cons, bytesF_cons, HT1.out.1, HT2.out.1, HLA.out, HLB.out]
    rfl
  have HBY := Lib.hid (by
    have h := qbytes_any HQ4.out.q (by omega) (by rw [hbf]; omega)
    rw [hbf] at h
    exact h)
  have hs : IntKind.i64.wrap ((la : Int) + (lb : Int)) = ((la + lb : Nat) : Int) := by rw [IntKind.wrap_i64]; omega
  clear hq4 ho4 hbx hbf
  have zz : ((((la + lb : Nat) : Int)) != ((la : Int) + (lb : Int))) = false := by simp
  have HF0 : faultC room 11 = 0 := by
    unfold faultC
    rw [if_pos (by decide), if_neg (by omega)]
  obtain ⟨n, hn0, hB⟩ := one_all hr2
  have d1 : decide ((la : Int) + 3 ≤ room) = true := by simp; omega
  have d2 : decide ((la : Int) + (lb : Int) + 2 ≤ room) = true := by simp; omega
  go_wp2_with (go_at_call 47; (with_reducible refine HBY.out.mono ?_); rintro e w5 ⟨rfl, hb5⟩; (have HQ5 := Lib.hid (HQ4.out.later hb5); have HB5 := Lib.hid (HB4.out.trans (hb5.mono HQ4.out.q.2.1)); have HBU := Lib.hid ((HQ4.out.later hb5).build_is room 11 (by omega) HF0 2 n (by rw [HLT.out]; exact hB) (by omega)); clear hb5))
  refine HBU.out.mono ?_
  rintro e w6 ⟨ts6, A6, D6, L6, rfl, hr6, hq6, ho6, htx6, ⟨c6, hn6⟩, d6, hi6⟩
  have hl6 : L6.length = 2 := by
    have := congrArg List.length htx6
    rw [length_texts] at this
    rw [this]
    unfold fieldsT
    first | (rw [if_pos (by omega)]; simp) | (rw [if_neg (by omega)]; simp)
  obtain ⟨r0, hr0'⟩ : ∃ r, L6[0]? = some r := ⟨_, List.getElem?_eq_getElem (by omega)⟩
  have hb0' : r0.bs = a := by
    have h9 := texts_at hr0'
    rw [htx6] at h9
    unfold fieldsT at h9
    rw [List.getElem?_append_left (by simp)] at h9
    simp at h9
    rw [← h9]
    exact HT1.out.1
  have hbx6 := bl_alloc (Below.refl w6.heap.size w6) (.cells #[.int .i64 (fiT ([] ++ [t1] ++ [t2]) n), .slice A6 L6.length L6.length, .slice D6 2 2] 91)
  have hrow6 := Row.made w6 91 #[.int .i64 (fiT ([] ++ [t1] ++ [t2]) n), .slice A6 L6.length L6.length, .slice D6 2 2]
  have HB6 := Lib.hid ((HB5.out.trans (ho6.below HQ5.out.q.2.1)).trans (hbx6.mono hq6.q.2.1))
  have HS6 := Lib.hid (Nat.le_trans hq6.q.2.1 hbx6.size)
  obtain ⟨ad, rfl, hcell⟩ := (hn6.later hbx6).src (by omega)
  obtain ⟨hc0, hok0⟩ := hcell 0 r0 hr0'
  rw [addr_zero] at hc0
  unfold RowB.v at hc0
  rw [hb0', HLA.out] at hc0
  have cv1 := conv_src (w := (w6.alloc (.cells #[.int .i64 (fiT ([] ++ [t1] ++ [t2]) n), .slice (some ad) L6.length L6.length, .slice D6 2 2] 91)).drew) (A := r0.A) (l := a) la r0.cap HLA.out (by rw [← hb0']; exact src_later hok0.1 (bl_drew (Below.refl _ _))) HBA.out
  have cv2 := conv_src (w := (w6.alloc (.cells #[.int .i64 (fiT ([] ++ [t1] ++ [t2]) n), .slice (some ad) L6.length L6.length, .slice D6 2 2] 91)).drew) (A := A) (l := a) la ca HLA.out (src_later HSA.out ((HB6.out.mono (by have := HP.out; omega)).trans ((bl_drew (Below.refl _ _)).mono (by have := HP.out; have := HS6.out; omega)))) HBA.out
  rw [hl6] at *
  have y1 := hrow6.read (i := 1) (x := .slice (some ad) 2 2) rfl
  have y2 := hrow6.read (i := 2) (x := .slice D6 2 2) rfl
  have HR6 := Lib.hid hrow6
  generalize fiT ([] ++ [t1] ++ [t2]) n = fi at *
  clear hr6 hq6 ho6 htx6 hn6 hi6 hl6 hr0' hb0' hbx6 hrow6 hcell hok0
  generalize strOf a = st at *
  go_wp2_with fail
  generalize w6.alloc (.cells #[.int .i64 fi, .slice (some ad) 2 2, .slice D6 2 2] 91) = w7 at y1 y2 hc0 cv1 cv2 HB6 HR6 HS6 ⊢
  have HB9 := Lib.hid (HB6.out.trans ((bl_drew (Below.refl w7.heap.size w7)).mono HS6.out))
  have HR9 := Lib.hid (show Row w7.drew w6.heap.size 91 #[.int .i64 fi, .slice (some ad) 2 2, .slice D6 2 2] from HR6.out)
  have HS9 := Lib.hid (show p ≤ w7.drew.heap.size from HS6.out)
  have x1 : w7.drew.cell? ⟨w6.heap.size, 1, none⟩ = some (.slice (some ad) 2 2) := y1
  have x2 : w7.drew.cell? ad = some (.slice r0.A la r0.cap) := hc0
  refine wp_region_still_lit (by kernel_rfl) (by kernel_rfl) ?_
  change wpStill _ _ w7.drew (fun b => _) _ _
  clear hc0 y1 y2 HB6 HR6 HS6
  generalize w7.drew = w9 at x1 x2 cv1 cv2 ⊢
  repeat still_step
  refine wpStill_nil ?_
  go_wp2_with (go_at_call 53; (with_reducible refine (HAL.out _).mono ?_); rintro e w10 ⟨rfl, hb10⟩; (have HB10 := Lib.hid hb10; have hr10 := HR9.out.later hb10; have v1 := hr10.read (i := 1) (x := .slice (some ad) 2 2) rfl; have v2 := hr10.read (i := 2) (x := .slice D6 2 2) rfl; clear hb10 hr10))
  go_ret
  rw [← HP.out]
  exact ⟨rfl, HB9.out.trans (HB10.out.mono HS9.out)⟩

set_option maxRecDepth 100000 in
set_option maxHeartbeats 6400000 in
theorem cutone_some {A B : Option Addr} {a b : List Nat} (la lb ca cb : Nat) (room : Int) (W : World) (hla : a.length = la) (hlb : b.length = lb) (hsa : Src W A (bts a)) (hsb : Src W B (bts b)) (hba : ∀ x ∈ a, x < 256) (hbb : ∀ x ∈ b, x < 256)
    (ha0 : 0 < la) (ha1 : la ≤ 1000) (hb0 : 0 < lb) (hb1 : lb ≤ 1000) (hr : room ≤ 4000) (hr1 : (la : Int) + 3 ≤ room) (hr2 : room < (la : Int) + lb + 2) :
    Calls Try.prog 8 #[.slice A la ca, .slice B lb cb, .int .i64 room] W fun e w' => e = .returned (.bool true) ∧ Below W.heap.size W w' := by
  have HAL := Lib.hid (fun V => calive_any V)
  have HLA := Lib.hid hla
  have HLB := Lib.hid hlb
  have HSA := Lib.hid hsa
  have HSB := Lib.hid hsb
  have HBA := Lib.hid hba
  have HBB := Lib.hid hbb
  have z1 : ((la : Int) == 0) = false := by simp; omega
  have z2 : ((lb : Int) == 0) = false := by simp; omega
  have z3 : decide ((1000 : Int) < (la : Int)) = false := decide_eq_false (by omega)
  have z4 : decide ((1000 : Int) < (lb : Int)) = false := decide_eq_false (by omega)
  clear hla hlb hsa hsb hba hbb
  go_enter Try.func8, Try.ntmps8
  go_wp2_with fail
  refine (qnew_any W.heap.size 20000 W (Nat.le_refl _) (by omega) (by omega)).mono ?_
  rintro e w1 ⟨rfl, hq1, hb1'⟩
  generalize hp : W.heap.size = p at *
  have HP := Lib.hid hp.symm
  have HQ1 := Lib.hid (QS.start hq1 (by omega))
  have HB1 := Lib.hid hb1'
  have HPA := Lib.hid (one_push (c := ca) la HQ1.out HLA.out ha0 ha1 (by simp) HBA.out HSA.out HP.out hb1' (by omega))
  clear hq1 hb1' hp
  go_wp2_with fail
  refine HPA.out.mono ?_
  rintro e w2 ⟨rfl, ⟨t1, k1, k2, hq2⟩, hb2⟩
  have HT1 := Lib.hid (And.intro k1 k2)
  have HQ2 := Lib.hid hq2
  have HB2 := Lib.hid hb2
  have HPB := Lib.hid (one_push (c := cb) lb hq2 HLB.out hb0 hb1 (by simp) HBB.out HSB.out HP.out hb2 (by omega))
  clear k1 k2 hq2 hb2
  go_wp2_with fail
  refine HPB.out.mono ?_
  rintro e w3 ⟨rfl, ⟨t2, k1, k2, hq3⟩, hb3⟩
  have HT2 := Lib.hid (And.intro k1 k2)
  have HQ3 := Lib.hid hq3
  have HB3 := Lib.hid hb3
  have HLT := Lib.hid (lenT_two (la := la) (lb := lb) (t1 := t1) (t2 := t2) (by rw [HT1.out.1]; exact HLA.out) (by rw [k1]; exact HLB.out))
  have HN := Lib.hid (hq3.build_none 0 11 (by omega) (by decide) 0 (by rw [HLT.out]; exact one_none) (by omega))
  clear k1 k2 hq3 hb3
  go_wp2_with fail
  refine HN.out.mono ?_
  rintro e w4 ⟨rfl, hq4, ho4⟩
  have hbx := bl_alloc (Below.refl w4.heap.size w4) (.cells #[.int .i64 0, .slice none 0 0, .slice none 0 0] 91)
  have HQ4 := Lib.hid (hq4.later hbx)
  have HB4 := Lib.hid ((HB3.out.trans (ho4.below HQ3.out.q.2.1)).trans (hbx.mono hq4.q.2.1))
  have hbf : bytesF ([] ++ [t1] ++ [t2]) = la + lb := by
    simp only [List.nil_append, List.cons_append]
    rw [bytesF_cons, bytesF_cons, HT1.out.1, HT2.out.1, HLA.out, HLB.out]
    rfl
  have HBY := Lib.hid (by
    have h := qbytes_any HQ4.out.q (by omega) (by rw [hbf]; omega)
    rw [hbf] at h
    exact h)
  have hs : IntKind.i64.wrap ((la : Int) + (lb : Int)) = ((la + lb : Nat) : Int) := by rw [IntKind.wrap_i64]; omega
  clear hq4 ho4 hbx hbf
  have zz : ((((la + lb : Nat) : Int)) != ((la : Int) + (lb : Int))) = false := by simp
  have HF0 : faultC room 11 = 0 := by
    unfold faultC
    rw [if_pos (by decide), if_neg (by omega)]
  have hB := one_some (lb := lb) (show (la : Int) ≤ room by omega) hr2
  obtain ⟨n, hn⟩ : ∃ n, min (lb : Int) (room - la - 2) = n := ⟨_, rfl⟩
  rw [hn] at hB
  have hn0 : 0 < n := by omega
  clear hn
  have d1 : decide ((la : Int) + 3 ≤ room) = true := by simp; omega
  have d2 : decide ((la : Int) + (lb : Int) + 2 ≤ room) = false := by simp; omega
  go_wp2_with (go_at_call 47; (with_reducible refine HBY.out.mono ?_); rintro e w5 ⟨rfl, hb5⟩; (have HQ5 := Lib.hid (HQ4.out.later hb5); have HB5 := Lib.hid (HB4.out.trans (hb5.mono HQ4.out.q.2.1)); have HBU := Lib.hid ((HQ4.out.later hb5).build_is room 11 (by omega) HF0 1 n (by rw [HLT.out]; exact hB) (by omega)); clear hb5))
  refine HBU.out.mono ?_
  rintro e w6 ⟨ts6, A6, D6, L6, rfl, hr6, hq6, ho6, htx6, ⟨c6, hn6⟩, d6, hi6⟩
  have hl6 : L6.length = 2 := by
    have := congrArg List.length htx6
    rw [length_texts] at this
    rw [this]
    unfold fieldsT
    first | (rw [if_pos (by omega)]; simp) | (rw [if_neg (by omega)]; simp)
  obtain ⟨r0, hr0'⟩ : ∃ r, L6[0]? = some r := ⟨_, List.getElem?_eq_getElem (by omega)⟩
  have hb0' : r0.bs = a := by
    have h9 := texts_at hr0'
    rw [htx6] at h9
    unfold fieldsT at h9
    rw [List.getElem?_append_left (by simp)] at h9
    simp at h9
    rw [← h9]
    exact HT1.out.1
  have hbx6 := bl_alloc (Below.refl w6.heap.size w6) (.cells #[.int .i64 (fiT ([] ++ [t1] ++ [t2]) n), .slice A6 L6.length L6.length, .slice D6 1 1] 91)
  have hrow6 := Row.made w6 91 #[.int .i64 (fiT ([] ++ [t1] ++ [t2]) n), .slice A6 L6.length L6.length, .slice D6 1 1]
  have HB6 := Lib.hid ((HB5.out.trans (ho6.below HQ5.out.q.2.1)).trans (hbx6.mono hq6.q.2.1))
  have HS6 := Lib.hid (Nat.le_trans hq6.q.2.1 hbx6.size)
  obtain ⟨ad, rfl, hcell⟩ := (hn6.later hbx6).src (by omega)
  obtain ⟨hc0, hok0⟩ := hcell 0 r0 hr0'
  rw [addr_zero] at hc0
  unfold RowB.v at hc0
  rw [hb0', HLA.out] at hc0
  have cv1 := conv_src (w := (w6.alloc (.cells #[.int .i64 (fiT ([] ++ [t1] ++ [t2]) n), .slice (some ad) L6.length L6.length, .slice D6 1 1] 91)).drew) (A := r0.A) (l := a) la r0.cap HLA.out (by rw [← hb0']; exact src_later hok0.1 (bl_drew (Below.refl _ _))) HBA.out
  have cv2 := conv_src (w := (w6.alloc (.cells #[.int .i64 (fiT ([] ++ [t1] ++ [t2]) n), .slice (some ad) L6.length L6.length, .slice D6 1 1] 91)).drew) (A := A) (l := a) la ca HLA.out (src_later HSA.out ((HB6.out.mono (by have := HP.out; omega)).trans ((bl_drew (Below.refl _ _)).mono (by have := HP.out; have := HS6.out; omega)))) HBA.out
  rw [hl6] at *
  have y1 := hrow6.read (i := 1) (x := .slice (some ad) 2 2) rfl
  have y2 := hrow6.read (i := 2) (x := .slice D6 1 1) rfl
  have HR6 := Lib.hid hrow6
  generalize fiT ([] ++ [t1] ++ [t2]) n = fi at *
  clear hr6 hq6 ho6 htx6 hn6 hi6 hl6 hr0' hb0' hbx6 hrow6 hcell hok0
  generalize strOf a = st at *
  go_wp2_with fail
  generalize w6.alloc (.cells #[.int .i64 fi, .slice (some ad) 2 2, .slice D6 1 1] 91) = w7 at y1 y2 hc0 cv1 cv2 HB6 HR6 HS6 ⊢
  have HB9 := Lib.hid (HB6.out.trans ((bl_drew (Below.refl w7.heap.size w7)).mono HS6.out))
  have HR9 := Lib.hid (show Row w7.drew w6.heap.size 91 #[.int .i64 fi, .slice (some ad) 2 2, .slice D6 1 1] from HR6.out)
  have HS9 := Lib.hid (show p ≤ w7.drew.heap.size from HS6.out)
  have x1 : w7.drew.cell? ⟨w6.heap.size, 1, none⟩ = some (.slice (some ad) 2 2) := y1
  have x2 : w7.drew.cell? ad = some (.slice r0.A la r0.cap) := hc0
  refine wp_region_still_lit (by kernel_rfl) (by kernel_rfl) ?_
  change wpStill _ _ w7.drew (fun b => _) _ _
  clear hc0 y1 y2 HB6 HR6 HS6
  generalize w7.drew = w9 at x1 x2 cv1 cv2 ⊢
  repeat still_step
  refine wpStill_nil ?_
  go_wp2_with (go_at_call 53; (with_reducible refine (HAL.out _).mono ?_); rintro e w10 ⟨rfl, hb10⟩; (have HB10 := Lib.hid hb10; have hr10 := HR9.out.later hb10; have v1 := hr10.read (i := 1) (x := .slice (some ad) 2 2) rfl; have v2 := hr10.read (i := 2) (x := .slice D6 1 1) rfl; clear hb10 hr10))
  go_ret
  rw [← HP.out]
  exact ⟨rfl, HB9.out.trans (HB10.out.mono HS9.out)⟩

set_option maxRecDepth 100000 in
set_option maxHeartbeats 6400000 in
theorem cutone_one {A B : Option Addr} {a b : List Nat} (la lb ca cb : Nat) (room : Int) (W : World) (hla : a.length = la) (hlb : b.length = lb) (hsa : Src W A (bts a)) (hsb : Src W B (bts b)) (hba : ∀ x ∈ a, x < 256) (hbb : ∀ x ∈ b, x < 256)
    (ha0 : 0 < la) (ha1 : la ≤ 1000) (hb0 : 0 < lb) (hb1 : lb ≤ 1000) (hr : room ≤ 4000) (hr0 : (la : Int) ≤ room) (hr2 : room < (la : Int) + 3) :
    Calls Try.prog 8 #[.slice A la ca, .slice B lb cb, .int .i64 room] W fun e w' => e = .returned (.bool true) ∧ Below W.heap.size W w' := by
  have HAL := Lib.hid (fun V => calive_any V)
  have HLA := Lib.hid hla
  have HLB := Lib.hid hlb
  have HSA := Lib.hid hsa
  have HSB := Lib.hid hsb
  have HBA := Lib.hid hba
  have HBB := Lib.hid hbb
  have z1 : ((la : Int) == 0) = false := by simp; omega
  have z2 : ((lb : Int) == 0) = false := by simp; omega
  have z3 : decide ((1000 : Int) < (la : Int)) = false := decide_eq_false (by omega)
  have z4 : decide ((1000 : Int) < (lb : Int)) = false := decide_eq_false (by omega)
  clear hla hlb hsa hsb hba hbb
  go_enter Try.func8, Try.ntmps8
  go_wp2_with fail
  refine (qnew_any W.heap.size 20000 W (Nat.le_refl _) (by omega) (by omega)).mono ?_
  rintro e w1 ⟨rfl, hq1, hb1'⟩
  generalize hp : W.heap.size = p at *
  have HP := Lib.hid hp.symm
  have HQ1 := Lib.hid (QS.start hq1 (by omega))
  have HB1 := Lib.hid hb1'
  have HPA := Lib.hid (one_push (c := ca) la HQ1.out HLA.out ha0 ha1 (by simp) HBA.out HSA.out HP.out hb1' (by omega))
  clear hq1 hb1' hp
  go_wp2_with fail
  refine HPA.out.mono ?_
  rintro e w2 ⟨rfl, ⟨t1, k1, k2, hq2⟩, hb2⟩
  have HT1 := Lib.hid (And.intro k1 k2)
  have HQ2 := Lib.hid hq2
  have HB2 := Lib.hid hb2
  have HPB := Lib.hid (one_push (c := cb) lb hq2 HLB.out hb0 hb1 (by simp) HBB.out HSB.out HP.out hb2 (by omega))
  clear k1 k2 hq2 hb2
  go_wp2_with fail
  refine HPB.out.mono ?_
  rintro e w3 ⟨rfl, ⟨t2, k1, k2, hq3⟩, hb3⟩
  have HT2 := Lib.hid (And.intro k1 k2)
  have HQ3 := Lib.hid hq3
  have HB3 := Lib.hid hb3
  have HLT := Lib.hid (lenT_two (la := la) (lb := lb) (t1 := t1) (t2 := t2) (by rw [HT1.out.1]; exact HLA.out) (by rw [k1]; exact HLB.out))
  have HN := Lib.hid (hq3.build_none 0 11 (by omega) (by decide) 0 (by rw [HLT.out]; exact one_none) (by omega))
  clear k1 k2 hq3 hb3
  go_wp2_with fail
  refine HN.out.mono ?_
  rintro e w4 ⟨rfl, hq4, ho4⟩
  have hbx := bl_alloc (Below.refl w4.heap.size w4) (.cells #[.int .i64 0, .slice none 0 0, .slice none 0 0] 91)
  have HQ4 := Lib.hid (hq4.later hbx)
  have HB4 := Lib.hid ((HB3.out.trans (ho4.below HQ3.out.q.2.1)).trans (hbx.mono hq4.q.2.1))
  have hbf : bytesF ([] ++ [t1] ++ [t2]) = la + lb := by
    simp only [List.nil_append, List.cons_append]
    rw [bytesF_cons, bytesF_cons, HT1.out.1, HT2.out.1, HLA.out, HLB.out]
    rfl
  have HBY := Lib.hid (by
    have h := qbytes_any HQ4.out.q (by omega) (by rw [hbf]; omega)
    rw [hbf] at h
    exact h)
  have hs : IntKind.i64.wrap ((la : Int) + (lb : Int)) = ((la + lb : Nat) : Int) := by rw [IntKind.wrap_i64]; omega
  clear hq4 ho4 hbx hbf
  have zz : ((((la + lb : Nat) : Int)) != ((la : Int) + (lb : Int))) = false := by simp
  have HF0 : faultC room 11 = 0 := by
    unfold faultC
    rw [if_pos (by decide), if_neg (by omega)]
  have hB := one_some (lb := lb) hr0 (show room < (la : Int) + lb + 2 by omega)
  obtain ⟨n, hn⟩ : ∃ n, min (lb : Int) (room - la - 2) = n := ⟨_, rfl⟩
  rw [hn] at hB
  have hn0 : n ≤ 0 := by omega
  clear hn
  have d1 : decide ((la : Int) + 3 ≤ room) = false := by simp; omega
  have d2 : decide ((la : Int) + (lb : Int) + 2 ≤ room) = false := by simp; omega
  go_wp2_with (go_at_call 47; (with_reducible refine HBY.out.mono ?_); rintro e w5 ⟨rfl, hb5⟩; (have HQ5 := Lib.hid (HQ4.out.later hb5); have HB5 := Lib.hid (HB4.out.trans (hb5.mono HQ4.out.q.2.1)); have HBU := Lib.hid ((HQ4.out.later hb5).build_is room 11 (by omega) HF0 1 n (by rw [HLT.out]; exact hB) (by omega)); clear hb5))
  refine HBU.out.mono ?_
  rintro e w6 ⟨ts6, A6, D6, L6, rfl, hr6, hq6, ho6, htx6, ⟨c6, hn6⟩, d6, hi6⟩
  have hl6 : L6.length = 1 := by
    have := congrArg List.length htx6
    rw [length_texts] at this
    rw [this]
    unfold fieldsT
    first | (rw [if_pos (by omega)]; simp) | (rw [if_neg (by omega)]; simp)
  obtain ⟨r0, hr0'⟩ : ∃ r, L6[0]? = some r := ⟨_, List.getElem?_eq_getElem (by omega)⟩
  have hb0' : r0.bs = a := by
    have h9 := texts_at hr0'
    rw [htx6] at h9
    unfold fieldsT at h9
    rw [List.getElem?_append_left (by simp)] at h9
    simp at h9
    rw [← h9]
    exact HT1.out.1
  have hbx6 := bl_alloc (Below.refl w6.heap.size w6) (.cells #[.int .i64 (fiT ([] ++ [t1] ++ [t2]) n), .slice A6 L6.length L6.length, .slice D6 1 1] 91)
  have hrow6 := Row.made w6 91 #[.int .i64 (fiT ([] ++ [t1] ++ [t2]) n), .slice A6 L6.length L6.length, .slice D6 1 1]
  have HB6 := Lib.hid ((HB5.out.trans (ho6.below HQ5.out.q.2.1)).trans (hbx6.mono hq6.q.2.1))
  have HS6 := Lib.hid (Nat.le_trans hq6.q.2.1 hbx6.size)
  obtain ⟨ad, rfl, hcell⟩ := (hn6.later hbx6).src (by omega)
  obtain ⟨hc0, hok0⟩ := hcell 0 r0 hr0'
  rw [addr_zero] at hc0
  unfold RowB.v at hc0
  rw [hb0', HLA.out] at hc0
  have cv1 := conv_src (w := (w6.alloc (.cells #[.int .i64 (fiT ([] ++ [t1] ++ [t2]) n), .slice (some ad) L6.length L6.length, .slice D6 1 1] 91)).drew) (A := r0.A) (l := a) la r0.cap HLA.out (by rw [← hb0']; exact src_later hok0.1 (bl_drew (Below.refl _ _))) HBA.out
  have cv2 := conv_src (w := (w6.alloc (.cells #[.int .i64 (fiT ([] ++ [t1] ++ [t2]) n), .slice (some ad) L6.length L6.length, .slice D6 1 1] 91)).drew) (A := A) (l := a) la ca HLA.out (src_later HSA.out ((HB6.out.mono (by have := HP.out; omega)).trans ((bl_drew (Below.refl _ _)).mono (by have := HP.out; have := HS6.out; omega)))) HBA.out
  rw [hl6] at *
  have y1 := hrow6.read (i := 1) (x := .slice (some ad) 1 1) rfl
  have y2 := hrow6.read (i := 2) (x := .slice D6 1 1) rfl
  have HR6 := Lib.hid hrow6
  generalize fiT ([] ++ [t1] ++ [t2]) n = fi at *
  clear hr6 hq6 ho6 htx6 hn6 hi6 hl6 hr0' hb0' hbx6 hrow6 hcell hok0
  generalize strOf a = st at *
  go_wp2_with fail
  generalize w6.alloc (.cells #[.int .i64 fi, .slice (some ad) 1 1, .slice D6 1 1] 91) = w7 at y1 y2 hc0 cv1 cv2 HB6 HR6 HS6 ⊢
  have HB9 := Lib.hid (HB6.out.trans ((bl_drew (Below.refl w7.heap.size w7)).mono HS6.out))
  have HR9 := Lib.hid (show Row w7.drew w6.heap.size 91 #[.int .i64 fi, .slice (some ad) 1 1, .slice D6 1 1] from HR6.out)
  have HS9 := Lib.hid (show p ≤ w7.drew.heap.size from HS6.out)
  have x1 : w7.drew.cell? ⟨w6.heap.size, 1, none⟩ = some (.slice (some ad) 1 1) := y1
  have x2 : w7.drew.cell? ad = some (.slice r0.A la r0.cap) := hc0
  refine wp_region_still_lit (by kernel_rfl) (by kernel_rfl) ?_
  change wpStill _ _ w7.drew (fun b => _) _ _
  clear hc0 y1 y2 HB6 HR6 HS6
  generalize w7.drew = w9 at x1 x2 cv1 cv2 ⊢
  repeat still_step
  refine wpStill_nil ?_
  go_wp2_with (go_at_call 53; (with_reducible refine (HAL.out _).mono ?_); rintro e w10 ⟨rfl, hb10⟩; (have HB10 := Lib.hid hb10; have hr10 := HR9.out.later hb10; have v1 := hr10.read (i := 1) (x := .slice (some ad) 1 1) rfl; have v2 := hr10.read (i := 2) (x := .slice D6 1 1) rfl; clear hb10 hr10))
  go_ret
  rw [← HP.out]
  exact ⟨rfl, HB9.out.trans (HB10.out.mono HS9.out)⟩
end Go.Proofs.Ytjobgnemklpiaaa
namespace Go.Proofs.Ytjobgnemklpiaaa
open Go.RowKit

set_option maxRecDepth 100000 in
set_option maxHeartbeats 1600000 in
theorem cutone_no1 {A B : Option Addr} (la lb ca cb : Nat) (room : Int) (W : World) (h : 1000 < la) :
    Calls Try.prog 8 #[.slice A la ca, .slice B lb cb, .int .i64 room] W fun e w' => e = .returned (.bool true) ∧ Below W.heap.size W w' := by
  have HAL := Lib.hid (fun V => calive_any V)
  have z1 : decide ((1000 : Int) < (la : Int)) = true := by simp; omega
  go_enter Try.func8, Try.ntmps8
  go_wp2_with fail
  refine (qnew_any W.heap.size 20000 W (Nat.le_refl _) (by omega) (by omega)).mono ?_
  rintro e w1 ⟨rfl, hq1, hb1⟩
  have HB1 := Lib.hid hb1
  clear hq1 hb1
  go_wp2_with (go_at_call 53; (with_reducible refine (HAL.out _).mono ?_); rintro e w6 ⟨rfl, hb6⟩; (have HB6 := Lib.hid hb6; clear hb6))
  go_ret
  exact ⟨rfl, bl_step HB1.out HB6.out⟩

set_option maxRecDepth 100000 in
set_option maxHeartbeats 1600000 in
theorem cutone_no2 {A B : Option Addr} (la lb ca cb : Nat) (room : Int) (W : World) (h1 : la ≤ 1000) (h : 1000 < lb) :
    Calls Try.prog 8 #[.slice A la ca, .slice B lb cb, .int .i64 room] W fun e w' => e = .returned (.bool true) ∧ Below W.heap.size W w' := by
  have HAL := Lib.hid (fun V => calive_any V)
  have z1 : decide ((1000 : Int) < (la : Int)) = false := by simp; omega
  have z2 : decide ((1000 : Int) < (lb : Int)) = true := by simp; omega
  go_enter Try.func8, Try.ntmps8
  go_wp2_with fail
  refine (qnew_any W.heap.size 20000 W (Nat.le_refl _) (by omega) (by omega)).mono ?_
  rintro e w1 ⟨rfl, hq1, hb1⟩
  have HB1 := Lib.hid hb1
  clear hq1 hb1
  go_wp2_with (go_at_call 53; (with_reducible refine (HAL.out _).mono ?_); rintro e w6 ⟨rfl, hb6⟩; (have HB6 := Lib.hid hb6; clear hb6))
  go_ret
  exact ⟨rfl, bl_step HB1.out HB6.out⟩

set_option maxRecDepth 100000 in
set_option maxHeartbeats 1600000 in
theorem cutone_no3 {A B : Option Addr} (la lb ca cb : Nat) (room : Int) (W : World) (h1 : la ≤ 1000) (h2 : lb ≤ 1000) (h : la = 0) :
    Calls Try.prog 8 #[.slice A la ca, .slice B lb cb, .int .i64 room] W fun e w' => e = .returned (.bool true) ∧ Below W.heap.size W w' := by
  have HAL := Lib.hid (fun V => calive_any V)
  subst h
  clear h1
  have z2 : decide ((1000 : Int) < (lb : Int)) = false := by simp; omega
  go_enter Try.func8, Try.ntmps8
  go_wp2_with fail
  refine (qnew_any W.heap.size 20000 W (Nat.le_refl _) (by omega) (by omega)).mono ?_
  rintro e w1 ⟨rfl, hq1, hb1⟩
  have HB1 := Lib.hid hb1
  clear hq1 hb1
  go_wp2_with (go_at_call 53; (with_reducible refine (HAL.out _).mono ?_); rintro e w6 ⟨rfl, hb6⟩; (have HB6 := Lib.hid hb6; clear hb6))
  go_ret
  exact ⟨rfl, bl_step HB1.out HB6.out⟩

set_option maxRecDepth 100000 in
set_option maxHeartbeats 1600000 in
theorem cutone_no4 {A B : Option Addr} (la lb ca cb : Nat) (room : Int) (W : World) (h1 : la ≤ 1000) (h3 : 0 < la) (h : lb = 0) :
    Calls Try.prog 8 #[.slice A la ca, .slice B lb cb, .int .i64 room] W fun e w' => e = .returned (.bool true) ∧ Below W.heap.size W w' := by
  have HAL := Lib.hid (fun V => calive_any V)
  subst h
  have z1 : decide ((1000 : Int) < (la : Int)) = false := by simp; omega
  have z3 : ((la : Int) == 0) = false := by simp; omega
  go_enter Try.func8, Try.ntmps8
  go_wp2_with fail
  refine (qnew_any W.heap.size 20000 W (Nat.le_refl _) (by omega) (by omega)).mono ?_
  rintro e w1 ⟨rfl, hq1, hb1⟩
  have HB1 := Lib.hid hb1
  clear hq1 hb1
  go_wp2_with (go_at_call 53; (with_reducible refine (HAL.out _).mono ?_); rintro e w6 ⟨rfl, hb6⟩; (have HB6 := Lib.hid hb6; clear hb6))
  go_ret
  exact ⟨rfl, bl_step HB1.out HB6.out⟩

theorem cutone_every {A B : Option Addr} {a b : List Nat} (la lb ca cb : Nat) (room : Int) (W : World) (hla : a.length = la) (hlb : b.length = lb) (hsa : Src W A (bts a)) (hsb : Src W B (bts b)) (hba : ∀ x ∈ a, x < 256) (hbb : ∀ x ∈ b, x < 256) :
    Calls Try.prog 8 #[.slice A la ca, .slice B lb cb, .int .i64 room] W fun e w' => e = .returned (.bool true) ∧ Below W.heap.size W w' := by
  rcases Nat.lt_or_ge 1000 la with h1 | h1
  · exact cutone_no1 la lb ca cb room W h1
  rcases Nat.lt_or_ge 1000 lb with h2 | h2
  · exact cutone_no2 la lb ca cb room W h1 h2
  rcases Nat.eq_zero_or_pos la with h3 | h3
  · exact cutone_no3 la lb ca cb room W h1 h2 h3
  rcases Nat.eq_zero_or_pos lb with h4 | h4
  · exact cutone_no4 la lb ca cb room W h1 h3 h4
  rcases Int.lt_or_le room la with h5 | h5
  · exact cutone_low la lb ca cb room W hla hlb hsa hsb hba hbb h3 h1 h4 h2 h5
  rcases Int.lt_or_le 4000 room with h6 | h6
  · exact cutone_high la lb ca cb room W hla hlb hsa hsb hba hbb h3 h1 h4 h2 (by omega) h6
  rcases Int.lt_or_le room ((la : Int) + 3) with h7 | h7
  · exact cutone_one la lb ca cb room W hla hlb hsa hsb hba hbb h3 h1 h4 h2 h6 h5 h7
  rcases Int.lt_or_le room ((la : Int) + lb + 2) with h8 | h8
  · exact cutone_some la lb ca cb room W hla hlb hsa hsb hba hbb h3 h1 h4 h2 h6 h7 h8
  · exact cutone_all la lb ca cb room W hla hlb hsa hsb hba hbb h3 h1 h4 h2 h6 h8
end Go.Proofs.Ytjobgnemklpiaaa
namespace Go.Proofs.Ytjobgnemklpiaaa
open Go.ChangeShapes Go.WideShapes Go.ChangeAt Go.RowKit

theorem lawOwn : ownKnob Try.prog.godebug = none := by kernel_rfl
theorem lawLaid : laidOutB Try.prog = true := by kernel_rfl

section
variable {H : Type} {enc : TypeId × Value → H} {P : Program}
/-- what was read in the old world is read in the new one -/
theorem args_stay (hl : laidOutB P = true) {W W' : World} (hb : Below W.heap.size W W') : ∀ (ts : List TypeId) (vs : List Value) (ds : List (DataW H)) (ps : List MemPlace),
    (∀ t ∈ ts, P.readableRec t = true ∧ t < P.types.size) → DataW.TrodAll enc P W 0 (fun _ => true) true ts vs ds ps → (∀ x ∈ ps, x.block < W.heap.size) →
    DataW.TrodAll enc P W' 0 (fun b => decide (b < W.heap.size)) true ts vs ds ps := by
  intro ts
  induction ts with
  | nil =>
    intro vs ds ps _ h _
    obtain ⟨rfl, rfl, rfl⟩ := trodAll_nil h
    exact trodAll_mk0
  | cons t ts ih =>
    intro vs ds ps hr h hlt
    obtain ⟨v, vs', d, ds', p, q, rfl, rfl, rfl, h1, h2⟩ := trodAll_cons h
    have ht := hr t (List.mem_cons_self ..)
    exact trodAll_cons_mk (Below.trod hl ht.1 ht.2 h1 hb fun x hx => hlt x (List.mem_append_left _ hx))
      (ih vs' ds' q (fun u hu => hr u (List.mem_cons_of_mem _ hu)) h2 fun x hx => hlt x (List.mem_append_right _ hx))

theorem law_post {f : Func} {s : ChangeSpec} {W W' : World} {args : Array Value} {ds gs : List (DataW H)} {before : List MemPlace} {B : TypeId}
    (hl : laidOutB P = true) (hr : f.params.toList.all (fun t => P.readableRec t && decide (t < P.types.size)) = true) (hv : s.vars = [])
    (hW : DataW.Whole enc P f.params.toList s.vars false W args.toList ds gs before)
    (hs : s.fn H (ds ++ gs) = { results := [.lit (.bool true)], args := ds }) (ht : f.resultTypes = #[B]) (hB : P.underlying B = some .bool)
    (hb : Below W.heap.size W W') : s.post enc P f false true false false W args (.bool true) W' := by
  have hW' := hW
  obtain ⟨p, q, hA, hV, rfl, _, _⟩ := hW
  rw [hv] at hV
  obtain ⟨rfl, rfl⟩ := trodVars_none hV
  refine ⟨ds, [], p ++ [], [], p, [], hW', ?_, ?_, ?_, hb.frame _, fun h => by cases h⟩
  · rw [hs, ht]
    exact trodAll_mk1 (shut_bool hB true)
  · rw [hs]
    exact args_stay hl hb _ _ _ _ (fun t h => by have := List.all_eq_true.1 hr t h; simpa using this) hA fun x hx => hW'.lt x (List.mem_append_left _ hx)
  · rw [hs, hv]
    exact rfl
end
end Go.Proofs.Ytjobgnemklpiaaa
