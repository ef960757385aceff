/-
  GluePlain walked. A law's row follows from its walk: the call returns true, and below the heap's old size the world is as it was; then every argument reads as it did. How the packets and bytes that a statement draws read. How lists of rows of bytes that a statement draws read.
-/
import Derived.Test.YtjobgnemklpiaaaJGluePlain10
import Derived.StillTailTactics
import Derived.Test.YtjobgnemklpiaaaRows
import Derived.WalkKit
import Derived.ProofKit
import Derived.OpenShut
import Derived.Test.YtjobgnemklpiaaaJGluePlain07
import Derived.SizedLaws
import Derived.Deep.Matrix
import Derived.Lib.SmallJoins
namespace Go.Proofs.Ytjobgnemklpiaaa
open Go.RowKit

theorem pl_count {fs : List (List Nat)} (k : Nat) : longs (fs.take k) ≤ k ∧ (shorts (fs.take k)).length ≤ k ∧ (shorts (fs.take k)).length ≤ (shorts fs).length := by
  refine ⟨?_, ?_, ?_⟩
  · exact Nat.le_trans (List.length_filter_le _ _) (List.length_take_le _ _)
  · exact Nat.le_trans (List.length_filter_le _ _) (List.length_take_le _ _)
  · have h := List.take_append_drop k fs
    have e : (shorts fs).length = (shorts (fs.take k)).length + (shorts (fs.drop k)).length := by
      rw [← List.length_append]
      unfold shorts
      rw [← List.filter_append, h]
    omega
/-- the text that is told for a field -/
theorem pl_at {fs : List (List Nat)} {k : Nat} {f : List Nat} (h : fs[k]? = some f) (hf : okLen f = true) : (shorts fs)[(shorts (fs.take k)).length]? = some f := by
  have e : fs = fs.take k ++ f :: fs.drop (k + 1) := by
    obtain ⟨hk, rfl⟩ := List.getElem?_eq_some_iff.1 h
    rw [← List.drop_eq_getElem_cons hk, List.take_append_drop]
  have e2 : shorts fs = shorts (fs.take k) ++ f :: shorts (fs.drop (k + 1)) := by
    conv => lhs; rw [e]
    unfold shorts
    rw [List.filter_append, List.filter_cons_of_pos hf]
  rw [e2, List.getElem?_append_right (Nat.le_refl _), Nat.sub_self]
  rfl

set_option maxRecDepth 100000 in
set_option maxHeartbeats 3200000 in
theorem gplain_0 {A0 A1 : Option Addr} {l : List Nat} {L : List RowB} (m n c0 c1 : Nat) (W : World) (hlm : l.length = m) (hL : L.length = n) (hc0 : m ≤ c0) (hm0 : c0 ≤ 9223372036854775807) (hs0 : Src W A0 (bts l)) (hb0 : ∀ b ∈ l, b < 256) (hs1 : RSrc W A1 L) (h9 : m ≤ 900) (h40 : n ≤ 40) (hz : m = 0) :
    Calls Try.prog 11 #[.slice A0 m c0, .slice A1 n c1] W fun e w' => e = .returned (.bool true) ∧ Below W.heap.size W w' := by
  subst hz
  have d1 : decide ((900 : Int) < ((0 : Nat) : Int)) = false := decide_eq_false (by omega)
  have d2 : decide ((40 : Int) < (n : Int)) = false := decide_eq_false (by omega)
  have HAL := Lib.hid (fun V => galive_any V)
  have HLM := Lib.hid hlm
  have HLN := Lib.hid hL
  have HS0 := Lib.hid hs0
  have HB0 := Lib.hid hb0
  have HS1 := Lib.hid hs1
  have HBY := Lib.hid (show ∀ r ∈ L, ∀ b ∈ r.bs, b < 256 from fun r hr b hb => by
    obtain ⟨k, hk⟩ := List.getElem?_of_mem hr
    obtain ⟨ad, _, hc⟩ := hs1 (by have := (List.getElem?_eq_some_iff.1 hk).1; omega)
    exact (hc k r hk).2.2.2.2 b hb)
  clear hlm hL hs0 hb0 hs1
  go_enter Try.func11, Try.ntmps11
  go_wp2_with fail
  refine (gnew_any W).mono ?_
  rintro e w1 ⟨rfl, hg1, hbl1⟩
  generalize hp : W.heap.size = p at *
  have HP := Lib.hid hp
  have HG1 := Lib.hid hg1
  have HB1 := Lib.hid hbl1
  clear hg1 hbl1 hp
  have HF := Lib.hid (pl_bad1 (A := A0) (c := c0) HLM.out HG1.out (src_later HS0.out (by rw [HP.out]; exact HB1.out)) (by rw [HLM.out]; exact hc0) hm0 HB0.out rfl)
  go_wp2_with fail
  refine HF.out.mono ?_
  rintro e w2 ⟨rfl, hbl2⟩
  have HG2 := Lib.hid (show GRep p w2 p (.slice none 0 0) ⟨l, 0⟩ from by
    have e : l = [] := List.eq_nil_of_length_eq_zero HLM.out
    rw [e]
    exact HG1.out.later hbl2)
  have HB2 := Lib.hid (HB1.out.trans (hbl2.mono (by have := HG1.out.1.inside; omega)))
  clear hbl2
  rcases hok : okG 0 (lens L) with _ | _
  · have HF2 := Lib.hid (pl_bad2 (A := A1) (c := c1) HLN.out h40 HG2.out (HS1.out.later (by rw [HP.out]; exact HB2.out)) hok)
    clear hok
    go_wp2_with fail
    refine HF2.out.mono ?_
    rintro e w3 ⟨rfl, hbl3⟩
    have HG3 := Lib.hid (HG2.out.later hbl3)
    have HB3 := Lib.hid (HB2.out.trans (hbl3.mono (by have := HG2.out.1.inside; omega)))
    clear hbl3
    have HE := Lib.hid (fun V (h : Below w3.heap.size w3 V) => gheld_any (HG3.out.later h))
    rw [show (⟨l, 0⟩ : GS).held.length = 0 from HLM.out] at HE
    have HO := Lib.hid (fun V (h : Below w3.heap.size w3 V) => glost_any (HG3.out.later h))
    go_wp2_with (first
      | (go_at_call 60; (with_reducible refine (HAL.out _).mono ?_); rintro e w4 ⟨rfl, hbl4⟩; (have HB4 := Lib.hid hbl4; clear hbl4))
      | (go_at_call 63; (with_reducible refine (HE.out _ HB4.out).mono ?_); rintro e wx ⟨rfl, rfl⟩)
      | (go_at_call 64; (with_reducible refine (HO.out _ HB4.out).mono ?_); rintro e wx ⟨rfl, rfl⟩))
    go_ret
    refine ⟨ret_bool (by simp; try omega), ?_⟩
    rw [HP.out]
    exact HB3.out.trans (HB4.out.mono (by have := HG3.out.1.inside; omega))
  · have HF2 := Lib.hid (pl_ok2 (A := A1) (c := c1) HLN.out HG2.out (fun V hV => HS1.out.later (by rw [HP.out]; exact HB2.out.trans hV)) hok (by rw [HLM.out]; exact h9) HB0.out)
    clear hok
    go_wp2_with fail
    refine HF2.out.mono ?_
    rintro e w3 ⟨hv3, A3, L3, rfl, ht3, hg3, hs3, hbl3⟩
    have hn1 : (if l.length = 0 then 0 else 1) = 0 := by rw [HLM.out]; rw [if_pos rfl]
    rw [hn1] at hg3
    have HT3 := Lib.hid ht3
    have HG3 := Lib.hid hg3
    have HS3 := Lib.hid hs3
    have HB3 := Lib.hid (HB2.out.trans hbl3)
    have HR := Lib.hid (HS1.out.later (by rw [HP.out]; exact HB3.out))
    have HCN := Lib.hid (fun k => pl_count (fs := texts L) k)
    have HSH := Lib.hid (show (shorts (texts L)).length ≤ n from by
      have h := (pl_count (fs := texts L) n).2.1
      rwa [List.take_of_length_le (by rw [length_texts, HLN.out]; omega)] at h)
    clear ht3 hg3 hs3 hbl3 hn1
    generalize hN3 : (shorts (texts L)).length = n3 at *
    have HN3 := Lib.hid hN3
    clear hN3
    go_wp2
    go_loopw [11, 12, 13] (fun at_ lost i wr => ∃ k : Nat, k ≤ n ∧ at_ = .int .i64 ((shorts ((texts L).take k)).length : Nat) ∧ lost = .int .i64 ((0 + longs ((texts L).take k) : Nat) : Int) ∧ i = .int .i64 k ∧ Below w3.heap.size w3 wr) (fun _ _ i _ => n - (intOf i).toNat)
    case atStart => exact ⟨0, by omega, rfl, rfl, rfl, Below.refl _ _⟩
    case round =>
      obtain ⟨k, hk, rfl, rfl, rfl, hbr⟩ := hrel
      have HBR := Lib.hid hbr
      clear hbr
      by_cases hlt : k < n
      · obtain ⟨r, hr⟩ : ∃ r, L[k]? = some r := ⟨_, List.getElem?_eq_getElem (by rw [HLN.out]; exact hlt)⟩
        obtain ⟨a1, rfl, hc⟩ := (HR.out.later HBR.out) (by rw [HLN.out]; omega)
        obtain ⟨q1, q2⟩ := hc k r hr
        unfold RowB.v at q1
        have htx := texts_at hr
        have ht := pl_take htx
        have hlong := longs_snoc ((texts L).take k) r.bs
        have hshort := congrArg List.length (shorts_snoc ((texts L).take k) r.bs)
        rw [← ht] at hlong hshort
        rw [List.length_append] at hshort
        obtain ⟨u1, u2, u3⟩ := HCN.out k
        obtain ⟨v1, v2, v3⟩ := HCN.out (k + 1)
        have hat := pl_at (fs := texts L) htx
        generalize hX : (shorts ((texts L).take k)).length = x at *
        generalize hY : longs ((texts L).take k) = y at *
        generalize hX1 : (shorts ((texts L).take (k + 1))).length = x1 at *
        generalize hY1 : longs ((texts L).take (k + 1)) = y1 at *
        have HX1 := Lib.hid hX1
        have HY1 := Lib.hid hY1
        clear hX hY hX1 hY1 ht htx
        have hi0 : (0 : Int) ≤ (k : Int) := by omega
        have hi1 : (k : Int) < (n : Int) := by omega
        by_cases hl : r.bs.length ≤ 1000
        · have hokl : okLen r.bs = true := by unfold okLen; exact decide_eq_true hl
          rw [if_pos hokl] at hlong hshort
          have hshort2 : x1 = x + 1 := hshort
          have hat1 := hat hokl
          have hxn : x < n3 := by omega
          rw [← HT3.out] at hat1
          obtain ⟨r3, hr3, hr3b⟩ : ∃ r3, L3[x]? = some r3 ∧ r3.bs = r.bs := by
            unfold texts at hat1
            rw [List.getElem?_map] at hat1
            cases h9 : L3[x]? with
            | none => rw [h9] at hat1; cases hat1
            | some r3 => rw [h9] at hat1; exact ⟨r3, rfl, by simpa using hat1⟩
          obtain ⟨a3, rfl, hc3⟩ := (HS3.out.later HBR.out) (by have := (List.getElem?_eq_some_iff.1 hr3).1; omega)
          obtain ⟨p1, p2⟩ := hc3 x r3 hr3
          unfold RowB.v at p1
          have hbyt := HBY.out r (List.mem_of_getElem? hr)
          have cv1 := conv_src (w := wr.drew) (A := r.A) (l := r.bs) r.bs.length r.cap rfl q2.1 hbyt
          have cv3 := conv_src (w := wr.drew) (A := r3.A) (l := r3.bs) r3.bs.length r3.cap rfl p2.1 (by rw [hr3b]; exact hbyt)
          rw [hr3b] at p1 cv3
          have g1 : decide ((1000 : Int) < (r.bs.length : Int)) = false := decide_eq_false (by omega)
          have g2 : decide ((n3 : Int) ≤ (x : Int)) = false := decide_eq_false (by omega)
          have hx0 : (0 : Int) ≤ (x : Int) := by omega
          have hx1 : (x : Int) < (n3 : Int) := by omega
          generalize r.bs.length = bl at *
          generalize strOf r.bs = st at *
          clear hc hc3 hat hat1 hr hr3 hr3b hbyt p2 q2 hokl hshort
          go_wp2
          have p1' : wr.drew.cell? (a3.add x) = some (.slice r3.A bl r3.cap) := p1
          have q1' : wr.drew.cell? (a1.add k) = some (.slice r.A bl r.cap) := q1
          have HB9 := Lib.hid (bl_drew HBR.out)
          refine wp_region_still_lit (by kernel_rfl) (by kernel_rfl) ?_
          change wpStill _ _ wr.drew (fun b => _) _ _
          generalize wr.drew = w9 at p1' q1' cv1 cv3 ⊢
          repeat still_step
          refine wpStill_nil ?_
          go_wp2_with fail
          go_roundw
          case rel => exact ⟨k + 1, by omega, by rw [HX1.out, hshort2]; go_num, by rw [HY1.out, hlong]; go_num, by go_num, HB9.out⟩
          case measure => simp [intOf]; omega
        · have hokl : ¬ okLen r.bs = true := by unfold okLen; simp; omega
          rw [if_neg hokl] at hlong hshort
          have hshort2 : x1 = x := hshort
          have g1 : decide ((1000 : Int) < (r.bs.length : Int)) = true := decide_eq_true (by omega)
          generalize r.bs.length = bl at *
          clear hc hat hr q2 hokl hshort
          go_wp2
          go_roundw
          case rel => exact ⟨k + 1, by omega, by rw [HX1.out, hshort2], by rw [HY1.out, hlong]; go_num, by go_num, HBR.out⟩
          case measure => simp [intOf]; omega
      · have hkn : k = n := by omega
        subst hkn
        have ht : (texts L).take k = texts L := List.take_of_length_le (by rw [length_texts, HLN.out]; omega)
        have HGR := Lib.hid (HG3.out.later HBR.out)
        have HE := Lib.hid (fun V (h : Below wr.heap.size wr V) => gheld_any (HGR.out.later h))
        have HO := Lib.hid (fun V (h : Below wr.heap.size wr V) => glost_any (HGR.out.later h))
        rw [ht, HN3.out]
        generalize hY : longs (texts L) = y at *
        go_wp2_with (first
          | (go_at_call 60; (with_reducible refine (HAL.out _).mono ?_); rintro e w4 ⟨rfl, hbl4⟩; (have HB4 := Lib.hid hbl4; clear hbl4))
          | (go_at_call 63; (with_reducible refine (HE.out _ HB4.out).mono ?_); rintro e wx ⟨rfl, rfl⟩)
          | (go_at_call 64; (with_reducible refine (HO.out _ HB4.out).mono ?_); rintro e wx ⟨rfl, rfl⟩))
        go_ret
        refine ⟨ret_bool (by simp), ?_⟩
        rw [HP.out]
        exact (HB3.out.trans (HBR.out.mono (by have := HG3.out.1.inside; omega))).trans (HB4.out.mono (by have := HGR.out.1.inside; omega))

set_option maxRecDepth 100000 in
set_option maxHeartbeats 3200000 in
theorem gplain_1 {A0 A1 : Option Addr} {l : List Nat} {L : List RowB} (m n c0 c1 : Nat) (W : World) (hlm : l.length = m) (hL : L.length = n) (hc0 : m ≤ c0) (hm0 : c0 ≤ 9223372036854775807) (hs0 : Src W A0 (bts l)) (hb0 : ∀ b ∈ l, b < 256) (hs1 : RSrc W A1 L) (h9 : m ≤ 900) (h40 : n ≤ 40) (hz : m ≠ 0) :
    Calls Try.prog 11 #[.slice A0 m c0, .slice A1 n c1] W fun e w' => e = .returned (.bool true) ∧ Below W.heap.size W w' := by
  skip
  have d1 : decide ((900 : Int) < ((m : Nat) : Int)) = false := decide_eq_false (by omega)
  have d2 : decide ((40 : Int) < (n : Int)) = false := decide_eq_false (by omega)
  have HAL := Lib.hid (fun V => galive_any V)
  have HLM := Lib.hid hlm
  have HLN := Lib.hid hL
  have HS0 := Lib.hid hs0
  have HB0 := Lib.hid hb0
  have HS1 := Lib.hid hs1
  have HBY := Lib.hid (show ∀ r ∈ L, ∀ b ∈ r.bs, b < 256 from fun r hr b hb => by
    obtain ⟨k, hk⟩ := List.getElem?_of_mem hr
    obtain ⟨ad, _, hc⟩ := hs1 (by have := (List.getElem?_eq_some_iff.1 hk).1; omega)
    exact (hc k r hk).2.2.2.2 b hb)
  clear hlm hL hs0 hb0 hs1
  go_enter Try.func11, Try.ntmps11
  go_wp2_with fail
  refine (gnew_any W).mono ?_
  rintro e w1 ⟨rfl, hg1, hbl1⟩
  generalize hp : W.heap.size = p at *
  have HP := Lib.hid hp
  have HG1 := Lib.hid hg1
  have HB1 := Lib.hid hbl1
  clear hg1 hbl1 hp
  have HF := Lib.hid (pl_ok1 (A := A0) (c := c0) HLM.out HG1.out (fun V hV => src_later HS0.out (by rw [HP.out]; exact HB1.out.trans hV)) (by rw [HLM.out]; exact hc0) hm0 HB0.out hz h9)
  go_wp2_with fail
  refine HF.out.mono ?_
  rintro e w2 ⟨hv2, A2, rfl, hg2, hbl2⟩
  have HG2 := Lib.hid hg2
  have HB2 := Lib.hid (HB1.out.trans hbl2)
  clear hbl2 hg2
  rcases hok : okG 0 (lens L) with _ | _
  · have HF2 := Lib.hid (pl_bad2 (A := A1) (c := c1) HLN.out h40 HG2.out (HS1.out.later (by rw [HP.out]; exact HB2.out)) hok)
    clear hok
    go_wp2_with fail
    refine HF2.out.mono ?_
    rintro e w3 ⟨rfl, hbl3⟩
    have HG3 := Lib.hid (HG2.out.later hbl3)
    have HB3 := Lib.hid (HB2.out.trans (hbl3.mono (by have := HG2.out.1.inside; omega)))
    clear hbl3
    have HE := Lib.hid (fun V (h : Below w3.heap.size w3 V) => gheld_any (HG3.out.later h))
    rw [show (⟨l, 0⟩ : GS).held.length = m from HLM.out] at HE
    have HO := Lib.hid (fun V (h : Below w3.heap.size w3 V) => glost_any (HG3.out.later h))
    go_wp2_with (first
      | (go_at_call 60; (with_reducible refine (HAL.out _).mono ?_); rintro e w4 ⟨rfl, hbl4⟩; (have HB4 := Lib.hid hbl4; clear hbl4))
      | (go_at_call 63; (with_reducible refine (HE.out _ HB4.out).mono ?_); rintro e wx ⟨rfl, rfl⟩)
      | (go_at_call 64; (with_reducible refine (HO.out _ HB4.out).mono ?_); rintro e wx ⟨rfl, rfl⟩))
    go_ret
    refine ⟨ret_bool (by simp; try omega), ?_⟩
    rw [HP.out]
    exact HB3.out.trans (HB4.out.mono (by have := HG3.out.1.inside; omega))
  · have HF2 := Lib.hid (pl_ok2 (A := A1) (c := c1) HLN.out HG2.out (fun V hV => HS1.out.later (by rw [HP.out]; exact HB2.out.trans hV)) hok (by rw [HLM.out]; exact h9) HB0.out)
    clear hok
    go_wp2_with fail
    refine HF2.out.mono ?_
    rintro e w3 ⟨hv3, A3, L3, rfl, ht3, hg3, hs3, hbl3⟩
    have hn1 : (if l.length = 0 then 0 else 1) = 1 := by rw [HLM.out]; rw [if_neg hz]
    rw [hn1] at hg3
    have HT3 := Lib.hid ht3
    have HG3 := Lib.hid hg3
    have HS3 := Lib.hid hs3
    have HB3 := Lib.hid (HB2.out.trans hbl3)
    have HR := Lib.hid (HS1.out.later (by rw [HP.out]; exact HB3.out))
    have HCN := Lib.hid (fun k => pl_count (fs := texts L) k)
    have HSH := Lib.hid (show (shorts (texts L)).length ≤ n from by
      have h := (pl_count (fs := texts L) n).2.1
      rwa [List.take_of_length_le (by rw [length_texts, HLN.out]; omega)] at h)
    clear ht3 hg3 hs3 hbl3 hn1
    generalize hN3 : (shorts (texts L)).length = n3 at *
    have HN3 := Lib.hid hN3
    clear hN3
    go_wp2
    go_loopw [11, 12, 13] (fun at_ lost i wr => ∃ k : Nat, k ≤ n ∧ at_ = .int .i64 ((shorts ((texts L).take k)).length : Nat) ∧ lost = .int .i64 ((1 + longs ((texts L).take k) : Nat) : Int) ∧ i = .int .i64 k ∧ Below w3.heap.size w3 wr) (fun _ _ i _ => n - (intOf i).toNat)
    case atStart => exact ⟨0, by omega, rfl, rfl, rfl, Below.refl _ _⟩
    case round =>
      obtain ⟨k, hk, rfl, rfl, rfl, hbr⟩ := hrel
      have HBR := Lib.hid hbr
      clear hbr
      by_cases hlt : k < n
      · obtain ⟨r, hr⟩ : ∃ r, L[k]? = some r := ⟨_, List.getElem?_eq_getElem (by rw [HLN.out]; exact hlt)⟩
        obtain ⟨a1, rfl, hc⟩ := (HR.out.later HBR.out) (by rw [HLN.out]; omega)
        obtain ⟨q1, q2⟩ := hc k r hr
        unfold RowB.v at q1
        have htx := texts_at hr
        have ht := pl_take htx
        have hlong := longs_snoc ((texts L).take k) r.bs
        have hshort := congrArg List.length (shorts_snoc ((texts L).take k) r.bs)
        rw [← ht] at hlong hshort
        rw [List.length_append] at hshort
        obtain ⟨u1, u2, u3⟩ := HCN.out k
        obtain ⟨v1, v2, v3⟩ := HCN.out (k + 1)
        have hat := pl_at (fs := texts L) htx
        generalize hX : (shorts ((texts L).take k)).length = x at *
        generalize hY : longs ((texts L).take k) = y at *
        generalize hX1 : (shorts ((texts L).take (k + 1))).length = x1 at *
        generalize hY1 : longs ((texts L).take (k + 1)) = y1 at *
        have HX1 := Lib.hid hX1
        have HY1 := Lib.hid hY1
        clear hX hY hX1 hY1 ht htx
        have hi0 : (0 : Int) ≤ (k : Int) := by omega
        have hi1 : (k : Int) < (n : Int) := by omega
        by_cases hl : r.bs.length ≤ 1000
        · have hokl : okLen r.bs = true := by unfold okLen; exact decide_eq_true hl
          rw [if_pos hokl] at hlong hshort
          have hshort2 : x1 = x + 1 := hshort
          have hat1 := hat hokl
          have hxn : x < n3 := by omega
          rw [← HT3.out] at hat1
          obtain ⟨r3, hr3, hr3b⟩ : ∃ r3, L3[x]? = some r3 ∧ r3.bs = r.bs := by
            unfold texts at hat1
            rw [List.getElem?_map] at hat1
            cases h9 : L3[x]? with
            | none => rw [h9] at hat1; cases hat1
            | some r3 => rw [h9] at hat1; exact ⟨r3, rfl, by simpa using hat1⟩
          obtain ⟨a3, rfl, hc3⟩ := (HS3.out.later HBR.out) (by have := (List.getElem?_eq_some_iff.1 hr3).1; omega)
          obtain ⟨p1, p2⟩ := hc3 x r3 hr3
          unfold RowB.v at p1
          have hbyt := HBY.out r (List.mem_of_getElem? hr)
          have cv1 := conv_src (w := wr.drew) (A := r.A) (l := r.bs) r.bs.length r.cap rfl q2.1 hbyt
          have cv3 := conv_src (w := wr.drew) (A := r3.A) (l := r3.bs) r3.bs.length r3.cap rfl p2.1 (by rw [hr3b]; exact hbyt)
          rw [hr3b] at p1 cv3
          have g1 : decide ((1000 : Int) < (r.bs.length : Int)) = false := decide_eq_false (by omega)
          have g2 : decide ((n3 : Int) ≤ (x : Int)) = false := decide_eq_false (by omega)
          have hx0 : (0 : Int) ≤ (x : Int) := by omega
          have hx1 : (x : Int) < (n3 : Int) := by omega
          generalize r.bs.length = bl at *
          generalize strOf r.bs = st at *
          clear hc hc3 hat hat1 hr hr3 hr3b hbyt p2 q2 hokl hshort
          go_wp2
          have p1' : wr.drew.cell? (a3.add x) = some (.slice r3.A bl r3.cap) := p1
          have q1' : wr.drew.cell? (a1.add k) = some (.slice r.A bl r.cap) := q1
          have HB9 := Lib.hid (bl_drew HBR.out)
          refine wp_region_still_lit (by kernel_rfl) (by kernel_rfl) ?_
          change wpStill _ _ wr.drew (fun b => _) _ _
          generalize wr.drew = w9 at p1' q1' cv1 cv3 ⊢
          repeat still_step
          refine wpStill_nil ?_
          go_wp2_with fail
          go_roundw
          case rel => exact ⟨k + 1, by omega, by rw [HX1.out, hshort2]; go_num, by rw [HY1.out, hlong]; go_num, by go_num, HB9.out⟩
          case measure => simp [intOf]; omega
        · have hokl : ¬ okLen r.bs = true := by unfold okLen; simp; omega
          rw [if_neg hokl] at hlong hshort
          have hshort2 : x1 = x := hshort
          have g1 : decide ((1000 : Int) < (r.bs.length : Int)) = true := decide_eq_true (by omega)
          generalize r.bs.length = bl at *
          clear hc hat hr q2 hokl hshort
          go_wp2
          go_roundw
          case rel => exact ⟨k + 1, by omega, by rw [HX1.out, hshort2], by rw [HY1.out, hlong]; go_num, by go_num, HBR.out⟩
          case measure => simp [intOf]; omega
      · have hkn : k = n := by omega
        subst hkn
        have ht : (texts L).take k = texts L := List.take_of_length_le (by rw [length_texts, HLN.out]; omega)
        have HGR := Lib.hid (HG3.out.later HBR.out)
        have HE := Lib.hid (fun V (h : Below wr.heap.size wr V) => gheld_any (HGR.out.later h))
        have HO := Lib.hid (fun V (h : Below wr.heap.size wr V) => glost_any (HGR.out.later h))
        rw [ht, HN3.out]
        generalize hY : longs (texts L) = y at *
        go_wp2_with (first
          | (go_at_call 60; (with_reducible refine (HAL.out _).mono ?_); rintro e w4 ⟨rfl, hbl4⟩; (have HB4 := Lib.hid hbl4; clear hbl4))
          | (go_at_call 63; (with_reducible refine (HE.out _ HB4.out).mono ?_); rintro e wx ⟨rfl, rfl⟩)
          | (go_at_call 64; (with_reducible refine (HO.out _ HB4.out).mono ?_); rintro e wx ⟨rfl, rfl⟩))
        go_ret
        refine ⟨ret_bool (by simp), ?_⟩
        rw [HP.out]
        exact (HB3.out.trans (HBR.out.mono (by have := HG3.out.1.inside; omega))).trans (HB4.out.mono (by have := HGR.out.1.inside; omega))

set_option maxRecDepth 100000 in
set_option maxHeartbeats 800000 in
theorem gplain_guard {A0 A1 : Option Addr} (m n c0 c1 : Nat) (W : World) (hm0 : m ≤ 9223372036854775807) (hn0 : n ≤ 9223372036854775807) (h : 900 < m ∨ 40 < n) :
    Calls Try.prog 11 #[.slice A0 m c0, .slice A1 n c1] W fun e w' => e = .returned (.bool true) ∧ Below W.heap.size W w' := by
  have HAL := Lib.hid (fun V => galive_any V)
  by_cases h9 : 900 < m
  · have d1 : decide ((900 : Int) < (m : Int)) = true := decide_eq_true (by omega)
    clear h
    go_enter Try.func11, Try.ntmps11
    go_wp2_with (first
      | (go_at_call 61; (with_reducible refine (gnew_any W).mono ?_); rintro e w1 ⟨rfl, hg1, hbl1⟩; (have HB1 := Lib.hid hbl1; clear hg1 hbl1))
      | (go_at_call 60; (with_reducible refine (HAL.out _).mono ?_); rintro e w4 ⟨rfl, hbl4⟩; (have HB4 := Lib.hid hbl4; clear hbl4)))
    go_ret
    exact ⟨rfl, bl_step HB1.out HB4.out⟩
  · have d1 : decide ((900 : Int) < (m : Int)) = false := decide_eq_false (by omega)
    have d2 : decide ((40 : Int) < (n : Int)) = true := decide_eq_true (by omega)
    clear h
    go_enter Try.func11, Try.ntmps11
    go_wp2_with (first
      | (go_at_call 61; (with_reducible refine (gnew_any W).mono ?_); rintro e w1 ⟨rfl, hg1, hbl1⟩; (have HB1 := Lib.hid hbl1; clear hg1 hbl1))
      | (go_at_call 60; (with_reducible refine (HAL.out _).mono ?_); rintro e w4 ⟨rfl, hbl4⟩; (have HB4 := Lib.hid hbl4; clear hbl4)))
    go_ret
    exact ⟨rfl, bl_step HB1.out HB4.out⟩
theorem gplain_all {A0 A1 : Option Addr} {l : List Nat} {L : List RowB} (c0 c1 : Nat) (W : World) (hc0 : l.length ≤ c0) (hm0 : c0 ≤ 9223372036854775807) (hs0 : Src W A0 (bts l)) (hb0 : ∀ b ∈ l, b < 256) (hc1 : L.length ≤ c1) (hm1 : c1 ≤ 9223372036854775807) (hs1 : RSrc W A1 L) :
    Calls Try.prog 11 #[.slice A0 l.length c0, .slice A1 L.length c1] W fun e w' => e = .returned (.bool true) ∧ Below W.heap.size W w' := by
  by_cases h : 900 < l.length ∨ 40 < L.length
  · exact gplain_guard _ _ c0 c1 W (by omega) (by omega) h
  · by_cases hz : l.length = 0
    · exact gplain_0 _ _ c0 c1 W rfl rfl hc0 hm0 hs0 hb0 hs1 (by omega) (by omega) hz
    · exact gplain_1 _ _ c0 c1 W rfl rfl hc0 hm0 hs0 hb0 hs1 (by omega) (by omega) hz
end Go.Proofs.Ytjobgnemklpiaaa
namespace Go.Proofs.Ytjobgnemklpiaaa
open Go.ChangeShapes Go.WideShapes Go.ChangeAt Go.RowKit

theorem lawOwn : ownKnob Try.prog.godebug = none := by kernel_rfl
theorem lawLaid : laidOutB Try.prog = true := by kernel_rfl

section
variable {H : Type} {enc : TypeId × Value → H} {P : Program}
/-- what was read in the old world is read in the new one -/
theorem args_stay (hl : laidOutB P = true) {W W' : World} (hb : Below W.heap.size W W') : ∀ (ts : List TypeId) (vs : List Value) (ds : List (DataW H)) (ps : List MemPlace),
    (∀ t ∈ ts, P.readableRec t = true ∧ t < P.types.size) → DataW.TrodAll enc P W 0 (fun _ => true) true ts vs ds ps → (∀ x ∈ ps, x.block < W.heap.size) →
    DataW.TrodAll enc P W' 0 (fun b => decide (b < W.heap.size)) true ts vs ds ps := by
  intro ts
  induction ts with
  | nil =>
    intro vs ds ps _ h _
    obtain ⟨rfl, rfl, rfl⟩ := trodAll_nil h
    exact trodAll_mk0
  | cons t ts ih =>
    intro vs ds ps hr h hlt
    obtain ⟨v, vs', d, ds', p, q, rfl, rfl, rfl, h1, h2⟩ := trodAll_cons h
    have ht := hr t (List.mem_cons_self ..)
    exact trodAll_cons_mk (Below.trod hl ht.1 ht.2 h1 hb fun x hx => hlt x (List.mem_append_left _ hx))
      (ih vs' ds' q (fun u hu => hr u (List.mem_cons_of_mem _ hu)) h2 fun x hx => hlt x (List.mem_append_right _ hx))

theorem law_post {f : Func} {s : ChangeSpec} {W W' : World} {args : Array Value} {ds gs : List (DataW H)} {before : List MemPlace} {B : TypeId}
    (hl : laidOutB P = true) (hr : f.params.toList.all (fun t => P.readableRec t && decide (t < P.types.size)) = true) (hv : s.vars = [])
    (hW : DataW.Whole enc P f.params.toList s.vars false W args.toList ds gs before)
    (hs : s.fn H (ds ++ gs) = { results := [.lit (.bool true)], args := ds }) (ht : f.resultTypes = #[B]) (hB : P.underlying B = some .bool)
    (hb : Below W.heap.size W W') : s.post enc P f false true false false W args (.bool true) W' := by
  have hW' := hW
  obtain ⟨p, q, hA, hV, rfl, _, _⟩ := hW
  rw [hv] at hV
  obtain ⟨rfl, rfl⟩ := trodVars_none hV
  refine ⟨ds, [], p ++ [], [], p, [], hW', ?_, ?_, ?_, hb.frame _, fun h => by cases h⟩
  · rw [hs, ht]
    exact trodAll_mk1 (shut_bool hB true)
  · rw [hs]
    exact args_stay hl hb _ _ _ _ (fun t h => by have := List.all_eq_true.1 hr t h; simpa using this) hA fun x hx => hW'.lt x (List.mem_append_left _ hx)
  · rw [hs, hv]
    exact rfl
end
end Go.Proofs.Ytjobgnemklpiaaa
namespace Go.Proofs.Ytjobgnemklpiaaa
open Go.ChangeShapes Go.WideShapes Go.ChangeAt Go.RowKit Go.Deep


theorem Try.cells5 : Try.prog.cellsOf 5 = 1 := by kernel_rfl
theorem Try.cells61 : Try.prog.cellsOf 61 = 1 := by kernel_rfl
theorem nums_src {W : World} {a : Addr} {cap len : Nat} {zs : List Int} (hl : len ≤ cap) (hz : zs.length = cap) (hc : ∀ j, j < cap → W.cell? (a.add j) = some (.int .u8 (zs.getD j 0))) (hw : ∀ n ∈ zs, (Lit.int .u8 n).wf = true) :
    ((zs.take len).map Int.toNat).length = len ∧ Src W (some a) (bts ((zs.take len).map Int.toNat)) ∧ ∀ b ∈ (zs.take len).map Int.toNat, b < 256 := by
  have hlen : ((zs.take len).map Int.toNat).length = len := by rw [List.length_map, List.length_take]; omega
  refine ⟨hlen, fun h0 => ⟨a, rfl, fun j u hu => ?_⟩, fun b hb => ?_⟩
  · have hj : j < len := by
      have h1 := (List.getElem?_eq_some_iff.1 hu).1
      rw [length_bts, hlen] at h1
      exact h1
    have h2 := hc j (by omega)
    rw [h2]
    have hjz : j < zs.length := by omega
    have hww := bounds_u8 (hw zs[j] (List.getElem_mem hjz))
    have h3 : ((zs.take len).map Int.toNat)[j]? = some zs[j].toNat := by
      rw [List.getElem?_map, List.getElem?_take, if_pos hj, List.getElem?_eq_getElem hjz]
      rfl
    have h4 := bts_at h3
    rw [h4] at hu
    injection hu with hu
    rw [← hu, List.getD_eq_getElem?_getD, List.getElem?_eq_getElem hjz]
    simp only [Option.getD_some]
    rw [Int.toNat_of_nonneg hww.1]
  · rw [List.mem_map] at hb
    obtain ⟨z, hz2, rfl⟩ := hb
    have hww := bounds_u8 (hw z (List.mem_of_mem_take hz2))
    omega
set_option maxRecDepth 100000 in
theorem bytes_arg {H : Type} {enc : TypeId × Value → H} {W : World} {base : Nat} {v : Value} {d : DataW H} {p : List MemPlace} (hok : Value.okWide Try.prog W .any base 61 v)
    (h : DataW.Trod enc Try.prog W 0 (fun _ => true) true 61 v d p) : ∃ (A : Option Addr) (cap : Nat) (l : List Nat), v = .slice A l.length cap ∧ l.length ≤ cap ∧ cap ≤ 9223372036854775807 ∧ Src W A (bts l) ∧ ∀ b ∈ l, b < 256 := by
  obtain ⟨a0, len, cap, rfl⟩ := okWide_slice Try.underlying61 hok
  obtain ⟨fuel, hf⟩ := h
  rcases open_ints Try.underlying61 Try.underlying5 Try.cells5 hf with ⟨hcs, _⟩ | ⟨a, len', cap', zs, hcs, _, hl, hm, hz, _, hcell, hwz⟩
  · simp only [Value.cells] at hcs
    have e : Value.slice a0 len cap = .slice none 0 0 := by simpa using hcs
    rw [e]
    exact ⟨none, 0, [], rfl, Nat.le_refl _, by omega, fun h0 => absurd h0 (by simp [bts]), fun b hb => by cases hb⟩
  · have e : Value.slice a0 len cap = .slice (some a) len' cap' := by simpa [Value.cells] using hcs
    rw [e]
    have hz' : zs.length = cap' := by simpa using hz
    obtain ⟨h1, h2, h3⟩ := nums_src (W := W) (a := a) hl hz' (fun j hj => hcell j (by omega)) hwz
    exact ⟨some a, cap', _, by rw [h1], by omega, by unfold maxLen at hm; exact hm, h2, h3⟩
set_option maxRecDepth 100000 in
theorem rows_cells {H : Type} {enc : TypeId × Value → H} {W : World} {fuel : Nat} {v : Value} {y : DataW H × List MemPlace} (hf : DataW.trod enc Try.prog W 0 (fun _ => true) true fuel 57 [v] = some y) :
    ∃ (A : Option Addr) (cap : Nat) (L : List RowB), v = .slice A L.length cap ∧ L.length ≤ cap ∧ cap ≤ 9223372036854775807 ∧ RSrc W A L ∧ ∀ m ∈ lens L, m ≤ 9223372036854775807 := by
  rcases open_int_rows Try.underlying57 Try.underlying61 Try.underlying5 Try.cells61 Try.cells5 hf with ⟨hcs, _⟩ | ⟨a, len', cap', A, L, C, Z, hcs, _, hl, hm, _, hx⟩
  · have e : v = .slice none 0 0 := by simpa [Value.cells] using hcs
    rw [e]
    exact ⟨none, 0, [], rfl, Nat.le_refl _, by omega, fun h0 => absurd h0 (by simp), fun m hm => by cases hm⟩
  · have e : v = .slice (some a) len' cap' := by simpa [Value.cells] using hcs
    rw [e]
    have hlen : ((List.range len').map fun k => (⟨A k, C k, ((Z k).take (L k)).map Int.toNat⟩ : RowB)).length = len' := by simp
    have hrow : ∀ k r, ((List.range len').map fun k => (⟨A k, C k, ((Z k).take (L k)).map Int.toNat⟩ : RowB))[k]? = some r → W.cell? (a.add k) = some r.v ∧ r.ok W := by
      intro k r hr
      have hk : k < len' := by
        have h1 := (List.getElem?_eq_some_iff.1 hr).1
        rw [hlen] at h1
        exact h1
      have hr' : r = ⟨A k, C k, ((Z k).take (L k)).map Int.toNat⟩ := by
        rw [List.getElem?_map, List.getElem?_range hk] at hr
        simp only [Option.map_some, Option.some.injEq] at hr
        exact hr.symm
      subst hr'
      obtain ⟨h1, h2, h3, h4, h5, h6, h7⟩ := hx k (by omega)
      unfold maxLen at h3
      have hll : (((Z k).take (L k)).map Int.toNat).length = L k := by rw [List.length_map, List.length_take]; omega
      refine ⟨by rw [h1]; show _ = some (Value.slice (A k) (((Z k).take (L k)).map Int.toNat).length (C k)); rw [hll], ?_⟩
      cases hA : A k with
      | none =>
        have hc0 := h6 hA
        have hl0 : L k = 0 := by omega
        refine ⟨fun h0 => ?_, by rw [hll]; exact h2, h3, fun b hb => ?_⟩
        · rw [length_bts, hll] at h0; omega
        · rw [hl0] at hb; simp at hb
      | some a' =>
        obtain ⟨_, hc⟩ := h7 a' hA
        obtain ⟨_, g2, g3⟩ := nums_src (W := W) h2 h4 hc h5
        exact ⟨g2, by rw [hll]; exact h2, h3, g3⟩
    refine ⟨some a, cap', (List.range len').map fun k => ⟨A k, C k, ((Z k).take (L k)).map Int.toNat⟩, by rw [hlen], by omega, by unfold maxLen at hm; exact hm, fun h0 => ⟨a, rfl, hrow⟩, fun m hm2 => ?_⟩
    obtain ⟨k, hk⟩ := List.getElem?_of_mem hm2
    simp only [lens, List.getElem?_map, Option.map_eq_some_iff] at hk
    obtain ⟨r, hr, rfl⟩ := hk
    have h9 := (hrow k r (by rw [List.getElem?_map, Option.map_eq_some_iff]; exact hr)).2
    have := h9.2.1
    have := h9.2.2.1
    omega
set_option maxRecDepth 100000 in
/-- a packet of umd as it came in -/
theorem upack_arg {H : Type} {enc : TypeId × Value → H} {W : World} {base : Nat} {v : Value} {d : DataW H} {p : List MemPlace} (hok : Value.okWide Try.prog W .any base 152 v)
    (h : DataW.Trod enc Try.prog W 0 (fun _ => true) true 152 v d p) : ∃ (fi sn : Int) (A : Option Addr) (cap : Nat) (L : List RowB), v = .agg #[.int .i64 fi, .int .i64 sn, .slice A L.length cap] ∧ L.length ≤ cap ∧ cap ≤ 9223372036854775807 ∧ RSrc W A L ∧ ∀ m ∈ lens L, m ≤ 9223372036854775807 := by
  obtain ⟨v0, v1, v2, y0, y1, y2, k, rfl, _, _, h0, h1, h2⟩ := Joins.open_agg3 Try.underlying152 (by kernel_rfl) (by kernel_rfl) hok h
  obtain ⟨A, cap, L, rfl, g1, g2, g3, g4⟩ := rows_cells h2
  obtain ⟨fi, rfl⟩ : ∃ fi, v0 = .int .i64 fi := by
    obtain ⟨n, h9, _⟩ := DataW.trod_int Try.underlying3 h0
    exact ⟨n, by simpa using h9⟩
  obtain ⟨sn, rfl⟩ : ∃ sn, v1 = .int .i64 sn := by
    obtain ⟨n, h9, _⟩ := DataW.trod_int Try.underlying3 h1
    exact ⟨n, by simpa using h9⟩
  exact ⟨fi, sn, A, cap, L, rfl, g1, g2, g3, g4⟩
end Go.Proofs.Ytjobgnemklpiaaa
namespace Go.Proofs.Ytjobgnemklpiaaa
open Go.ChangeShapes Go.WideShapes Go.ChangeAt Go.RowKit Go.Deep

set_option maxRecDepth 100000 in
theorem rows_arg {H : Type} {enc : TypeId × Value → H} {W : World} {base : Nat} {v : Value} {d : DataW H} {p : List MemPlace} (hok : Value.okWide Try.prog W .any base 57 v)
    (h : DataW.Trod enc Try.prog W 0 (fun _ => true) true 57 v d p) : ∃ (A : Option Addr) (cap : Nat) (L : List RowB), v = .slice A L.length cap ∧ L.length ≤ cap ∧ cap ≤ 9223372036854775807 ∧ RSrc W A L ∧ ∀ m ∈ lens L, m ≤ 9223372036854775807 := by
  obtain ⟨a0, len, cap, rfl⟩ := okWide_slice Try.underlying57 hok
  obtain ⟨fuel, hf⟩ := h
  exact rows_cells hf
end Go.Proofs.Ytjobgnemklpiaaa
