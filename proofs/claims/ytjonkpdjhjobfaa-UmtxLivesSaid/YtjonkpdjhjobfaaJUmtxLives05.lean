/-
  The document's Write. Rows of bytes as they came in; how they are gone through. status: how the statuses that a statement draws read. pdu: numbers keep to their limits. pdu: which configs may be.
-/
import Derived.Test.YtjonkpdjhjobfaaJUmtxLives03
import Derived.Test.YtjonkpdjhjobfaaJUmtxLives04
import Derived.StillTailTactics
import Derived.SizedLaws
import Derived.Deep.Matrix
import Derived.Lib.SmallJoins
import Derived.OpenShut
import Derived.Deep.Slices
import Derived.Test.YtjonkpdjhjobfaaJUmtxLives02
namespace Go.Proofs.Ytjonkpdjhjobfaa
open Go.RowKit

theorem own_down {B B' : Nat} {e : TypeId} {size n : Nat} {w : World} {x : Value} {xs : List Value} (h : w.ownsRow B e size x n xs) (hb : B' ≤ B) : w.ownsRow B' e size x n xs := by
  refine ⟨h.1, ?_⟩
  rcases h.2 with h0 | ⟨g, cap, cur, rfl, h1, h2⟩
  · exact .inl h0
  · exact .inr ⟨g, cap, cur, rfl, Nat.le_trans hb h1, h2⟩

set_option maxRecDepth 100000 in
set_option maxHeartbeats 3200000 in
theorem refwrite_11 {A : Option Addr} {l : List Int} (n cap : Nat) (w : World) (hn : l.length = n) (hm : n ≤ maxLen) (hs : Src w A (ins l)) :
    Calls Try.prog 174 #[.slice A n cap, .int .i64 11] w fun e w' => ((faultF l 11 = 0 ∧ ∃ x, e = .returned (.tuple #[x, .int .i64 0]) ∧ w'.ownsRow w.heap.size 5 1 x (packLen (n * (11 + 1))) (bts (pack (wbl 11 (l.map Int.toNat))))) ∨ (faultF l 11 ≠ 0 ∧ e = .returned (.tuple #[.slice none 0 0, .int .i64 (faultF l 11)]))) ∧ Below w.heap.size w w' := by
  obtain ⟨i0, hi, hi0, hi1, hi2⟩ := info_parts Try.info4
  have HS := Lib.hid hs
  have HN := Lib.hid hn
  unfold maxLen at hm
  clear hs hn
  rcases Nat.eq_zero_or_pos n with h0 | h0
  · have HF := Lib.hid (show faultF l 11 = 4 by unfold faultF; rw [HN.out, if_pos h0])
    subst h0
    go_enter Try.func174, Try.ntmps174
    go_wp2
    exact bodyPost_ret (v := .tuple #[.slice none 0 0, .int .i64 4]) (by simp [results, Try.results174, go_sem]) rfl ⟨.inr (by rw [HF.out]; exact ⟨by decide, rfl⟩), Below.refl _ _⟩
  · have hz : ((n : Int) == 0) = false := by simp; omega
    rcases Nat.lt_or_ge 23 n with h1 | h1
    · have HF := Lib.hid (show faultF l 11 = 2 by unfold faultF; rw [HN.out, if_neg (by omega), if_pos h1])
      have h1' : (23 : Int) < (n : Int) := by omega
      go_enter Try.func174, Try.ntmps174
      go_wp2
      exact bodyPost_ret (v := .tuple #[.slice none 0 0, .int .i64 2]) (by simp [results, Try.results174, go_sem]) rfl ⟨.inr (by rw [HF.out]; exact ⟨by decide, rfl⟩), Below.refl _ _⟩
    · have h1' : ¬ (23 : Int) < (n : Int) := by omega
      have HF := Lib.hid (show faultF l 11 = if l.all (mayL 11) then 0 else 1 by unfold faultF; rw [HN.out, if_neg (by omega), if_neg (by omega)])
      have HWB := Lib.hid (wbk_all 11 (l.map Int.toNat))
      rw [List.length_map, HN.out] at HWB
      have HTP := Lib.hid (fun W => (show Calls Try.prog 207 #[.int .i64 11] W fun e w' => e = .returned (.int .i64 2048) ∧ W = w' from top_ok 11 (by omega) W))
      go_enter Try.func174, Try.ntmps174
      go_wp2
      go_loopw [6, 7] (fun o i wr => ∃ k : Nat, k ≤ n ∧ i = .int .i64 k ∧ Hid ((l.take k).all (mayL 11) = true) ∧ Hid (OwnB w.heap.size wr o (wbk 11 (l.map Int.toNat) k)) ∧ Hid (Below w.heap.size w wr)) (fun _ i _ => n - (intOf i).toNat)
      case atStart => exact ⟨0, by omega, rfl, Lib.hid rfl, Lib.hid (OwnB.nil _ _), Lib.hid (Below.refl _ _)⟩
      case round =>
        obtain ⟨k, hk, rfl, HK, HO, HB⟩ := hrel
        obtain ⟨A6, c6, rfl⟩ := HO.out.form
        have hbl : (wbk 11 (l.map Int.toNat) k).length ≤ 400 := by
          rw [length_wbk]
          have := Nat.mul_le_mul_right (11 + 1) hk
          omega
        by_cases hlt : k < n
        · have hkl : k < l.length := by have := HN.out; omega
          have hx : l[k]? = some l[k] := List.getElem?_eq_getElem hkl
          obtain ⟨ad, rfl, hc⟩ := HS.out (by rw [length_ins]; omega)
          have hcell0 := hc _ _ (ins_at hx)
          have hcell := cell_below HB.out hcell0
          have htk : (l.take (k + 1)).all (mayL 11) = mayL 11 l[k] := by
            rw [List.take_succ_eq_append_getElem hkl, List.all_append, HK.out]
            simp
          have hall : mayL 11 l[k] = false → l.all (mayL 11) = false := fun h => by
            rw [← Bool.not_eq_true, List.all_eq_true]
            intro hh
            rw [hh l[k] (List.getElem_mem hkl)] at h
            cases h
          have HX := Lib.hid (show wbk 11 (l.map Int.toNat) (k + 1) = (wbk 11 (l.map Int.toNat) k ++ [decide (k + 1 < n)]) ++ unval l[k].toNat 11 by
            rw [wbk, List.getD_eq_getElem?_getD, List.getElem?_map, hx, List.length_map, HN.out]
            simp)
          generalize l[k] = x at *
          have HT := Lib.hid htk
          have HA := Lib.hid hall
          have hlt2 : (k : Int) < (n : Int) := by omega
          have hk0 : (0 : Int) ≤ (k : Int) := by omega
          have HC0 := Lib.hid hcell0
          clear hc hx htk hall hcell0
          by_cases h2 : x < 1
          · have HE := Lib.hid (HA.out (by unfold mayL; rw [decide_eq_false (by omega)]; rfl))
            have h2d : decide (x < 1) = true := decide_eq_true h2
            go_wp2_with fail
            go_quiet (fail)
            go_wp2_with fail
            exact bodyPost_ret (v := .tuple #[.slice none 0 0, .int .i64 1]) (by simp [results, Try.results174, go_sem]) rfl ⟨.inr (by rw [HF.out, HE.out]; exact ⟨by decide, rfl⟩), below_drewN HB.out _⟩
          · have h2d : decide (x < 1) = false := decide_eq_false h2
            by_cases h3 : 2048 ≤ x
            · have HE := Lib.hid (HA.out (by unfold mayL; rw [decide_eq_false (show ¬ x < 2 ^ 11 by simp only [show (2 : Int) ^ 11 = 2048 from rfl]; omega)]; simp))
              go_wp2_with fail
              refine wp_region_still_lit (by kernel_rfl) (by kernel_rfl) ?_
              change wpStill _ _ wr.drew (fun b => _) _ _
              have d0 : wr.drew.cell? (ad.add k) = some (.int .i64 x) := hcell
              clear hcell
              generalize wr.drew = w9 at d0 ⊢
              repeat still_step
              still_call ((HTP.out w9).mono fun _ _ h => ⟨h.1, h.2.symm⟩)
              repeat still_step
              refine wpStill_nil ?_
              go_wp2_with fail
              exact bodyPost_ret (v := .tuple #[.slice none 0 0, .int .i64 1]) (by simp [results, Try.results174, go_sem]) rfl ⟨.inr (by rw [HF.out, HE.out]; exact ⟨by decide, rfl⟩), bl_drew HB.out⟩
            · obtain ⟨y, rfl⟩ : ∃ y : Nat, x = y := ⟨x.toNat, by omega⟩
              have HE := Lib.hid (show mayL 11 (y : Int) = true by unfold mayL; rw [decide_eq_true (show (1 : Int) ≤ y by omega), decide_eq_true (show (y : Int) < 2 ^ 11 by simp only [show (2 : Int) ^ 11 = 2048 from rfl]; omega)]; rfl)
              have h3d : decide ((2048 : Int) ≤ (y : Int)) = false := decide_eq_false (by omega)
              have HY15 := Lib.hid (show y < 2048 by omega)
              clear h3
              have hcellD : wr.drew.cell? (ad.add k) = some (.int .i64 y) := hcell
              have hyw : IntKind.u64.wrap (y : Int) = (y : Int) := by rw [IntKind.wrap_u64]; have := HY15.out; omega
              have HOD := Lib.hid (show OwnB w.heap.size wr.drew (.slice A6 (wbk 11 (l.map Int.toNat) k).length c6) (wbk 11 (l.map Int.toNat) k) from HO.out.later (bl_drew (Below.refl _ _)))
              have HBD := Lib.hid (bl_drew HB.out)
              rw [Int.toNat_natCast] at HX
              generalize hbits : wbk 11 (l.map Int.toNat) k = bits at *
              have hbd : decide ((k : Int) + 1 < (n : Int)) = decide (k + 1 < n) := by
                apply decide_eq_decide.2
                omega
              have HBD2 := Lib.hid hbd
              clear hbd hbits
              go_wp2_with fail
              refine wp_region_still_lit (by kernel_rfl) (by kernel_rfl) ?_
              change wpStill _ _ wr.drew (fun b => _) _ _
              have d0 : wr.drew.cell? (ad.add k) = some (.int .i64 y) := hcell
              clear hcell
              generalize wr.drew = w9 at d0 ⊢
              repeat still_step
              still_call ((HTP.out w9).mono fun _ _ h => ⟨h.1, h.2.symm⟩)
              repeat still_step
              refine wpStill_nil ?_
              go_wp2_with (at_builtin; go_loud (refine wpList_append_lies _ rfl _ _ _ (by rfl) w.heap.size 4 i0 (.bool false) 1 1 Try.underlying50 hi hi0 hi1 hi2 rfl (by omega) (.slice A6 bits.length c6) bits.length _ (by rfl) (HOD.out.1.alloc _) ⟨wr.drew.heap.size, 0, none⟩ 1 1 [.bool (decide ((k : Int) + 1 < (n : Int)))] (by rfl) (by rfl) (cell_one_new _ _ _) (fun u hu => by simp at hu; subst hu; rfl) (by omega) (by unfold maxLen; omega) (by omega) (by have := HBD.out.size; simp at this ⊢; omega) (wr.drew.heap.size + 1) (by simp) ?_))
              intro g cap2 w2 hown2 hgrow _ _
              have H2 := Lib.hid (OwnB.more HOD.out HBD.out HBD.out.size hown2 hgrow)
              have hc2 := cell_below H2.out.2 HC0.out
              have HK2 := Lib.hid (show (l.take (k + 1)).all (mayL 11) = true by rw [HT.out, HE.out])
              rw [HBD2.out] at H2
              generalize decide (k + 1 < n) = nx at *
              have HPU := Lib.hid (show Calls Try.prog 95 #[.slice (some ⟨g, 0, none⟩) (bits.length + 1) cap2, .int .u64 y, .int .i64 11] w2 fun e w' => ∃ x', e = .returned (.tuple #[x', .int .i64 0]) ∧ OwnB w2.heap.size w' x' ((bits ++ [nx]) ++ unval y 11) ∧ Below w2.heap.size w2 w' from refput_ok y 11 H2.out.1 (by omega) (Nat.lt_of_lt_of_le HY15.out (by decide)) (by simp; omega) (by have := HY15.out; omega))
              clear hown2 hgrow
              go_wp2_with (go_at_call 95; refine HPU.out.mono ?_; rintro e w3 ⟨x3, rfl, ho3, hb3⟩; have HO3 := Lib.hid ho3; have HB3 := Lib.hid (H2.out.2.trans (hb3.mono H2.out.2.size)); clear ho3 hb3)
              go_roundw
              case rel => exact ⟨k + 1, by omega, by go_num, HK2, Lib.hid (by rw [HX.out]; exact ⟨own_down HO3.out.1 (H2.out.2.size), HO3.out.2⟩), HB3⟩
              case measure => simp [intOf]; omega
        · obtain rfl : k = n := by omega
          have HK2 := Lib.hid (show l.all (mayL 11) = true by have := HK.out; rwa [← HN.out, List.take_length] at this)
          have HBL := Lib.hid (length_wbk 11 (l.map Int.toNat) k)
          rw [HWB.out] at HO HBL hbl ⊢
          generalize hbits : wbl 11 (l.map Int.toNat) = bits at *
          have HBI := Lib.hid hbits
          have HBY := Lib.hid (refbytes_any c6 HO.out.src (by omega))
          clear hbits hbl hlt hk
          go_wp2_with (go_at_call 97; refine HBY.out.mono ?_; rintro e w6 ⟨x6, rfl, ho6, hb6⟩; have HO6 := Lib.hid ho6; have HB6 := Lib.hid hb6; clear ho6 hb6)
          refine bodyPost_ret (v := .tuple #[x6, .int .i64 0]) (by simp [results, Try.results174, go_sem]) rfl ⟨.inl ⟨by rw [HF.out, HK2.out]; rfl, x6, rfl, ?_⟩, bl_step' HB.out (HB6.out.mono HB.out.size)⟩
          have h9 := HO6.out
          rw [HBL.out, ← HBI.out] at h9
          exact own_down h9 HB.out.size

set_option maxRecDepth 100000 in
set_option maxHeartbeats 3200000 in
theorem refwrite_15 {A : Option Addr} {l : List Int} (n cap : Nat) (w : World) (hn : l.length = n) (hm : n ≤ maxLen) (hs : Src w A (ins l)) :
    Calls Try.prog 174 #[.slice A n cap, .int .i64 15] w fun e w' => ((faultF l 15 = 0 ∧ ∃ x, e = .returned (.tuple #[x, .int .i64 0]) ∧ w'.ownsRow w.heap.size 5 1 x (packLen (n * (15 + 1))) (bts (pack (wbl 15 (l.map Int.toNat))))) ∨ (faultF l 15 ≠ 0 ∧ e = .returned (.tuple #[.slice none 0 0, .int .i64 (faultF l 15)]))) ∧ Below w.heap.size w w' := by
  obtain ⟨i0, hi, hi0, hi1, hi2⟩ := info_parts Try.info4
  have HS := Lib.hid hs
  have HN := Lib.hid hn
  unfold maxLen at hm
  clear hs hn
  rcases Nat.eq_zero_or_pos n with h0 | h0
  · have HF := Lib.hid (show faultF l 15 = 4 by unfold faultF; rw [HN.out, if_pos h0])
    subst h0
    go_enter Try.func174, Try.ntmps174
    go_wp2
    exact bodyPost_ret (v := .tuple #[.slice none 0 0, .int .i64 4]) (by simp [results, Try.results174, go_sem]) rfl ⟨.inr (by rw [HF.out]; exact ⟨by decide, rfl⟩), Below.refl _ _⟩
  · have hz : ((n : Int) == 0) = false := by simp; omega
    rcases Nat.lt_or_ge 23 n with h1 | h1
    · have HF := Lib.hid (show faultF l 15 = 2 by unfold faultF; rw [HN.out, if_neg (by omega), if_pos h1])
      have h1' : (23 : Int) < (n : Int) := by omega
      go_enter Try.func174, Try.ntmps174
      go_wp2
      exact bodyPost_ret (v := .tuple #[.slice none 0 0, .int .i64 2]) (by simp [results, Try.results174, go_sem]) rfl ⟨.inr (by rw [HF.out]; exact ⟨by decide, rfl⟩), Below.refl _ _⟩
    · have h1' : ¬ (23 : Int) < (n : Int) := by omega
      have HF := Lib.hid (show faultF l 15 = if l.all (mayL 15) then 0 else 1 by unfold faultF; rw [HN.out, if_neg (by omega), if_neg (by omega)])
      have HWB := Lib.hid (wbk_all 15 (l.map Int.toNat))
      rw [List.length_map, HN.out] at HWB
      have HTP := Lib.hid (fun W => (show Calls Try.prog 207 #[.int .i64 15] W fun e w' => e = .returned (.int .i64 32768) ∧ W = w' from top_ok 15 (by omega) W))
      go_enter Try.func174, Try.ntmps174
      go_wp2
      go_loopw [6, 7] (fun o i wr => ∃ k : Nat, k ≤ n ∧ i = .int .i64 k ∧ Hid ((l.take k).all (mayL 15) = true) ∧ Hid (OwnB w.heap.size wr o (wbk 15 (l.map Int.toNat) k)) ∧ Hid (Below w.heap.size w wr)) (fun _ i _ => n - (intOf i).toNat)
      case atStart => exact ⟨0, by omega, rfl, Lib.hid rfl, Lib.hid (OwnB.nil _ _), Lib.hid (Below.refl _ _)⟩
      case round =>
        obtain ⟨k, hk, rfl, HK, HO, HB⟩ := hrel
        obtain ⟨A6, c6, rfl⟩ := HO.out.form
        have hbl : (wbk 15 (l.map Int.toNat) k).length ≤ 400 := by
          rw [length_wbk]
          have := Nat.mul_le_mul_right (15 + 1) hk
          omega
        by_cases hlt : k < n
        · have hkl : k < l.length := by have := HN.out; omega
          have hx : l[k]? = some l[k] := List.getElem?_eq_getElem hkl
          obtain ⟨ad, rfl, hc⟩ := HS.out (by rw [length_ins]; omega)
          have hcell0 := hc _ _ (ins_at hx)
          have hcell := cell_below HB.out hcell0
          have htk : (l.take (k + 1)).all (mayL 15) = mayL 15 l[k] := by
            rw [List.take_succ_eq_append_getElem hkl, List.all_append, HK.out]
            simp
          have hall : mayL 15 l[k] = false → l.all (mayL 15) = false := fun h => by
            rw [← Bool.not_eq_true, List.all_eq_true]
            intro hh
            rw [hh l[k] (List.getElem_mem hkl)] at h
            cases h
          have HX := Lib.hid (show wbk 15 (l.map Int.toNat) (k + 1) = (wbk 15 (l.map Int.toNat) k ++ [decide (k + 1 < n)]) ++ unval l[k].toNat 15 by
            rw [wbk, List.getD_eq_getElem?_getD, List.getElem?_map, hx, List.length_map, HN.out]
            simp)
          generalize l[k] = x at *
          have HT := Lib.hid htk
          have HA := Lib.hid hall
          have hlt2 : (k : Int) < (n : Int) := by omega
          have hk0 : (0 : Int) ≤ (k : Int) := by omega
          have HC0 := Lib.hid hcell0
          clear hc hx htk hall hcell0
          by_cases h2 : x < 1
          · have HE := Lib.hid (HA.out (by unfold mayL; rw [decide_eq_false (by omega)]; rfl))
            have h2d : decide (x < 1) = true := decide_eq_true h2
            go_wp2_with fail
            go_quiet (fail)
            go_wp2_with fail
            exact bodyPost_ret (v := .tuple #[.slice none 0 0, .int .i64 1]) (by simp [results, Try.results174, go_sem]) rfl ⟨.inr (by rw [HF.out, HE.out]; exact ⟨by decide, rfl⟩), below_drewN HB.out _⟩
          · have h2d : decide (x < 1) = false := decide_eq_false h2
            by_cases h3 : 32768 ≤ x
            · have HE := Lib.hid (HA.out (by unfold mayL; rw [decide_eq_false (show ¬ x < 2 ^ 15 by simp only [show (2 : Int) ^ 15 = 32768 from rfl]; omega)]; simp))
              go_wp2_with fail
              refine wp_region_still_lit (by kernel_rfl) (by kernel_rfl) ?_
              change wpStill _ _ wr.drew (fun b => _) _ _
              have d0 : wr.drew.cell? (ad.add k) = some (.int .i64 x) := hcell
              clear hcell
              generalize wr.drew = w9 at d0 ⊢
              repeat still_step
              still_call ((HTP.out w9).mono fun _ _ h => ⟨h.1, h.2.symm⟩)
              repeat still_step
              refine wpStill_nil ?_
              go_wp2_with fail
              exact bodyPost_ret (v := .tuple #[.slice none 0 0, .int .i64 1]) (by simp [results, Try.results174, go_sem]) rfl ⟨.inr (by rw [HF.out, HE.out]; exact ⟨by decide, rfl⟩), bl_drew HB.out⟩
            · obtain ⟨y, rfl⟩ : ∃ y : Nat, x = y := ⟨x.toNat, by omega⟩
              have HE := Lib.hid (show mayL 15 (y : Int) = true by unfold mayL; rw [decide_eq_true (show (1 : Int) ≤ y by omega), decide_eq_true (show (y : Int) < 2 ^ 15 by simp only [show (2 : Int) ^ 15 = 32768 from rfl]; omega)]; rfl)
              have h3d : decide ((32768 : Int) ≤ (y : Int)) = false := decide_eq_false (by omega)
              have HY15 := Lib.hid (show y < 32768 by omega)
              clear h3
              have hcellD : wr.drew.cell? (ad.add k) = some (.int .i64 y) := hcell
              have hyw : IntKind.u64.wrap (y : Int) = (y : Int) := by rw [IntKind.wrap_u64]; have := HY15.out; omega
              have HOD := Lib.hid (show OwnB w.heap.size wr.drew (.slice A6 (wbk 15 (l.map Int.toNat) k).length c6) (wbk 15 (l.map Int.toNat) k) from HO.out.later (bl_drew (Below.refl _ _)))
              have HBD := Lib.hid (bl_drew HB.out)
              rw [Int.toNat_natCast] at HX
              generalize hbits : wbk 15 (l.map Int.toNat) k = bits at *
              have hbd : decide ((k : Int) + 1 < (n : Int)) = decide (k + 1 < n) := by
                apply decide_eq_decide.2
                omega
              have HBD2 := Lib.hid hbd
              clear hbd hbits
              go_wp2_with fail
              refine wp_region_still_lit (by kernel_rfl) (by kernel_rfl) ?_
              change wpStill _ _ wr.drew (fun b => _) _ _
              have d0 : wr.drew.cell? (ad.add k) = some (.int .i64 y) := hcell
              clear hcell
              generalize wr.drew = w9 at d0 ⊢
              repeat still_step
              still_call ((HTP.out w9).mono fun _ _ h => ⟨h.1, h.2.symm⟩)
              repeat still_step
              refine wpStill_nil ?_
              go_wp2_with (at_builtin; go_loud (refine wpList_append_lies _ rfl _ _ _ (by rfl) w.heap.size 4 i0 (.bool false) 1 1 Try.underlying50 hi hi0 hi1 hi2 rfl (by omega) (.slice A6 bits.length c6) bits.length _ (by rfl) (HOD.out.1.alloc _) ⟨wr.drew.heap.size, 0, none⟩ 1 1 [.bool (decide ((k : Int) + 1 < (n : Int)))] (by rfl) (by rfl) (cell_one_new _ _ _) (fun u hu => by simp at hu; subst hu; rfl) (by omega) (by unfold maxLen; omega) (by omega) (by have := HBD.out.size; simp at this ⊢; omega) (wr.drew.heap.size + 1) (by simp) ?_))
              intro g cap2 w2 hown2 hgrow _ _
              have H2 := Lib.hid (OwnB.more HOD.out HBD.out HBD.out.size hown2 hgrow)
              have hc2 := cell_below H2.out.2 HC0.out
              have HK2 := Lib.hid (show (l.take (k + 1)).all (mayL 15) = true by rw [HT.out, HE.out])
              rw [HBD2.out] at H2
              generalize decide (k + 1 < n) = nx at *
              have HPU := Lib.hid (show Calls Try.prog 95 #[.slice (some ⟨g, 0, none⟩) (bits.length + 1) cap2, .int .u64 y, .int .i64 15] w2 fun e w' => ∃ x', e = .returned (.tuple #[x', .int .i64 0]) ∧ OwnB w2.heap.size w' x' ((bits ++ [nx]) ++ unval y 15) ∧ Below w2.heap.size w2 w' from refput_ok y 15 H2.out.1 (by omega) (Nat.lt_of_lt_of_le HY15.out (by decide)) (by simp; omega) (by have := HY15.out; omega))
              clear hown2 hgrow
              go_wp2_with (go_at_call 95; refine HPU.out.mono ?_; rintro e w3 ⟨x3, rfl, ho3, hb3⟩; have HO3 := Lib.hid ho3; have HB3 := Lib.hid (H2.out.2.trans (hb3.mono H2.out.2.size)); clear ho3 hb3)
              go_roundw
              case rel => exact ⟨k + 1, by omega, by go_num, HK2, Lib.hid (by rw [HX.out]; exact ⟨own_down HO3.out.1 (H2.out.2.size), HO3.out.2⟩), HB3⟩
              case measure => simp [intOf]; omega
        · obtain rfl : k = n := by omega
          have HK2 := Lib.hid (show l.all (mayL 15) = true by have := HK.out; rwa [← HN.out, List.take_length] at this)
          have HBL := Lib.hid (length_wbk 15 (l.map Int.toNat) k)
          rw [HWB.out] at HO HBL hbl ⊢
          generalize hbits : wbl 15 (l.map Int.toNat) = bits at *
          have HBI := Lib.hid hbits
          have HBY := Lib.hid (refbytes_any c6 HO.out.src (by omega))
          clear hbits hbl hlt hk
          go_wp2_with (go_at_call 97; refine HBY.out.mono ?_; rintro e w6 ⟨x6, rfl, ho6, hb6⟩; have HO6 := Lib.hid ho6; have HB6 := Lib.hid hb6; clear ho6 hb6)
          refine bodyPost_ret (v := .tuple #[x6, .int .i64 0]) (by simp [results, Try.results174, go_sem]) rfl ⟨.inl ⟨by rw [HF.out, HK2.out]; rfl, x6, rfl, ?_⟩, bl_step' HB.out (HB6.out.mono HB.out.size)⟩
          have h9 := HO6.out
          rw [HBL.out, ← HBI.out] at h9
          exact own_down h9 HB.out.size

end Go.Proofs.Ytjonkpdjhjobfaa
namespace Go.Proofs.Ytjonkpdjhjobfaa
open Go.RowKit


/-- bytes that lie in a row of rows -/
structure RowB where
  A : Option Addr
  cap : Nat
  bs : List Nat
def RowB.ok (W : World) (r : RowB) : Prop := Src W r.A (bts r.bs) ∧ r.bs.length ≤ r.cap ∧ r.cap ≤ 9223372036854775807 ∧ ∀ b ∈ r.bs, b < 256
def RowB.v (r : RowB) : Value := .slice r.A r.bs.length r.cap
def RSrc (W : World) (A : Option Addr) (L : List RowB) : Prop :=
  0 < L.length → ∃ ad, A = some ad ∧ ∀ k r, L[k]? = some r → W.cell? (ad.add k) = some r.v ∧ r.ok W
def lens (L : List RowB) : List Nat := L.map fun r => r.bs.length
def texts (L : List RowB) : List (List Nat) := L.map fun r => r.bs
theorem length_lens (L : List RowB) : (lens L).length = L.length := by simp [lens]
theorem lens_at {L : List RowB} {k : Nat} {r : RowB} (h : L[k]? = some r) : (lens L)[k]? = some r.bs.length := by simp [lens, h]
theorem src_later {w v : World} {A : Option Addr} {xs : List Value} (h : Src w A xs) (hb : Below w.heap.size w v) : Src v A xs := by
  intro h0
  obtain ⟨ad, rfl, hc⟩ := h h0
  exact ⟨ad, rfl, fun j u hu => cell_below hb (hc j u hu)⟩
theorem RowB.ok.later {w v : World} {r : RowB} (h : r.ok w) (hb : Below w.heap.size w v) : r.ok v := ⟨src_later h.1 hb, h.2⟩
theorem RSrc.later {w v : World} {A : Option Addr} {L : List RowB} (h : RSrc w A L) (hb : Below w.heap.size w v) : RSrc v A L := by
  intro h0
  obtain ⟨ad, hA, hc⟩ := h h0
  exact ⟨ad, hA, fun k r hr => ⟨cell_below hb (hc k r hr).1, (hc k r hr).2.later hb⟩⟩
theorem RSrc.take {w : World} {A : Option Addr} {L : List RowB} (h : RSrc w A L) (n : Nat) : RSrc w A (L.take n) := by
  intro h0
  obtain ⟨ad, hA, hc⟩ := h (by rw [List.length_take] at h0; omega)
  refine ⟨ad, hA, fun k r hr => hc k r ?_⟩
  rw [List.getElem?_take] at hr
  split at hr
  · exact hr
  · cases hr

theorem enters {f : FuncId} {fn : Func} {c : Code} (hf : Try.prog.funcs[f]? = some fn) (hname : (fn.name == "runtime.NumGoroutine") = false) (hb : fn.body = some c) (args : Array Value) (w : World) :
    (callFunc f args).run Try.prog w = .ok (.enter f args) w := by
  have h1 : fn.name ≠ "runtime.NumGoroutine" := by simpa using hname
  simp [callFunc, hf, h1, hb]
theorem addr_zero (ad : Addr) : ad.add 0 = ad := by simp [Addr.add]

set_option maxRecDepth 100000 in
set_option maxHeartbeats 1600000 in
theorem each_any {K : Nat} {caps : Array Value} {A : Option Addr} {L : List RowB} (n cap : Nat) (hcf : ∀ (args : Array Value) (w : World), (callFunc K args).run Try.prog w = .ok (.enter K args) w) (Inv : Nat → World → Prop) (Stop : World → Prop) (w : World) (hL : L.length = n) (hn : n ≤ 9223372036854775807) (h0 : Inv 0 w)
    (hsrc : ∀ k W, Inv k W → RSrc W A L)
    (hstep : ∀ k W r, L[k]? = some r → Inv k W → Calls Try.prog K (#[.int .i64 k, .slice r.A r.bs.length r.cap] ++ caps) W fun e W' => (e = .returned (.bool true) ∧ Inv (k + 1) W') ∨ (e = .returned (.bool false) ∧ Stop W')) :
    Calls Try.prog 182 #[.slice A n cap, .func (.func K) #[] caps] w fun e w' => (e = .returned (.bool true) ∧ Inv n w') ∨ (e = .returned (.bool false) ∧ Stop w') := by
  have HR := Lib.hid hsrc
  have HS := Lib.hid hstep
  have H0 := Lib.hid h0
  have HL := Lib.hid hL
  clear hsrc hstep h0 hL
  go_enter Try.func182, Try.ntmps182
  go_wp2
  refine wp_scope_jumps 0 (fun a' w' => ∃ k : Nat, k ≤ n ∧ Fr [some (.slice A n cap), some (.func (.func K) #[] caps), none, none, some (.bool false), some (.int .i64 k), none, none, none, none, none, none, none, none, none, none, none, none, none, none] a' ∧ Inv k w') (fun a' _ => n - (intOf (a'.tmps.getD 5 undef)).toNat) rfl ?_ ?_
  · rcases Nat.eq_zero_or_pos n with hk0 | hk0
    · subst hk0
      go_wp2
      go_step3
      go_wp2
      simp only [Exit.jump]
      go_ret
      exact .inl ⟨rfl, H0.out⟩
    · obtain ⟨ad, rfl, hcell⟩ := HR.out 0 w H0.out (by rw [HL.out]; exact hk0)
      obtain ⟨r, hy⟩ : ∃ r, L[0]? = some r := ⟨_, List.getElem?_eq_getElem (by rw [HL.out]; exact hk0)⟩
      have c0 : w.cell? ad = some (.slice r.A r.bs.length r.cap) := by have h9 := (hcell 0 r hy).1; rw [addr_zero] at h9; exact h9
      have HC := Lib.hid (HS.out 0 w r hy H0.out)
      have hk0i : (0 : Int) < (n : Int) := by omega
      clear hcell hy
      skip
      all_goals
        go_wp2
        go_step3
        go_wp2_with fail
        refine (HC.out).mono ?_
        rintro e w1 (⟨rfl, hi⟩ | ⟨rfl, hs⟩)
        · go_wp2_with fail
          go_step3
          refine ⟨rfl, 1, by omega, ?_, hi⟩
          simp only [Fr, Holes]
          repeat apply Exists.intro
          rfl
        · go_wp2_with fail
          simp only [Exit.jump]
          go_ret
          exact .inr ⟨rfl, hs⟩
  · rintro a' w' ⟨k, hk, hfr, hinv⟩
    simp only [Fr, Holes] at hfr
    repeat (obtain ⟨_, hfr⟩ := hfr)
    rcases Nat.lt_or_ge k n with hlt | hge
    · obtain ⟨ad, rfl, hcell⟩ := HR.out k w' hinv (by rw [HL.out]; omega)
      obtain ⟨r, hy⟩ : ∃ r, L[k]? = some r := ⟨_, List.getElem?_eq_getElem (by rw [HL.out]; exact hlt)⟩
      have c0 : w'.cell? (ad.add k) = some (.slice r.A r.bs.length r.cap) := (hcell k r hy).1
      have HC := Lib.hid (HS.out k w' r hy hinv)
      have HI := Lib.hid hinv
      clear hcell hy hinv
      skip
      all_goals
        go_wp2_with fail
        refine (HC.out).mono ?_
        rintro e w1 (⟨rfl, hi⟩ | ⟨rfl, hs⟩)
        · go_wp2_with fail
          go_step3
          refine ⟨rfl, ⟨k + 1, by omega, ?_, hi⟩, ?_⟩
          · simp only [Fr, Holes]
            repeat apply Exists.intro
            rfl
          · simp [intOf]
            omega
        · go_wp2_with fail
          simp only [Exit.jump]
          go_ret
          exact .inr ⟨rfl, hs⟩
    · obtain rfl : k = n := by omega
      go_wp2
      simp only [Exit.jump]
      go_ret
      exact .inl ⟨rfl, hinv⟩
end Go.Proofs.Ytjonkpdjhjobfaa
namespace Go.Proofs.Ytjonkpdjhjobfaa
open Go.ChangeShapes Go.WideShapes Go.ChangeAt Go.RowKit Go.Deep

theorem add_plain (b o j : Nat) : (⟨b, o, none⟩ : Addr).add j = ⟨b, o + j, none⟩ := by
  unfold Addr.add
  split
  · rename_i h
    subst h
    rfl
  · rfl
theorem st_agg_field {H : Type} {enc : TypeId × Value → H} {P : Program} {w : World} {base b0 : Nat} {spare : Nat → Bool} {held : Bool} {r : Reach} {t : TypeId} {fs : Array Field} {v : Value} {d : DataW H} {p : List MemPlace}
    (hs : P.underlying t = some (.struct fs)) (hone : oneCellFields P fs = true) (hC : P.cellsOf t = fs.size) (hv : Value.okWide P w r b0 t v) (h : DataW.Trod enc P w base spare held t v d p) :
    ∃ cs : Array Value, v = .agg cs ∧ cs.size = fs.size ∧ ∃ n, ∀ (j : Nat) (f : Field), fs[j]? = some f → ∃ (x : Value) (y : DataW H × List MemPlace), cs[j]? = some x ∧ DataW.trod enc P w base spare held n f.type [x] = some y := by
  obtain ⟨cs, rfl, hsz⟩ := okWide_struct hs hv
  obtain ⟨fuel, hf⟩ := h
  obtain ⟨xs, n, _, _, _, hlen, hg⟩ := DataW.trod_struct hs hf
  refine ⟨cs, rfl, hsz.trans hC, n, fun j f hj => ?_⟩
  obtain ⟨ho, hk⟩ := hone_of hone j f hj
  have hjl : j < fs.size := (Array.getElem?_eq_some_iff.1 hj).1
  have hjc : j < cs.size := by rw [hsz, hC]; exact hjl
  have hjx : j < xs.length := by omega
  refine ⟨cs[j], xs[j], Array.getElem?_eq_getElem hjc, ?_⟩
  have h1 := hg j f hj
  rw [ho, hk, List.getElem?_eq_getElem hjx] at h1
  have e : ((Value.agg cs).cells.toList.drop j).take 1 = [cs[j]] := by
    simp only [Value.cells]
    rw [List.drop_eq_getElem_cons (by simpa using hjc)]
    simp
  rw [← e]
  exact h1
end Go.Proofs.Ytjonkpdjhjobfaa
namespace Go.Proofs.Ytjonkpdjhjobfaa
open Go.RowKit

def inB (n l m : Int) : Bool := decide (l ≤ n) && decide (n ≤ m)
def limV (l : List (Int × Int × Int)) : List Value := l.flatMap fun x => [.int .i64 x.1, .int .i64 x.2.1, .int .i64 x.2.2]
theorem limV_cons (x : Int × Int × Int) (t : List (Int × Int × Int)) : limV (x :: t) = .int .i64 x.1 :: .int .i64 x.2.1 :: .int .i64 x.2.2 :: limV t := rfl
theorem limV_at {l : List (Int × Int × Int)} {k : Nat} {x : Int × Int × Int} (h : l[k]? = some x) : (limV l)[k * 3]? = some (.int .i64 x.1) ∧ (limV l)[k * 3 + 1]? = some (.int .i64 x.2.1) ∧ (limV l)[k * 3 + 2]? = some (.int .i64 x.2.2) := by
  induction l generalizing k with
  | nil => simp at h
  | cons z r ih =>
    cases k with
    | zero => simp at h; subst h; exact ⟨rfl, rfl, rfl⟩
    | succ k =>
      have h2 := ih (k := k) (by simpa using h)
      rw [limV_cons, show (k + 1) * 3 = k * 3 + 1 + 1 + 1 by omega]
      simpa using h2
def limB (x : Int × Int × Int) : Bool := inB x.1 x.2.1 x.2.2
set_option maxRecDepth 100000 in
set_option maxHeartbeats 1600000 in
theorem pwithin_any {g : Nat} {l : List (Int × Int × Int)} {cs : Array Value} (n cap : Nat) (w : World) (hn : l.length = n) (hn9 : n ≤ 100) (hr : Row w g 208 cs) (hc : cs = (limV l).toArray) :
    Calls Try.prog 143 #[.slice (some ⟨g, 0, none⟩) n cap] w fun e w' => e = .returned (.bool (l.all limB)) ∧ Below w.heap.size w w' := by
  subst hc
  have HR := Lib.hid hr
  have HL := Lib.hid hn
  clear hr hn
  go_enter Try.func143, Try.ntmps143
  go_wp2
  go_loopw [7] (fun i wr => ∃ k : Nat, k ≤ n ∧ i = .int .i64 k ∧ Hid (l.all limB = (l.drop k).all limB) ∧ Hid (Below w.heap.size w wr)) (fun i _ => n - (intOf i).toNat)
  case atStart => exact ⟨0, by omega, rfl, Lib.hid (by simp), Lib.hid (Below.refl _ _)⟩
  case round =>
    obtain ⟨k, hk, rfl, HK, HB⟩ := hrel
    by_cases hlt : k < n
    · obtain ⟨⟨x, lo, hi⟩, hx⟩ : ∃ r, l[k]? = some r := ⟨_, List.getElem?_eq_getElem (by rw [HL.out]; exact hlt)⟩
      obtain ⟨e0, e1, e2⟩ := limV_at hx
      have RG := HR.out.later HB.out
      have f0 : wr.cell? ⟨g, k * 3, none⟩ = some (.int .i64 x) := RG.read (by simpa using e0)
      have f1 : wr.cell? ⟨g, k * 3 + 1, none⟩ = some (.int .i64 lo) := RG.read (by simpa using e1)
      have f2 : wr.cell? ⟨g, k * 3 + 2, none⟩ = some (.int .i64 hi) := RG.read (by simpa using e2)
      have HD := Lib.hid (show l.drop k = (x, lo, hi) :: l.drop (k + 1) by
        obtain ⟨h1, h2⟩ := List.getElem?_eq_some_iff.1 hx
        rw [List.drop_eq_getElem_cons h1, h2])
      have hkI : (k : Int) < (n : Int) := by omega
      have RM := Row.made wr 208 #[.int .i64 x, .int .i64 lo, .int .i64 hi]
      have m0 := RM.read (i := 0) rfl
      have m1 := RM.read (i := 1) rfl
      have m2 := RM.read (i := 2) rfl
      clear hx e0 e1 e2 RG RM
      by_cases h1 : x < lo
      · have h1' : decide (x < lo) = true := decide_eq_true h1
        have HF := Lib.hid (show limB (x, lo, hi) = false by unfold limB inB; simp; omega)
        clear h1
        go_wp2
        go_ret
        exact ⟨ret_bool (by rw [HK.out, HD.out]; simp [HF.out]), bl_alloc HB.out _⟩
      · have h1' : decide (x < lo) = false := decide_eq_false h1
        by_cases h2 : hi < x
        · have h2' : decide (hi < x) = true := decide_eq_true h2
          have HF := Lib.hid (show limB (x, lo, hi) = false by unfold limB inB; simp; omega)
          clear h1 h2
          go_wp2
          go_ret
          exact ⟨ret_bool (by rw [HK.out, HD.out]; simp [HF.out]), bl_alloc HB.out _⟩
        · have h2' : decide (hi < x) = false := decide_eq_false h2
          have HF := Lib.hid (show limB (x, lo, hi) = true by unfold limB inB; simp; omega)
          clear h1 h2
          go_wp2
          go_roundw
          case rel => exact ⟨k + 1, by omega, by go_num, Lib.hid (by rw [HK.out, HD.out]; simp [HF.out]), Lib.hid (bl_alloc HB.out _)⟩
          case measure => simp [intOf]; omega
    · have hkn : k = n := by omega
      subst hkn
      go_wp2
      go_ret
      exact ⟨ret_bool (by rw [HK.out, List.drop_of_length_le (by rw [HL.out]; exact Nat.le_refl _)]; rfl), HB.out⟩
end Go.Proofs.Ytjonkpdjhjobfaa
namespace Go.Proofs.Ytjonkpdjhjobfaa
open Go.RowKit

structure Cf where
  mode : Int
  bits : Int
  win : Int
  reo : Int
  prx : Int
  pro : Int
  ppd : Int
  pby : Int
  mrx : Int
  qb : Int
def Cf.a (c : Cf) : Array Value := #[.int .i64 c.mode, .int .i64 c.bits, .int .i64 c.win, .int .i64 c.reo, .int .i64 c.prx, .int .i64 c.pro, .int .i64 c.ppd, .int .i64 c.pby, .int .i64 c.mrx, .int .i64 c.qb]
theorem cells10 {w : World} {g : Nat} {t : TypeId} {a b c d e f h i j k : Value} (hr : Row w g t #[a, b, c, d, e, f, h, i, j, k]) : w.cell? ⟨g, 0, none⟩ = some a ∧ w.cell? ⟨g, 1, none⟩ = some b ∧ w.cell? ⟨g, 2, none⟩ = some c ∧ w.cell? ⟨g, 3, none⟩ = some d ∧ w.cell? ⟨g, 4, none⟩ = some e ∧ w.cell? ⟨g, 5, none⟩ = some f ∧ w.cell? ⟨g, 6, none⟩ = some h ∧ w.cell? ⟨g, 7, none⟩ = some i ∧ w.cell? ⟨g, 8, none⟩ = some j ∧ w.cell? ⟨g, 9, none⟩ = some k :=
  ⟨hr.read rfl, hr.read rfl, hr.read rfl, hr.read rfl, hr.read rfl, hr.read rfl, hr.read rfl, hr.read rfl, hr.read rfl, hr.read rfl⟩
set_option maxRecDepth 100000 in
theorem pindex_any {g : Nat} (a b x : Int) (cap : Nat) (w : World) (hr : Row w g 3 #[.int .i64 a, .int .i64 b]) :
    Calls Try.prog 219 #[.slice (some ⟨g, 0, none⟩) 2 cap, .int .i64 x] w fun e w' => e = .returned (.int .i64 (if x = a then 0 else if x = b then 1 else -1)) ∧ w = w' := by
  have c0 := hr.read (i := 0) rfl
  have c1 := hr.read (i := 1) rfl
  clear hr
  go_enter Try.func219, Try.ntmps219
  go_wp2
  go_loopw [8] (fun i wr => ∃ k : Nat, k ≤ 2 ∧ i = .int .i64 k ∧ Hid ((0 < k → x ≠ a) ∧ (1 < k → x ≠ b)) ∧ w = wr) (fun i _ => 2 - (intOf i).toNat)
  case atStart => exact ⟨0, by omega, rfl, Lib.hid ⟨by omega, by omega⟩, rfl⟩
  case round =>
    obtain ⟨k, hk, rfl, HK, rfl⟩ := hrel
    obtain rfl | rfl | rfl : k = 0 ∨ k = 1 ∨ k = 2 := by omega
    · by_cases h : x = a
      · have h1 : (x == a) = true := by simpa using h
        have HX := Lib.hid h
        clear h
        go_wp2
        go_ret
        exact ⟨ret_int (by first | rfl | (rw [if_pos HX.out]; rfl)), rfl⟩
      · have h1 : (x == a) = false := by simpa using h
        have HX := Lib.hid h
        clear h
        go_wp2
        go_roundw
        case rel => exact ⟨1, by omega, rfl, Lib.hid ⟨fun _ => HX.out, by omega⟩, by first | rfl | trivial⟩
        case measure => simp [intOf]
    · have HA := Lib.hid (HK.out.1 (by omega))
      by_cases h : x = b
      · have h1 : (x == b) = true := by simpa using h
        have HX := Lib.hid h
        clear h
        go_wp2
        go_ret
        exact ⟨ret_int (by first | rfl | (rw [if_neg HA.out, if_pos HX.out]; rfl)), rfl⟩
      · have h1 : (x == b) = false := by simpa using h
        have HX := Lib.hid h
        clear h
        go_wp2
        go_roundw
        case rel => exact ⟨2, by omega, rfl, Lib.hid ⟨fun _ => HA.out, fun _ => HX.out⟩, by first | rfl | trivial⟩
        case measure => simp [intOf]
    · have HA := Lib.hid (HK.out.1 (by omega))
      have HBB := Lib.hid (HK.out.2 (by omega))
      go_wp2
      go_ret
      exact ⟨ret_int (by first | rfl | (rw [if_neg HA.out, if_neg HBB.out])), rfl⟩
def in2 (x a b : Int) : Bool := (x == a) || (x == b)
theorem pcontains_any {g : Nat} (a b x : Int) (cap : Nat) (w : World) (hr : Row w g 3 #[.int .i64 a, .int .i64 b]) :
    Calls Try.prog 196 #[.slice (some ⟨g, 0, none⟩) 2 cap, .int .i64 x] w fun e w' => e = .returned (.bool (in2 x a b)) ∧ w = w' := by
  have HI := Lib.hid (pindex_any a b x cap w hr)
  clear hr
  by_cases h : in2 x a b = true
  · have HX := Lib.hid h
    by_cases h1 : x = a
    · rw [if_pos h1] at HI
      clear h h1
      go_enter Try.func196, Try.ntmps196
      go_wp2_with (go_at_call 219; (with_reducible refine HI.out.mono ?_); rintro e w1 ⟨rfl, rfl⟩)
      go_ret
      exact ⟨ret_bool (by rw [HX.out]), rfl⟩
    · have h2 : x = b := by simpa [in2, h1] using h
      rw [if_neg h1, if_pos h2] at HI
      clear h h1 h2
      go_enter Try.func196, Try.ntmps196
      go_wp2_with (go_at_call 219; (with_reducible refine HI.out.mono ?_); rintro e w1 ⟨rfl, rfl⟩)
      go_ret
      exact ⟨ret_bool (by rw [HX.out]), rfl⟩
  · have h1 : x ≠ a := fun h1 => h (by simp [in2, h1])
    have h2 : x ≠ b := fun h2 => h (by simp [in2, h2])
    have HX := Lib.hid (show in2 x a b = false by simpa using h)
    rw [if_neg h1, if_neg h2] at HI
    clear h h1 h2
    go_enter Try.func196, Try.ntmps196
    go_wp2_with (go_at_call 219; (with_reducible refine HI.out.mono ?_); rintro e w1 ⟨rfl, rfl⟩)
    go_ret
    exact ⟨ret_bool (by rw [HX.out]), rfl⟩
def numB (c : Cf) (a b : Int) : Bool := in2 c.bits a b && ([(c.win, 1, sz c.bits / 2), (c.reo, 1, 1000)].all limB)
set_option maxRecDepth 100000 in
set_option maxHeartbeats 1600000 in
theorem pnumbered_any {g : Nat} (c : Cf) (a b : Int) (cap : Nat) (w : World) (hr : Row w g 3 #[.int .i64 a, .int .i64 b]) :
    Calls Try.prog 144 #[.agg c.a, .slice (some ⟨g, 0, none⟩) 2 cap] w fun e w' => e = .returned (.bool (numB c a b)) ∧ Below w.heap.size w w' := by
  obtain ⟨mode, bits, win, reo, prx, pro, ppd, pby, mrx, qb⟩ := c
  unfold Cf.a
  have ROW := Lib.hid (Row.made w 23 #[.int .i64 mode, .int .i64 bits, .int .i64 win, .int .i64 reo, .int .i64 prx, .int .i64 pro, .int .i64 ppd, .int .i64 pby, .int .i64 mrx, .int .i64 qb])
  have HB0 := Lib.hid (bl_alloc (Below.refl w.heap.size w) (.cells #[.int .i64 mode, .int .i64 bits, .int .i64 win, .int .i64 reo, .int .i64 prx, .int .i64 pro, .int .i64 ppd, .int .i64 pby, .int .i64 mrx, .int .i64 qb] 23))
  have HR := Lib.hid (hr.later HB0.out)
  have HS := Lib.hid (fun W => sqsize_any bits W)
  have hsz := sz_bd bits
  have HSB := Lib.hid hsz
  have HC := Lib.hid (fun W h => pcontains_any (g := g) a b bits cap W h)
  have HW := Lib.hid (fun W g' (h : Row W g' 208 #[.int .i64 win, .int .i64 1, .int .i64 (sz bits / 2), .int .i64 reo, .int .i64 1, .int .i64 1000]) => pwithin_any (l := [(win, 1, sz bits / 2), (reo, 1, 1000)]) 2 2 W rfl (by omega) h rfl)
  have HN := Lib.hid (show numB ⟨mode, bits, win, reo, prx, pro, ppd, pby, mrx, qb⟩ a b = (in2 bits a b && ([(win, 1, sz bits / 2), (reo, 1, 1000)].all limB)) from rfl)
  generalize [(win, 1, sz bits / 2), (reo, 1, 1000)].all limB = r at *
  generalize sz bits = s at *
  clear hr
  cases hb : in2 bits a b
  all_goals
    rw [hb] at HC HN
    clear hb
    go_enter Try.func144, Try.ntmps144
    obtain ⟨c0, c1, c2, c3, c4, c5, c6, c7, c8, c9⟩ := cells10 ROW.out
    go_wp2_with (first
      | (go_at_call 164; (with_reducible refine (HS.out _).mono ?_); rintro e w1 ⟨rfl, hb1⟩; (have HB1 := Lib.hid (bl_step HB0.out hb1); have ROW1 := Lib.hid (ROW.out.later hb1); have HR1 := Lib.hid (HR.out.later hb1); clear hb1 c0 c1 c2 c3 c4 c5 c6 c7 c8 c9; obtain ⟨c0, c1, c2, c3, c4, c5, c6, c7, c8, c9⟩ := cells10 ROW1.out))
      | (go_at_call 196; (with_reducible refine (HC.out _ HR1.out).mono ?_); rintro e wx ⟨rfl, rfl⟩)
      | (go_at_call 143; (with_reducible refine (HW.out _ _ (Row.made _ _ _)).mono ?_); rintro e w2 ⟨rfl, hb2⟩; (have HB2 := Lib.hid (bl_step (bl_alloc HB1.out _) hb2); clear hb2)))
    go_ret
  · exact ⟨ret_bool (by rw [HN.out]; rfl), HB1.out⟩
  · exact ⟨ret_bool (by rw [HN.out]; simp), HB2.out⟩
end Go.Proofs.Ytjonkpdjhjobfaa
