/-
  The document's Write.
-/
import Derived.Test.YtdklddpkklodnaaLensWrite
import Derived.Test.YtdklddpkklodnaaRefGet
import Derived.StillTailTactics
namespace Go.Proofs.Ytdklddpkklodnaa
open Go.RowKit

theorem own_down {B B' : Nat} {e : TypeId} {size n : Nat} {w : World} {x : Value} {xs : List Value} (h : w.ownsRow B e size x n xs) (hb : B' ≤ B) : w.ownsRow B' e size x n xs := by
  refine ⟨h.1, ?_⟩
  rcases h.2 with h0 | ⟨g, cap, cur, rfl, h1, h2⟩
  · exact .inl h0
  · exact .inr ⟨g, cap, cur, rfl, Nat.le_trans hb h1, h2⟩

set_option maxRecDepth 100000 in
set_option maxHeartbeats 3200000 in
theorem refwrite_11 {A : Option Addr} {l : List Int} (n cap : Nat) (w : World) (hn : l.length = n) (hm : n ≤ maxLen) (hs : Src w A (ins l)) :
    Calls Try.prog 85 #[.slice A n cap, .int .i64 11] w fun e w' => ((faultF l 11 = 0 ∧ ∃ x, e = .returned (.tuple #[x, .int .i64 0]) ∧ w'.ownsRow w.heap.size 5 1 x (packLen (n * (11 + 1))) (bts (pack (wbl 11 (l.map Int.toNat))))) ∨ (faultF l 11 ≠ 0 ∧ e = .returned (.tuple #[.slice none 0 0, .int .i64 (faultF l 11)]))) ∧ Below w.heap.size w w' := by
  obtain ⟨i0, hi, hi0, hi1, hi2⟩ := info_parts Try.info4
  have HS := Lib.hid hs
  have HN := Lib.hid hn
  unfold maxLen at hm
  clear hs hn
  rcases Nat.eq_zero_or_pos n with h0 | h0
  · have HF := Lib.hid (show faultF l 11 = 4 by unfold faultF; rw [HN.out, if_pos h0])
    subst h0
    go_enter Try.func85, Try.ntmps85
    go_wp2
    exact bodyPost_ret (v := .tuple #[.slice none 0 0, .int .i64 4]) (by simp [results, Try.results85, go_sem]) rfl ⟨.inr (by rw [HF.out]; exact ⟨by decide, rfl⟩), Below.refl _ _⟩
  · have hz : ((n : Int) == 0) = false := by simp; omega
    rcases Nat.lt_or_ge 23 n with h1 | h1
    · have HF := Lib.hid (show faultF l 11 = 2 by unfold faultF; rw [HN.out, if_neg (by omega), if_pos h1])
      have h1' : (23 : Int) < (n : Int) := by omega
      go_enter Try.func85, Try.ntmps85
      go_wp2
      exact bodyPost_ret (v := .tuple #[.slice none 0 0, .int .i64 2]) (by simp [results, Try.results85, go_sem]) rfl ⟨.inr (by rw [HF.out]; exact ⟨by decide, rfl⟩), Below.refl _ _⟩
    · have h1' : ¬ (23 : Int) < (n : Int) := by omega
      have HF := Lib.hid (show faultF l 11 = if l.all (mayL 11) then 0 else 1 by unfold faultF; rw [HN.out, if_neg (by omega), if_neg (by omega)])
      have HWB := Lib.hid (wbk_all 11 (l.map Int.toNat))
      rw [List.length_map, HN.out] at HWB
      have HTP := Lib.hid (fun W => (show Calls Try.prog 102 #[.int .i64 11] W fun e w' => e = .returned (.int .i64 2048) ∧ W = w' from top_ok 11 (by omega) W))
      go_enter Try.func85, Try.ntmps85
      go_wp2
      go_loopw [6, 7] (fun o i wr => ∃ k : Nat, k ≤ n ∧ i = .int .i64 k ∧ Hid ((l.take k).all (mayL 11) = true) ∧ Hid (OwnB w.heap.size wr o (wbk 11 (l.map Int.toNat) k)) ∧ Hid (Below w.heap.size w wr)) (fun _ i _ => n - (intOf i).toNat)
      case atStart => exact ⟨0, by omega, rfl, Lib.hid rfl, Lib.hid (OwnB.nil _ _), Lib.hid (Below.refl _ _)⟩
      case round =>
        obtain ⟨k, hk, rfl, HK, HO, HB⟩ := hrel
        obtain ⟨A6, c6, rfl⟩ := HO.out.form
        have hbl : (wbk 11 (l.map Int.toNat) k).length ≤ 400 := by
          rw [length_wbk]
          have := Nat.mul_le_mul_right (11 + 1) hk
          omega
        by_cases hlt : k < n
        · have hkl : k < l.length := by have := HN.out; omega
          have hx : l[k]? = some l[k] := List.getElem?_eq_getElem hkl
          obtain ⟨ad, rfl, hc⟩ := HS.out (by rw [length_ins]; omega)
          have hcell0 := hc _ _ (ins_at hx)
          have hcell := cell_below HB.out hcell0
          have htk : (l.take (k + 1)).all (mayL 11) = mayL 11 l[k] := by
            rw [List.take_succ_eq_append_getElem hkl, List.all_append, HK.out]
            simp
          have hall : mayL 11 l[k] = false → l.all (mayL 11) = false := fun h => by
            rw [← Bool.not_eq_true, List.all_eq_true]
            intro hh
            rw [hh l[k] (List.getElem_mem hkl)] at h
            cases h
          have HX := Lib.hid (show wbk 11 (l.map Int.toNat) (k + 1) = (wbk 11 (l.map Int.toNat) k ++ [decide (k + 1 < n)]) ++ unval l[k].toNat 11 by
            rw [wbk, List.getD_eq_getElem?_getD, List.getElem?_map, hx, List.length_map, HN.out]
            simp)
          generalize l[k] = x at *
          have HT := Lib.hid htk
          have HA := Lib.hid hall
          have hlt2 : (k : Int) < (n : Int) := by omega
          have hk0 : (0 : Int) ≤ (k : Int) := by omega
          have HC0 := Lib.hid hcell0
          clear hc hx htk hall hcell0
          by_cases h2 : x < 1
          · have HE := Lib.hid (HA.out (by unfold mayL; rw [decide_eq_false (by omega)]; rfl))
            have h2d : decide (x < 1) = true := decide_eq_true h2
            go_wp2_with fail
            go_quiet (fail)
            go_wp2_with fail
            exact bodyPost_ret (v := .tuple #[.slice none 0 0, .int .i64 1]) (by simp [results, Try.results85, go_sem]) rfl ⟨.inr (by rw [HF.out, HE.out]; exact ⟨by decide, rfl⟩), below_drewN HB.out _⟩
          · have h2d : decide (x < 1) = false := decide_eq_false h2
            by_cases h3 : 2048 ≤ x
            · have HE := Lib.hid (HA.out (by unfold mayL; rw [decide_eq_false (show ¬ x < 2 ^ 11 by simp only [show (2 : Int) ^ 11 = 2048 from rfl]; omega)]; simp))
              go_wp2_with fail
              refine wp_region_still_lit (by kernel_rfl) (by kernel_rfl) ?_
              change wpStill _ _ wr.drew (fun b => _) _ _
              have d0 : wr.drew.cell? (ad.add k) = some (.int .i64 x) := hcell
              clear hcell
              generalize wr.drew = w9 at d0 ⊢
              repeat still_step
              still_call ((HTP.out w9).mono fun _ _ h => ⟨h.1, h.2.symm⟩)
              repeat still_step
              refine wpStill_nil ?_
              go_wp2_with fail
              exact bodyPost_ret (v := .tuple #[.slice none 0 0, .int .i64 1]) (by simp [results, Try.results85, go_sem]) rfl ⟨.inr (by rw [HF.out, HE.out]; exact ⟨by decide, rfl⟩), bl_drew HB.out⟩
            · obtain ⟨y, rfl⟩ : ∃ y : Nat, x = y := ⟨x.toNat, by omega⟩
              have HE := Lib.hid (show mayL 11 (y : Int) = true by unfold mayL; rw [decide_eq_true (show (1 : Int) ≤ y by omega), decide_eq_true (show (y : Int) < 2 ^ 11 by simp only [show (2 : Int) ^ 11 = 2048 from rfl]; omega)]; rfl)
              have h3d : decide ((2048 : Int) ≤ (y : Int)) = false := decide_eq_false (by omega)
              have HY15 := Lib.hid (show y < 2048 by omega)
              clear h3
              have hcellD : wr.drew.cell? (ad.add k) = some (.int .i64 y) := hcell
              have hyw : IntKind.u64.wrap (y : Int) = (y : Int) := by rw [IntKind.wrap_u64]; have := HY15.out; omega
              have HOD := Lib.hid (show OwnB w.heap.size wr.drew (.slice A6 (wbk 11 (l.map Int.toNat) k).length c6) (wbk 11 (l.map Int.toNat) k) from HO.out.later (bl_drew (Below.refl _ _)))
              have HBD := Lib.hid (bl_drew HB.out)
              rw [Int.toNat_natCast] at HX
              generalize hbits : wbk 11 (l.map Int.toNat) k = bits at *
              have hbd : decide ((k : Int) + 1 < (n : Int)) = decide (k + 1 < n) := by
                apply decide_eq_decide.2
                omega
              have HBD2 := Lib.hid hbd
              clear hbd hbits
              go_wp2_with fail
              refine wp_region_still_lit (by kernel_rfl) (by kernel_rfl) ?_
              change wpStill _ _ wr.drew (fun b => _) _ _
              have d0 : wr.drew.cell? (ad.add k) = some (.int .i64 y) := hcell
              clear hcell
              generalize wr.drew = w9 at d0 ⊢
              repeat still_step
              still_call ((HTP.out w9).mono fun _ _ h => ⟨h.1, h.2.symm⟩)
              repeat still_step
              refine wpStill_nil ?_
              go_wp2_with (at_builtin; go_loud (refine wpList_append_lies _ rfl _ _ _ (by rfl) w.heap.size 4 i0 (.bool false) 1 1 Try.underlying83 hi hi0 hi1 hi2 rfl (by omega) (.slice A6 bits.length c6) bits.length _ (by rfl) (HOD.out.1.alloc _) ⟨wr.drew.heap.size, 0, none⟩ 1 1 [.bool (decide ((k : Int) + 1 < (n : Int)))] (by rfl) (by rfl) (cell_one_new _ _ _) (fun u hu => by simp at hu; subst hu; rfl) (by omega) (by unfold maxLen; omega) (by omega) (by have := HBD.out.size; simp at this ⊢; omega) (wr.drew.heap.size + 1) (by simp) ?_))
              intro g cap2 w2 hown2 hgrow _ _
              have H2 := Lib.hid (OwnB.more HOD.out HBD.out HBD.out.size hown2 hgrow)
              have hc2 := cell_below H2.out.2 HC0.out
              have HK2 := Lib.hid (show (l.take (k + 1)).all (mayL 11) = true by rw [HT.out, HE.out])
              rw [HBD2.out] at H2
              generalize decide (k + 1 < n) = nx at *
              have HPU := Lib.hid (show Calls Try.prog 50 #[.slice (some ⟨g, 0, none⟩) (bits.length + 1) cap2, .int .u64 y, .int .i64 11] w2 fun e w' => ∃ x', e = .returned (.tuple #[x', .int .i64 0]) ∧ OwnB w2.heap.size w' x' ((bits ++ [nx]) ++ unval y 11) ∧ Below w2.heap.size w2 w' from refput_ok y 11 H2.out.1 (by omega) (Nat.lt_of_lt_of_le HY15.out (by decide)) (by simp; omega) (by have := HY15.out; omega))
              clear hown2 hgrow
              go_wp2_with (go_at_call 50; refine HPU.out.mono ?_; rintro e w3 ⟨x3, rfl, ho3, hb3⟩; have HO3 := Lib.hid ho3; have HB3 := Lib.hid (H2.out.2.trans (hb3.mono H2.out.2.size)); clear ho3 hb3)
              go_roundw
              case rel => exact ⟨k + 1, by omega, by go_num, HK2, Lib.hid (by rw [HX.out]; exact ⟨own_down HO3.out.1 (H2.out.2.size), HO3.out.2⟩), HB3⟩
              case measure => simp [intOf]; omega
        · obtain rfl : k = n := by omega
          have HK2 := Lib.hid (show l.all (mayL 11) = true by have := HK.out; rwa [← HN.out, List.take_length] at this)
          have HBL := Lib.hid (length_wbk 11 (l.map Int.toNat) k)
          rw [HWB.out] at HO HBL hbl ⊢
          generalize hbits : wbl 11 (l.map Int.toNat) = bits at *
          have HBI := Lib.hid hbits
          have HBY := Lib.hid (refbytes_any c6 HO.out.src (by omega))
          clear hbits hbl hlt hk
          go_wp2_with (go_at_call 52; refine HBY.out.mono ?_; rintro e w6 ⟨x6, rfl, ho6, hb6⟩; have HO6 := Lib.hid ho6; have HB6 := Lib.hid hb6; clear ho6 hb6)
          refine bodyPost_ret (v := .tuple #[x6, .int .i64 0]) (by simp [results, Try.results85, go_sem]) rfl ⟨.inl ⟨by rw [HF.out, HK2.out]; rfl, x6, rfl, ?_⟩, bl_step' HB.out (HB6.out.mono HB.out.size)⟩
          have h9 := HO6.out
          rw [HBL.out, ← HBI.out] at h9
          exact own_down h9 HB.out.size

set_option maxRecDepth 100000 in
set_option maxHeartbeats 3200000 in
theorem refwrite_15 {A : Option Addr} {l : List Int} (n cap : Nat) (w : World) (hn : l.length = n) (hm : n ≤ maxLen) (hs : Src w A (ins l)) :
    Calls Try.prog 85 #[.slice A n cap, .int .i64 15] w fun e w' => ((faultF l 15 = 0 ∧ ∃ x, e = .returned (.tuple #[x, .int .i64 0]) ∧ w'.ownsRow w.heap.size 5 1 x (packLen (n * (15 + 1))) (bts (pack (wbl 15 (l.map Int.toNat))))) ∨ (faultF l 15 ≠ 0 ∧ e = .returned (.tuple #[.slice none 0 0, .int .i64 (faultF l 15)]))) ∧ Below w.heap.size w w' := by
  obtain ⟨i0, hi, hi0, hi1, hi2⟩ := info_parts Try.info4
  have HS := Lib.hid hs
  have HN := Lib.hid hn
  unfold maxLen at hm
  clear hs hn
  rcases Nat.eq_zero_or_pos n with h0 | h0
  · have HF := Lib.hid (show faultF l 15 = 4 by unfold faultF; rw [HN.out, if_pos h0])
    subst h0
    go_enter Try.func85, Try.ntmps85
    go_wp2
    exact bodyPost_ret (v := .tuple #[.slice none 0 0, .int .i64 4]) (by simp [results, Try.results85, go_sem]) rfl ⟨.inr (by rw [HF.out]; exact ⟨by decide, rfl⟩), Below.refl _ _⟩
  · have hz : ((n : Int) == 0) = false := by simp; omega
    rcases Nat.lt_or_ge 23 n with h1 | h1
    · have HF := Lib.hid (show faultF l 15 = 2 by unfold faultF; rw [HN.out, if_neg (by omega), if_pos h1])
      have h1' : (23 : Int) < (n : Int) := by omega
      go_enter Try.func85, Try.ntmps85
      go_wp2
      exact bodyPost_ret (v := .tuple #[.slice none 0 0, .int .i64 2]) (by simp [results, Try.results85, go_sem]) rfl ⟨.inr (by rw [HF.out]; exact ⟨by decide, rfl⟩), Below.refl _ _⟩
    · have h1' : ¬ (23 : Int) < (n : Int) := by omega
      have HF := Lib.hid (show faultF l 15 = if l.all (mayL 15) then 0 else 1 by unfold faultF; rw [HN.out, if_neg (by omega), if_neg (by omega)])
      have HWB := Lib.hid (wbk_all 15 (l.map Int.toNat))
      rw [List.length_map, HN.out] at HWB
      have HTP := Lib.hid (fun W => (show Calls Try.prog 102 #[.int .i64 15] W fun e w' => e = .returned (.int .i64 32768) ∧ W = w' from top_ok 15 (by omega) W))
      go_enter Try.func85, Try.ntmps85
      go_wp2
      go_loopw [6, 7] (fun o i wr => ∃ k : Nat, k ≤ n ∧ i = .int .i64 k ∧ Hid ((l.take k).all (mayL 15) = true) ∧ Hid (OwnB w.heap.size wr o (wbk 15 (l.map Int.toNat) k)) ∧ Hid (Below w.heap.size w wr)) (fun _ i _ => n - (intOf i).toNat)
      case atStart => exact ⟨0, by omega, rfl, Lib.hid rfl, Lib.hid (OwnB.nil _ _), Lib.hid (Below.refl _ _)⟩
      case round =>
        obtain ⟨k, hk, rfl, HK, HO, HB⟩ := hrel
        obtain ⟨A6, c6, rfl⟩ := HO.out.form
        have hbl : (wbk 15 (l.map Int.toNat) k).length ≤ 400 := by
          rw [length_wbk]
          have := Nat.mul_le_mul_right (15 + 1) hk
          omega
        by_cases hlt : k < n
        · have hkl : k < l.length := by have := HN.out; omega
          have hx : l[k]? = some l[k] := List.getElem?_eq_getElem hkl
          obtain ⟨ad, rfl, hc⟩ := HS.out (by rw [length_ins]; omega)
          have hcell0 := hc _ _ (ins_at hx)
          have hcell := cell_below HB.out hcell0
          have htk : (l.take (k + 1)).all (mayL 15) = mayL 15 l[k] := by
            rw [List.take_succ_eq_append_getElem hkl, List.all_append, HK.out]
            simp
          have hall : mayL 15 l[k] = false → l.all (mayL 15) = false := fun h => by
            rw [← Bool.not_eq_true, List.all_eq_true]
            intro hh
            rw [hh l[k] (List.getElem_mem hkl)] at h
            cases h
          have HX := Lib.hid (show wbk 15 (l.map Int.toNat) (k + 1) = (wbk 15 (l.map Int.toNat) k ++ [decide (k + 1 < n)]) ++ unval l[k].toNat 15 by
            rw [wbk, List.getD_eq_getElem?_getD, List.getElem?_map, hx, List.length_map, HN.out]
            simp)
          generalize l[k] = x at *
          have HT := Lib.hid htk
          have HA := Lib.hid hall
          have hlt2 : (k : Int) < (n : Int) := by omega
          have hk0 : (0 : Int) ≤ (k : Int) := by omega
          have HC0 := Lib.hid hcell0
          clear hc hx htk hall hcell0
          by_cases h2 : x < 1
          · have HE := Lib.hid (HA.out (by unfold mayL; rw [decide_eq_false (by omega)]; rfl))
            have h2d : decide (x < 1) = true := decide_eq_true h2
            go_wp2_with fail
            go_quiet (fail)
            go_wp2_with fail
            exact bodyPost_ret (v := .tuple #[.slice none 0 0, .int .i64 1]) (by simp [results, Try.results85, go_sem]) rfl ⟨.inr (by rw [HF.out, HE.out]; exact ⟨by decide, rfl⟩), below_drewN HB.out _⟩
          · have h2d : decide (x < 1) = false := decide_eq_false h2
            by_cases h3 : 32768 ≤ x
            · have HE := Lib.hid (HA.out (by unfold mayL; rw [decide_eq_false (show ¬ x < 2 ^ 15 by simp only [show (2 : Int) ^ 15 = 32768 from rfl]; omega)]; simp))
              go_wp2_with fail
              refine wp_region_still_lit (by kernel_rfl) (by kernel_rfl) ?_
              change wpStill _ _ wr.drew (fun b => _) _ _
              have d0 : wr.drew.cell? (ad.add k) = some (.int .i64 x) := hcell
              clear hcell
              generalize wr.drew = w9 at d0 ⊢
              repeat still_step
              still_call ((HTP.out w9).mono fun _ _ h => ⟨h.1, h.2.symm⟩)
              repeat still_step
              refine wpStill_nil ?_
              go_wp2_with fail
              exact bodyPost_ret (v := .tuple #[.slice none 0 0, .int .i64 1]) (by simp [results, Try.results85, go_sem]) rfl ⟨.inr (by rw [HF.out, HE.out]; exact ⟨by decide, rfl⟩), bl_drew HB.out⟩
            · obtain ⟨y, rfl⟩ : ∃ y : Nat, x = y := ⟨x.toNat, by omega⟩
              have HE := Lib.hid (show mayL 15 (y : Int) = true by unfold mayL; rw [decide_eq_true (show (1 : Int) ≤ y by omega), decide_eq_true (show (y : Int) < 2 ^ 15 by simp only [show (2 : Int) ^ 15 = 32768 from rfl]; omega)]; rfl)
              have h3d : decide ((32768 : Int) ≤ (y : Int)) = false := decide_eq_false (by omega)
              have HY15 := Lib.hid (show y < 32768 by omega)
              clear h3
              have hcellD : wr.drew.cell? (ad.add k) = some (.int .i64 y) := hcell
              have hyw : IntKind.u64.wrap (y : Int) = (y : Int) := by rw [IntKind.wrap_u64]; have := HY15.out; omega
              have HOD := Lib.hid (show OwnB w.heap.size wr.drew (.slice A6 (wbk 15 (l.map Int.toNat) k).length c6) (wbk 15 (l.map Int.toNat) k) from HO.out.later (bl_drew (Below.refl _ _)))
              have HBD := Lib.hid (bl_drew HB.out)
              rw [Int.toNat_natCast] at HX
              generalize hbits : wbk 15 (l.map Int.toNat) k = bits at *
              have hbd : decide ((k : Int) + 1 < (n : Int)) = decide (k + 1 < n) := by
                apply decide_eq_decide.2
                omega
              have HBD2 := Lib.hid hbd
              clear hbd hbits
              go_wp2_with fail
              refine wp_region_still_lit (by kernel_rfl) (by kernel_rfl) ?_
              change wpStill _ _ wr.drew (fun b => _) _ _
              have d0 : wr.drew.cell? (ad.add k) = some (.int .i64 y) := hcell
              clear hcell
              generalize wr.drew = w9 at d0 ⊢
              repeat still_step
              still_call ((HTP.out w9).mono fun _ _ h => ⟨h.1, h.2.symm⟩)
              repeat still_step
              refine wpStill_nil ?_
              go_wp2_with (at_builtin; go_loud (refine wpList_append_lies _ rfl _ _ _ (by rfl) w.heap.size 4 i0 (.bool false) 1 1 Try.underlying83 hi hi0 hi1 hi2 rfl (by omega) (.slice A6 bits.length c6) bits.length _ (by rfl) (HOD.out.1.alloc _) ⟨wr.drew.heap.size, 0, none⟩ 1 1 [.bool (decide ((k : Int) + 1 < (n : Int)))] (by rfl) (by rfl) (cell_one_new _ _ _) (fun u hu => by simp at hu; subst hu; rfl) (by omega) (by unfold maxLen; omega) (by omega) (by have := HBD.out.size; simp at this ⊢; omega) (wr.drew.heap.size + 1) (by simp) ?_))
              intro g cap2 w2 hown2 hgrow _ _
              have H2 := Lib.hid (OwnB.more HOD.out HBD.out HBD.out.size hown2 hgrow)
              have hc2 := cell_below H2.out.2 HC0.out
              have HK2 := Lib.hid (show (l.take (k + 1)).all (mayL 15) = true by rw [HT.out, HE.out])
              rw [HBD2.out] at H2
              generalize decide (k + 1 < n) = nx at *
              have HPU := Lib.hid (show Calls Try.prog 50 #[.slice (some ⟨g, 0, none⟩) (bits.length + 1) cap2, .int .u64 y, .int .i64 15] w2 fun e w' => ∃ x', e = .returned (.tuple #[x', .int .i64 0]) ∧ OwnB w2.heap.size w' x' ((bits ++ [nx]) ++ unval y 15) ∧ Below w2.heap.size w2 w' from refput_ok y 15 H2.out.1 (by omega) (Nat.lt_of_lt_of_le HY15.out (by decide)) (by simp; omega) (by have := HY15.out; omega))
              clear hown2 hgrow
              go_wp2_with (go_at_call 50; refine HPU.out.mono ?_; rintro e w3 ⟨x3, rfl, ho3, hb3⟩; have HO3 := Lib.hid ho3; have HB3 := Lib.hid (H2.out.2.trans (hb3.mono H2.out.2.size)); clear ho3 hb3)
              go_roundw
              case rel => exact ⟨k + 1, by omega, by go_num, HK2, Lib.hid (by rw [HX.out]; exact ⟨own_down HO3.out.1 (H2.out.2.size), HO3.out.2⟩), HB3⟩
              case measure => simp [intOf]; omega
        · obtain rfl : k = n := by omega
          have HK2 := Lib.hid (show l.all (mayL 15) = true by have := HK.out; rwa [← HN.out, List.take_length] at this)
          have HBL := Lib.hid (length_wbk 15 (l.map Int.toNat) k)
          rw [HWB.out] at HO HBL hbl ⊢
          generalize hbits : wbl 15 (l.map Int.toNat) = bits at *
          have HBI := Lib.hid hbits
          have HBY := Lib.hid (refbytes_any c6 HO.out.src (by omega))
          clear hbits hbl hlt hk
          go_wp2_with (go_at_call 52; refine HBY.out.mono ?_; rintro e w6 ⟨x6, rfl, ho6, hb6⟩; have HO6 := Lib.hid ho6; have HB6 := Lib.hid hb6; clear ho6 hb6)
          refine bodyPost_ret (v := .tuple #[x6, .int .i64 0]) (by simp [results, Try.results85, go_sem]) rfl ⟨.inl ⟨by rw [HF.out, HK2.out]; rfl, x6, rfl, ?_⟩, bl_step' HB.out (HB6.out.mono HB.out.size)⟩
          have h9 := HO6.out
          rw [HBL.out, ← HBI.out] at h9
          exact own_down h9 HB.out.size

set_option maxHeartbeats 400000 in
theorem refwrite_kind (v : Value) {x : Int} (w : World) (h : okW x = false) :
    Calls Try.prog 85 #[v, .int .i64 x] w fun e w' => e = .returned (.tuple #[.slice none 0 0, .int .i64 9]) ∧ w = w' := by
  obtain ⟨h1, h2⟩ := okW_not h
  have h3 : (x != 11) = true := by simpa using h1
  have h4 : (x != 15) = true := by simpa using h2
  clear h h1 h2
  go_enter Try.func85, Try.ntmps85
  go_wp2
  exact bodyPost_ret (v := .tuple #[.slice none 0 0, .int .i64 9]) (by simp [results, Try.results85, go_sem]) rfl ⟨rfl, rfl⟩
end Go.Proofs.Ytdklddpkklodnaa
