/-
  What Write does: the bytes of lengths, or why there are none.
-/
import Derived.Test.YtdklddpkklodnaaLensFault
namespace Go.Proofs.Ytdklddpkklodnaa
open Go.RowKit

theorem cell_below {w v : World} {p : Addr} {x : Value} (hb : Below w.heap.size w v) (h : w.cell? p = some x) : v.cell? p = some x := by
  have hp : p.block < w.heap.size := by
    rcases Nat.lt_or_ge p.block w.heap.size with h2 | h2
    · exact h2
    · exfalso
      simp [World.cell?, Array.getElem?_eq_none h2] at h
  exact (hb.cell hp).trans h

set_option maxHeartbeats 400000 in
theorem write_bad (v : Value) (x er : Int) (w : World) (he : er ≠ 0) (hf : Calls Try.prog 96 #[v, .int .i64 x] w fun e w' => e = .returned (.int .i64 er) ∧ w = w') :
    Calls Try.prog 73 #[v, .int .i64 x] w fun e w' => e = .returned (.tuple #[.slice none 0 0, .int .i64 er]) ∧ w = w' := by
  have HF := Lib.hid hf
  have h1 : (er != 0) = true := by simpa using he
  clear hf
  go_enter Try.func73, Try.ntmps73
  go_wp2_with (go_at_call 96; refine HF.out.mono ?_; rintro e w1 ⟨rfl, rfl⟩)
  exact bodyPost_ret (v := .tuple #[.slice none 0 0, .int .i64 er]) (by simp [results, Try.results73, go_sem]) rfl ⟨rfl, rfl⟩

set_option maxRecDepth 100000 in
set_option maxHeartbeats 1600000 in
theorem write_ok_11 {A : Option Addr} {L : List Nat} (n cap : Nat) (w : World) (hn : L.length = n) (h0 : 1 ≤ n) (h23 : n ≤ 23) (hL : ∀ x ∈ L, 1 ≤ x ∧ x < 2 ^ 11) (hs : Src w A (insN L)) :
    Calls Try.prog 73 #[.slice A n cap, .int .i64 11] w fun e w' => ∃ g, e = .returned (.tuple #[.slice (some ⟨g, 0, none⟩) (packLen (n * (11 + 1))) (packLen (n * (11 + 1))), .int .i64 0]) ∧ w.heap.size ≤ g ∧ Row w' g 5 (bts (pack (wbl 11 L))).toArray ∧ Below w.heap.size w w' := by
  have hf : faultF (L.map (fun n : Nat => (n : Int))) 11 = 0 := by
    unfold faultF
    rw [List.length_map, hn, if_neg (by omega), if_neg (by omega), if_pos]
    rw [List.all_eq_true]
    intro x hx
    rw [List.mem_map] at hx
    obtain ⟨y, hy, rfl⟩ := hx
    have h1 := hL y hy
    unfold mayL
    rw [decide_eq_true (show (1 : Int) ≤ y by omega), decide_eq_true (show (y : Int) < 2 ^ 11 by simp only [show (2 : Int) ^ 11 = 2048 from rfl]; omega)]
    rfl
  have hfa := fault_11 (l := L.map (fun n : Nat => (n : Int))) n cap w (by rw [List.length_map]; exact hn) (by unfold maxLen; omega) hs
  rw [hf] at hfa
  have HF := Lib.hid hfa
  have HN := Lib.hid (new_any w.heap.size w (Nat.le_refl _))
  have HS := Lib.hid hs
  have HL := Lib.hid hL
  have HLN := Lib.hid hn
  have HWB := Lib.hid (wbk_all 11 L)
  rw [hn] at HWB
  have hn0 : (0 : Int) < (n : Int) := by omega
  clear hs hL hn hfa hf
  go_enter Try.func73, Try.ntmps73
  go_wp2_with (first
    | (go_at_call 96; refine HF.out.mono ?_; rintro e w1 ⟨rfl, rfl⟩)
    | (go_at_call 41; refine HN.out.mono ?_; rintro e w2 ⟨rfl, hr2, hb2⟩; have HR2 := Lib.hid hr2; have HB2 := Lib.hid hb2; clear hr2 hb2))
  generalize hp : w.heap.size = p at HR2 ⊢
  have HP := Lib.hid hp
  have HR0 : Hid (WRep p w2 p (.slice none 0 0) (wbk 11 L 0)) := HR2
  clear hp HR2
  go_loopw [19] (fun i wr => ∃ (k : Nat) (sv : Value), k ≤ n ∧ i = .int .i64 k ∧ Hid (WRep p wr p sv (wbk 11 L k)) ∧ Hid (Below p w wr)) (fun i _ => n - (intOf i).toNat)
  case atStart => exact ⟨0, _, by omega, rfl, HR0, by rw [← HP.out]; exact HB2⟩
  case round =>
    obtain ⟨k, sv, hk, rfl, HR, HB⟩ := hrel
    clear HR0 HB2
    have hbl : (wbk 11 L k).length ≤ 400 := by
      rw [length_wbk]
      have := Nat.mul_le_mul_right (11 + 1) hk
      omega
    by_cases hlt : k < n
    · have hkl : k < L.length := by have := HLN.out; omega
      have hx : L[k]? = some L[k] := List.getElem?_eq_getElem hkl
      obtain ⟨ad, rfl, hc⟩ := HS.out (by rw [length_insN]; omega)
      have hat : (insN L)[k]? = some (.int .i64 (L[k] : Nat)) := by simp [insN, hx]
      have hcell0 := hc _ _ hat
      have hcell : wr.cell? (ad.add k) = some (.int .i64 (L[k] : Nat)) := cell_below (by rw [HP.out]; exact HB.out) hcell0
      have hrange := HL.out _ (List.getElem_mem hkl)
      have HX := Lib.hid (show wbk 11 L (k + 1) = (wbk 11 L k ++ [decide (k + 1 < n)]) ++ unval L[k] 11 by
        rw [wbk, List.getD_eq_getElem?_getD, hx, HLN.out]
        simp)
      generalize L[k] = x at *
      have hlt2 : (k : Int) < (n : Int) := by omega
      have hk0 : (0 : Int) ≤ (k : Int) := by omega
      have hxw : IntKind.u64.wrap (x : Int) = (x : Int) := by rw [IntKind.wrap_u64]; omega
      have hx15 : x < 2048 := hrange.2
      have HXR := Lib.hid hrange.2
      clear hc hx hat hcell0 hrange
      have HP2 := Lib.hid (fun W sv' bl (h : WRep p W p sv' bl) (hb : bl.length ≤ 500) => (show Calls Try.prog 42 #[.pointer (some ⟨p, 0, none⟩), .int .u64 x, .int .i64 11] W (Wrote p W p sv' (bl ++ unval x 11) (.returned (.int .i64 0))) from put_any x 11 W h (by omega) HXR.out (by omega) (by omega)))
      by_cases hk1 : k + 1 < n
      · have hd : (k : Int) < (n : Int) - 1 := by omega
        have HFo := Lib.hid (follows_any true wr)
        have HP1 := Lib.hid (show Calls Try.prog 42 #[.pointer (some ⟨p, 0, none⟩), .int .u64 1, .int .i64 1] wr (Wrote p wr p sv (wbk 11 L k ++ [true]) (.returned (.int .i64 0))) from put_any 1 1 wr HR.out (by omega) (by omega) (by omega) (by omega))
        rw [decide_eq_true hk1] at HX
        go_wp2_with (first
          | (go_at_call 97; refine HFo.out.mono ?_; rintro e w3 ⟨rfl, rfl⟩; rw [show ((true.toNat : Nat) : Int) = 1 from rfl])
          | (go_at_call 42; (with_reducible refine HP1.out.mono ?_); rintro e w4 ⟨rfl, sv4, hr4, ho4, hy4⟩; have HR4 := Lib.hid hr4; have HB4 := Lib.hid (HB.out.trans (wrote_below HR.out hy4)); clear hr4 ho4 hy4)
          | (go_at_call 42; refine (HP2.out w4 sv4 _ HR4.out (by simp; omega)).mono ?_; rintro e w5 ⟨rfl, sv5, hr5, ho5, hy5⟩; have HR5 := Lib.hid hr5; have HB5 := Lib.hid (HB4.out.trans (wrote_below HR4.out hy5)); clear hr5 ho5 hy5))
        go_roundw
        case rel => exact ⟨k + 1, sv5, by omega, by go_num, Lib.hid (by rw [HX.out]; exact HR5.out), HB5⟩
        case measure => simp [intOf]; omega
      · have hd : ¬ (k : Int) < (n : Int) - 1 := by omega
        have HFo := Lib.hid (follows_any false wr)
        have HP1 := Lib.hid (show Calls Try.prog 42 #[.pointer (some ⟨p, 0, none⟩), .int .u64 0, .int .i64 1] wr (Wrote p wr p sv (wbk 11 L k ++ [false]) (.returned (.int .i64 0))) from put_any 0 1 wr HR.out (by omega) (by omega) (by omega) (by omega))
        rw [decide_eq_false hk1] at HX
        go_wp2_with (first
          | (go_at_call 97; refine HFo.out.mono ?_; rintro e w3 ⟨rfl, rfl⟩; rw [show ((false.toNat : Nat) : Int) = 0 from rfl])
          | (go_at_call 42; (with_reducible refine HP1.out.mono ?_); rintro e w4 ⟨rfl, sv4, hr4, ho4, hy4⟩; have HR4 := Lib.hid hr4; have HB4 := Lib.hid (HB.out.trans (wrote_below HR.out hy4)); clear hr4 ho4 hy4)
          | (go_at_call 42; refine (HP2.out w4 sv4 _ HR4.out (by simp; omega)).mono ?_; rintro e w5 ⟨rfl, sv5, hr5, ho5, hy5⟩; have HR5 := Lib.hid hr5; have HB5 := Lib.hid (HB4.out.trans (wrote_below HR4.out hy5)); clear hr5 ho5 hy5))
        go_roundw
        case rel => exact ⟨k + 1, sv5, by omega, by go_num, Lib.hid (by rw [HX.out]; exact HR5.out), HB5⟩
        case measure => simp [intOf]; omega
    · obtain rfl : k = n := by omega
      have HBY := Lib.hid (bytes_any HR.out (by omega))
      rw [length_wbk, HWB.out] at HBY
      clear hbl hlt hk
      go_wp2_with (go_at_call 45; refine HBY.out.mono ?_; rintro e w6 ⟨g, rfl, hg, hrow, hb6⟩)
      exact bodyPost_ret (v := .tuple #[.slice (some ⟨g, 0, none⟩) (packLen (k * (11 + 1))) (packLen (k * (11 + 1))), .int .i64 0]) (by simp [results, Try.results73, go_sem]) rfl ⟨g, rfl, by have := HB.out.size; omega, hrow, by rw [HP.out]; exact bl_step' HB.out (hb6.mono (by have := HP.out; have := HB.out.size; omega))⟩

set_option maxRecDepth 100000 in
set_option maxHeartbeats 1600000 in
theorem write_ok_15 {A : Option Addr} {L : List Nat} (n cap : Nat) (w : World) (hn : L.length = n) (h0 : 1 ≤ n) (h23 : n ≤ 23) (hL : ∀ x ∈ L, 1 ≤ x ∧ x < 2 ^ 15) (hs : Src w A (insN L)) :
    Calls Try.prog 73 #[.slice A n cap, .int .i64 15] w fun e w' => ∃ g, e = .returned (.tuple #[.slice (some ⟨g, 0, none⟩) (packLen (n * (15 + 1))) (packLen (n * (15 + 1))), .int .i64 0]) ∧ w.heap.size ≤ g ∧ Row w' g 5 (bts (pack (wbl 15 L))).toArray ∧ Below w.heap.size w w' := by
  have hf : faultF (L.map (fun n : Nat => (n : Int))) 15 = 0 := by
    unfold faultF
    rw [List.length_map, hn, if_neg (by omega), if_neg (by omega), if_pos]
    rw [List.all_eq_true]
    intro x hx
    rw [List.mem_map] at hx
    obtain ⟨y, hy, rfl⟩ := hx
    have h1 := hL y hy
    unfold mayL
    rw [decide_eq_true (show (1 : Int) ≤ y by omega), decide_eq_true (show (y : Int) < 2 ^ 15 by simp only [show (2 : Int) ^ 15 = 32768 from rfl]; omega)]
    rfl
  have hfa := fault_15 (l := L.map (fun n : Nat => (n : Int))) n cap w (by rw [List.length_map]; exact hn) (by unfold maxLen; omega) hs
  rw [hf] at hfa
  have HF := Lib.hid hfa
  have HN := Lib.hid (new_any w.heap.size w (Nat.le_refl _))
  have HS := Lib.hid hs
  have HL := Lib.hid hL
  have HLN := Lib.hid hn
  have HWB := Lib.hid (wbk_all 15 L)
  rw [hn] at HWB
  have hn0 : (0 : Int) < (n : Int) := by omega
  clear hs hL hn hfa hf
  go_enter Try.func73, Try.ntmps73
  go_wp2_with (first
    | (go_at_call 96; refine HF.out.mono ?_; rintro e w1 ⟨rfl, rfl⟩)
    | (go_at_call 41; refine HN.out.mono ?_; rintro e w2 ⟨rfl, hr2, hb2⟩; have HR2 := Lib.hid hr2; have HB2 := Lib.hid hb2; clear hr2 hb2))
  generalize hp : w.heap.size = p at HR2 ⊢
  have HP := Lib.hid hp
  have HR0 : Hid (WRep p w2 p (.slice none 0 0) (wbk 15 L 0)) := HR2
  clear hp HR2
  go_loopw [19] (fun i wr => ∃ (k : Nat) (sv : Value), k ≤ n ∧ i = .int .i64 k ∧ Hid (WRep p wr p sv (wbk 15 L k)) ∧ Hid (Below p w wr)) (fun i _ => n - (intOf i).toNat)
  case atStart => exact ⟨0, _, by omega, rfl, HR0, by rw [← HP.out]; exact HB2⟩
  case round =>
    obtain ⟨k, sv, hk, rfl, HR, HB⟩ := hrel
    clear HR0 HB2
    have hbl : (wbk 15 L k).length ≤ 400 := by
      rw [length_wbk]
      have := Nat.mul_le_mul_right (15 + 1) hk
      omega
    by_cases hlt : k < n
    · have hkl : k < L.length := by have := HLN.out; omega
      have hx : L[k]? = some L[k] := List.getElem?_eq_getElem hkl
      obtain ⟨ad, rfl, hc⟩ := HS.out (by rw [length_insN]; omega)
      have hat : (insN L)[k]? = some (.int .i64 (L[k] : Nat)) := by simp [insN, hx]
      have hcell0 := hc _ _ hat
      have hcell : wr.cell? (ad.add k) = some (.int .i64 (L[k] : Nat)) := cell_below (by rw [HP.out]; exact HB.out) hcell0
      have hrange := HL.out _ (List.getElem_mem hkl)
      have HX := Lib.hid (show wbk 15 L (k + 1) = (wbk 15 L k ++ [decide (k + 1 < n)]) ++ unval L[k] 15 by
        rw [wbk, List.getD_eq_getElem?_getD, hx, HLN.out]
        simp)
      generalize L[k] = x at *
      have hlt2 : (k : Int) < (n : Int) := by omega
      have hk0 : (0 : Int) ≤ (k : Int) := by omega
      have hxw : IntKind.u64.wrap (x : Int) = (x : Int) := by rw [IntKind.wrap_u64]; omega
      have hx15 : x < 32768 := hrange.2
      have HXR := Lib.hid hrange.2
      clear hc hx hat hcell0 hrange
      have HP2 := Lib.hid (fun W sv' bl (h : WRep p W p sv' bl) (hb : bl.length ≤ 500) => (show Calls Try.prog 42 #[.pointer (some ⟨p, 0, none⟩), .int .u64 x, .int .i64 15] W (Wrote p W p sv' (bl ++ unval x 15) (.returned (.int .i64 0))) from put_any x 15 W h (by omega) HXR.out (by omega) (by omega)))
      by_cases hk1 : k + 1 < n
      · have hd : (k : Int) < (n : Int) - 1 := by omega
        have HFo := Lib.hid (follows_any true wr)
        have HP1 := Lib.hid (show Calls Try.prog 42 #[.pointer (some ⟨p, 0, none⟩), .int .u64 1, .int .i64 1] wr (Wrote p wr p sv (wbk 15 L k ++ [true]) (.returned (.int .i64 0))) from put_any 1 1 wr HR.out (by omega) (by omega) (by omega) (by omega))
        rw [decide_eq_true hk1] at HX
        go_wp2_with (first
          | (go_at_call 97; refine HFo.out.mono ?_; rintro e w3 ⟨rfl, rfl⟩; rw [show ((true.toNat : Nat) : Int) = 1 from rfl])
          | (go_at_call 42; (with_reducible refine HP1.out.mono ?_); rintro e w4 ⟨rfl, sv4, hr4, ho4, hy4⟩; have HR4 := Lib.hid hr4; have HB4 := Lib.hid (HB.out.trans (wrote_below HR.out hy4)); clear hr4 ho4 hy4)
          | (go_at_call 42; refine (HP2.out w4 sv4 _ HR4.out (by simp; omega)).mono ?_; rintro e w5 ⟨rfl, sv5, hr5, ho5, hy5⟩; have HR5 := Lib.hid hr5; have HB5 := Lib.hid (HB4.out.trans (wrote_below HR4.out hy5)); clear hr5 ho5 hy5))
        go_roundw
        case rel => exact ⟨k + 1, sv5, by omega, by go_num, Lib.hid (by rw [HX.out]; exact HR5.out), HB5⟩
        case measure => simp [intOf]; omega
      · have hd : ¬ (k : Int) < (n : Int) - 1 := by omega
        have HFo := Lib.hid (follows_any false wr)
        have HP1 := Lib.hid (show Calls Try.prog 42 #[.pointer (some ⟨p, 0, none⟩), .int .u64 0, .int .i64 1] wr (Wrote p wr p sv (wbk 15 L k ++ [false]) (.returned (.int .i64 0))) from put_any 0 1 wr HR.out (by omega) (by omega) (by omega) (by omega))
        rw [decide_eq_false hk1] at HX
        go_wp2_with (first
          | (go_at_call 97; refine HFo.out.mono ?_; rintro e w3 ⟨rfl, rfl⟩; rw [show ((false.toNat : Nat) : Int) = 0 from rfl])
          | (go_at_call 42; (with_reducible refine HP1.out.mono ?_); rintro e w4 ⟨rfl, sv4, hr4, ho4, hy4⟩; have HR4 := Lib.hid hr4; have HB4 := Lib.hid (HB.out.trans (wrote_below HR.out hy4)); clear hr4 ho4 hy4)
          | (go_at_call 42; refine (HP2.out w4 sv4 _ HR4.out (by simp; omega)).mono ?_; rintro e w5 ⟨rfl, sv5, hr5, ho5, hy5⟩; have HR5 := Lib.hid hr5; have HB5 := Lib.hid (HB4.out.trans (wrote_below HR4.out hy5)); clear hr5 ho5 hy5))
        go_roundw
        case rel => exact ⟨k + 1, sv5, by omega, by go_num, Lib.hid (by rw [HX.out]; exact HR5.out), HB5⟩
        case measure => simp [intOf]; omega
    · obtain rfl : k = n := by omega
      have HBY := Lib.hid (bytes_any HR.out (by omega))
      rw [length_wbk, HWB.out] at HBY
      clear hbl hlt hk
      go_wp2_with (go_at_call 45; refine HBY.out.mono ?_; rintro e w6 ⟨g, rfl, hg, hrow, hb6⟩)
      exact bodyPost_ret (v := .tuple #[.slice (some ⟨g, 0, none⟩) (packLen (k * (15 + 1))) (packLen (k * (15 + 1))), .int .i64 0]) (by simp [results, Try.results73, go_sem]) rfl ⟨g, rfl, by have := HB.out.size; omega, hrow, by rw [HP.out]; exact bl_step' HB.out (hb6.mono (by have := HP.out; have := HB.out.size; omega))⟩
end Go.Proofs.Ytdklddpkklodnaa
