/-
  What is wrong with lengths that are to be written; lengths written. What Write does: the bytes of lengths, or why there are none. status: which statuses may be. status: how many bytes a status has.
-/
import Derived.Test.YtgdpjaojlhdhdaaJUmtxFits05
import Derived.Test.YtgdpjaojlhdhdaaJUmtxFits02
namespace Go.Proofs.Ytgdpjaojlhdhdaa
open Go.RowKit

/-- ints as values -/
def ins (l : List Int) : List Value := l.map (fun x => Value.int .i64 x)
theorem length_ins (l : List Int) : (ins l).length = l.length := by simp [ins]
theorem ins_at {l : List Int} {i : Nat} {x : Int} (h : l[i]? = some x) : (ins l)[i]? = some (.int .i64 x) := by simp [ins, h]
/-- may a length be? -/
def mayL (w : Nat) (x : Int) : Bool := decide (1 ≤ x) && decide (x < 2 ^ w)
/-- what is wrong with lengths -/
def faultF (l : List Int) (w : Nat) : Int := if l.length = 0 then 4 else if 23 < l.length then 2 else if l.all (mayL w) then 0 else 1

set_option maxHeartbeats 400000 in
theorem fault_kind (v : Value) {x : Int} (w : World) (h : okW x = false) : Calls Try.prog 324 #[v, .int .i64 x] w fun e w' => e = .returned (.int .i64 9) ∧ w = w' := by
  have HM := Lib.hid (lmay_any x w)
  rw [h] at HM
  clear h
  go_enter Try.func324, Try.ntmps324
  go_wp2_with (go_at_call 312; refine HM.out.mono ?_; rintro e w1 ⟨rfl, rfl⟩)
  go_ret
  exact ⟨rfl, rfl⟩

set_option maxHeartbeats 800000 in
theorem fault_11 {A : Option Addr} {l : List Int} (n cap : Nat) (w : World) (hn : l.length = n) (hm : n ≤ maxLen) (hs : Src w A (ins l)) :
    Calls Try.prog 324 #[.slice A n cap, .int .i64 11] w fun e w' => e = .returned (.int .i64 (faultF l 11)) ∧ w = w' := by
  have HM := Lib.hid (lmay_any 11 w)
  rw [show okW 11 = true from rfl] at HM
  have HG := Lib.hid (longest_ok (x := 11) rfl w)
  have HS := Lib.hid hs
  have HN := Lib.hid hn
  unfold maxLen at hm
  clear hs hn
  rcases Nat.eq_zero_or_pos n with h0 | h0
  · have HF := Lib.hid (show faultF l 11 = 4 by unfold faultF; rw [HN.out, if_pos h0])
    subst h0
    go_enter Try.func324, Try.ntmps324
    go_wp2_with (go_at_call 312; refine HM.out.mono ?_; rintro e w1 ⟨rfl, rfl⟩)
    go_ret
    exact ⟨by rw [HF.out]; rfl, rfl⟩
  · have hz : ((n : Int) == 0) = false := by simp; omega
    rcases Nat.lt_or_ge 23 n with h1 | h1
    · have HF := Lib.hid (show faultF l 11 = 2 by unfold faultF; rw [HN.out, if_neg (by omega), if_pos h1])
      have h1' : (23 : Int) < (n : Int) := by omega
      go_enter Try.func324, Try.ntmps324
      go_wp2_with (go_at_call 312; refine HM.out.mono ?_; rintro e w1 ⟨rfl, rfl⟩)
      go_ret
      exact ⟨by rw [HF.out]; rfl, rfl⟩
    · have h1' : ¬ (23 : Int) < (n : Int) := by omega
      have HF := Lib.hid (show faultF l 11 = if l.all (mayL 11) then 0 else 1 by unfold faultF; rw [HN.out, if_neg (by omega), if_neg (by omega)])
      go_enter Try.func324, Try.ntmps324
      go_wp2_with (go_at_call 312; refine HM.out.mono ?_; rintro e w1 ⟨rfl, rfl⟩)
      go_loopw [21] (fun i wr => ∃ k : Nat, k ≤ n ∧ i = .int .i64 k ∧ Hid ((l.take k).all (mayL 11) = true) ∧ w = wr) (fun i _ => n - (intOf i).toNat)
      case atStart => exact ⟨0, by omega, rfl, Lib.hid rfl, rfl⟩
      case round =>
        obtain ⟨k, hk, rfl, HK, rfl⟩ := hrel
        by_cases hlt : k < n
        · have hkl : k < l.length := by have := HN.out; omega
          have hx : l[k]? = some l[k] := List.getElem?_eq_getElem hkl
          obtain ⟨ad, rfl, hc⟩ := HS.out (by rw [length_ins]; omega)
          have hcell := hc _ _ (ins_at hx)
          have htk : (l.take (k + 1)).all (mayL 11) = mayL 11 l[k] := by
            rw [List.take_succ_eq_append_getElem hkl, List.all_append, HK.out]
            simp
          have hall : mayL 11 l[k] = false → l.all (mayL 11) = false := fun h => by
            rw [← Bool.not_eq_true, List.all_eq_true]
            intro hh
            rw [hh l[k] (List.getElem_mem hkl)] at h
            cases h
          generalize l[k] = x at *
          have HT := Lib.hid htk
          have HA := Lib.hid hall
          have hlt2 : (k : Int) < (n : Int) := by omega
          have hk0 : (0 : Int) ≤ (k : Int) := by omega
          clear hc hx htk hall
          by_cases h2 : x < 1
          · have HE := Lib.hid (HA.out (by unfold mayL; rw [decide_eq_false (by omega)]; rfl))
            go_wp2_with (go_at_call 342; refine HG.out.mono ?_; rintro e w1 ⟨rfl, rfl⟩)
            go_ret
            exact ⟨by rw [HF.out, HE.out]; rfl, rfl⟩
          · by_cases h3 : 2047 < x
            · have HE := Lib.hid (HA.out (by unfold mayL; rw [decide_eq_false (show ¬ x < 2 ^ 11 by simp only [show (2 : Int) ^ 11 = 2047 + 1 from rfl]; omega)]; simp))
              go_wp2_with (go_at_call 342; refine HG.out.mono ?_; rintro e w1 ⟨rfl, rfl⟩)
              go_ret
              exact ⟨by rw [HF.out, HE.out]; rfl, rfl⟩
            · have HE := Lib.hid (show mayL 11 x = true by unfold mayL; rw [decide_eq_true (show 1 ≤ x by omega), decide_eq_true (show x < 2 ^ 11 by simp only [show (2 : Int) ^ 11 = 2047 + 1 from rfl]; omega)]; rfl)
              go_wp2_with (go_at_call 342; refine HG.out.mono ?_; rintro e w1 ⟨rfl, rfl⟩)
              go_roundw
              case rel => exact ⟨k + 1, by omega, by go_num, Lib.hid (by rw [HT.out, HE.out]), trivial⟩
              case measure => simp [intOf]; omega
        · obtain rfl : k = n := by omega
          have HK2 := Lib.hid (show l.all (mayL 11) = true by have := HK.out; rwa [← HN.out, List.take_length] at this)
          go_wp2
          go_ret
          exact ⟨by rw [HF.out, HK2.out]; rfl, rfl⟩

set_option maxHeartbeats 800000 in
theorem fault_15 {A : Option Addr} {l : List Int} (n cap : Nat) (w : World) (hn : l.length = n) (hm : n ≤ maxLen) (hs : Src w A (ins l)) :
    Calls Try.prog 324 #[.slice A n cap, .int .i64 15] w fun e w' => e = .returned (.int .i64 (faultF l 15)) ∧ w = w' := by
  have HM := Lib.hid (lmay_any 15 w)
  rw [show okW 15 = true from rfl] at HM
  have HG := Lib.hid (longest_ok (x := 15) rfl w)
  have HS := Lib.hid hs
  have HN := Lib.hid hn
  unfold maxLen at hm
  clear hs hn
  rcases Nat.eq_zero_or_pos n with h0 | h0
  · have HF := Lib.hid (show faultF l 15 = 4 by unfold faultF; rw [HN.out, if_pos h0])
    subst h0
    go_enter Try.func324, Try.ntmps324
    go_wp2_with (go_at_call 312; refine HM.out.mono ?_; rintro e w1 ⟨rfl, rfl⟩)
    go_ret
    exact ⟨by rw [HF.out]; rfl, rfl⟩
  · have hz : ((n : Int) == 0) = false := by simp; omega
    rcases Nat.lt_or_ge 23 n with h1 | h1
    · have HF := Lib.hid (show faultF l 15 = 2 by unfold faultF; rw [HN.out, if_neg (by omega), if_pos h1])
      have h1' : (23 : Int) < (n : Int) := by omega
      go_enter Try.func324, Try.ntmps324
      go_wp2_with (go_at_call 312; refine HM.out.mono ?_; rintro e w1 ⟨rfl, rfl⟩)
      go_ret
      exact ⟨by rw [HF.out]; rfl, rfl⟩
    · have h1' : ¬ (23 : Int) < (n : Int) := by omega
      have HF := Lib.hid (show faultF l 15 = if l.all (mayL 15) then 0 else 1 by unfold faultF; rw [HN.out, if_neg (by omega), if_neg (by omega)])
      go_enter Try.func324, Try.ntmps324
      go_wp2_with (go_at_call 312; refine HM.out.mono ?_; rintro e w1 ⟨rfl, rfl⟩)
      go_loopw [21] (fun i wr => ∃ k : Nat, k ≤ n ∧ i = .int .i64 k ∧ Hid ((l.take k).all (mayL 15) = true) ∧ w = wr) (fun i _ => n - (intOf i).toNat)
      case atStart => exact ⟨0, by omega, rfl, Lib.hid rfl, rfl⟩
      case round =>
        obtain ⟨k, hk, rfl, HK, rfl⟩ := hrel
        by_cases hlt : k < n
        · have hkl : k < l.length := by have := HN.out; omega
          have hx : l[k]? = some l[k] := List.getElem?_eq_getElem hkl
          obtain ⟨ad, rfl, hc⟩ := HS.out (by rw [length_ins]; omega)
          have hcell := hc _ _ (ins_at hx)
          have htk : (l.take (k + 1)).all (mayL 15) = mayL 15 l[k] := by
            rw [List.take_succ_eq_append_getElem hkl, List.all_append, HK.out]
            simp
          have hall : mayL 15 l[k] = false → l.all (mayL 15) = false := fun h => by
            rw [← Bool.not_eq_true, List.all_eq_true]
            intro hh
            rw [hh l[k] (List.getElem_mem hkl)] at h
            cases h
          generalize l[k] = x at *
          have HT := Lib.hid htk
          have HA := Lib.hid hall
          have hlt2 : (k : Int) < (n : Int) := by omega
          have hk0 : (0 : Int) ≤ (k : Int) := by omega
          clear hc hx htk hall
          by_cases h2 : x < 1
          · have HE := Lib.hid (HA.out (by unfold mayL; rw [decide_eq_false (by omega)]; rfl))
            go_wp2_with (go_at_call 342; refine HG.out.mono ?_; rintro e w1 ⟨rfl, rfl⟩)
            go_ret
            exact ⟨by rw [HF.out, HE.out]; rfl, rfl⟩
          · by_cases h3 : 32767 < x
            · have HE := Lib.hid (HA.out (by unfold mayL; rw [decide_eq_false (show ¬ x < 2 ^ 15 by simp only [show (2 : Int) ^ 15 = 32767 + 1 from rfl]; omega)]; simp))
              go_wp2_with (go_at_call 342; refine HG.out.mono ?_; rintro e w1 ⟨rfl, rfl⟩)
              go_ret
              exact ⟨by rw [HF.out, HE.out]; rfl, rfl⟩
            · have HE := Lib.hid (show mayL 15 x = true by unfold mayL; rw [decide_eq_true (show 1 ≤ x by omega), decide_eq_true (show x < 2 ^ 15 by simp only [show (2 : Int) ^ 15 = 32767 + 1 from rfl]; omega)]; rfl)
              go_wp2_with (go_at_call 342; refine HG.out.mono ?_; rintro e w1 ⟨rfl, rfl⟩)
              go_roundw
              case rel => exact ⟨k + 1, by omega, by go_num, Lib.hid (by rw [HT.out, HE.out]), trivial⟩
              case measure => simp [intOf]; omega
        · obtain rfl : k = n := by omega
          have HK2 := Lib.hid (show l.all (mayL 15) = true by have := HK.out; rwa [← HN.out, List.take_length] at this)
          go_wp2
          go_ret
          exact ⟨by rw [HF.out, HK2.out]; rfl, rfl⟩
end Go.Proofs.Ytgdpjaojlhdhdaa
namespace Go.Proofs.Ytgdpjaojlhdhdaa
open Go.RowKit

theorem cell_below {w v : World} {p : Addr} {x : Value} (hb : Below w.heap.size w v) (h : w.cell? p = some x) : v.cell? p = some x := by
  have hp : p.block < w.heap.size := by
    rcases Nat.lt_or_ge p.block w.heap.size with h2 | h2
    · exact h2
    · exfalso
      simp [World.cell?, Array.getElem?_eq_none h2] at h
  exact (hb.cell hp).trans h

set_option maxHeartbeats 400000 in
theorem write_bad (v : Value) (x er : Int) (w : World) (he : er ≠ 0) (hf : Calls Try.prog 324 #[v, .int .i64 x] w fun e w' => e = .returned (.int .i64 er) ∧ w = w') :
    Calls Try.prog 285 #[v, .int .i64 x] w fun e w' => e = .returned (.tuple #[.slice none 0 0, .int .i64 er]) ∧ w = w' := by
  have HF := Lib.hid hf
  have h1 : (er != 0) = true := by simpa using he
  clear hf
  go_enter Try.func285, Try.ntmps285
  go_wp2_with (go_at_call 324; refine HF.out.mono ?_; rintro e w1 ⟨rfl, rfl⟩)
  exact bodyPost_ret (v := .tuple #[.slice none 0 0, .int .i64 er]) (by simp [results, Try.results285, go_sem]) rfl ⟨rfl, rfl⟩

set_option maxRecDepth 100000 in
set_option maxHeartbeats 1600000 in
theorem write_ok_11 {A : Option Addr} {L : List Nat} (n cap : Nat) (w : World) (hn : L.length = n) (h0 : 1 ≤ n) (h23 : n ≤ 23) (hL : ∀ x ∈ L, 1 ≤ x ∧ x < 2 ^ 11) (hs : Src w A (insN L)) :
    Calls Try.prog 285 #[.slice A n cap, .int .i64 11] w fun e w' => ∃ g, e = .returned (.tuple #[.slice (some ⟨g, 0, none⟩) (packLen (n * (11 + 1))) (packLen (n * (11 + 1))), .int .i64 0]) ∧ w.heap.size ≤ g ∧ Row w' g 5 (bts (pack (wbl 11 L))).toArray ∧ Below w.heap.size w w' := by
  have hf : faultF (L.map (fun n : Nat => (n : Int))) 11 = 0 := by
    unfold faultF
    rw [List.length_map, hn, if_neg (by omega), if_neg (by omega), if_pos]
    rw [List.all_eq_true]
    intro x hx
    rw [List.mem_map] at hx
    obtain ⟨y, hy, rfl⟩ := hx
    have h1 := hL y hy
    unfold mayL
    rw [decide_eq_true (show (1 : Int) ≤ y by omega), decide_eq_true (show (y : Int) < 2 ^ 11 by simp only [show (2 : Int) ^ 11 = 2048 from rfl]; omega)]
    rfl
  have hfa := fault_11 (l := L.map (fun n : Nat => (n : Int))) n cap w (by rw [List.length_map]; exact hn) (by unfold maxLen; omega) hs
  rw [hf] at hfa
  have HF := Lib.hid hfa
  have HN := Lib.hid (new_any w.heap.size w (Nat.le_refl _))
  have HS := Lib.hid hs
  have HL := Lib.hid hL
  have HLN := Lib.hid hn
  have HWB := Lib.hid (wbk_all 11 L)
  rw [hn] at HWB
  have hn0 : (0 : Int) < (n : Int) := by omega
  clear hs hL hn hfa hf
  go_enter Try.func285, Try.ntmps285
  go_wp2_with (first
    | (go_at_call 324; refine HF.out.mono ?_; rintro e w1 ⟨rfl, rfl⟩)
    | (go_at_call 268; refine HN.out.mono ?_; rintro e w2 ⟨rfl, hr2, hb2⟩; have HR2 := Lib.hid hr2; have HB2 := Lib.hid hb2; clear hr2 hb2))
  generalize hp : w.heap.size = p at HR2 ⊢
  have HP := Lib.hid hp
  have HR0 : Hid (WRep p w2 p (.slice none 0 0) (wbk 11 L 0)) := HR2
  clear hp HR2
  go_loopw [19] (fun i wr => ∃ (k : Nat) (sv : Value), k ≤ n ∧ i = .int .i64 k ∧ Hid (WRep p wr p sv (wbk 11 L k)) ∧ Hid (Below p w wr)) (fun i _ => n - (intOf i).toNat)
  case atStart => exact ⟨0, _, by omega, rfl, HR0, by rw [← HP.out]; exact HB2⟩
  case round =>
    obtain ⟨k, sv, hk, rfl, HR, HB⟩ := hrel
    clear HR0 HB2
    have hbl : (wbk 11 L k).length ≤ 400 := by
      rw [length_wbk]
      have := Nat.mul_le_mul_right (11 + 1) hk
      omega
    by_cases hlt : k < n
    · have hkl : k < L.length := by have := HLN.out; omega
      have hx : L[k]? = some L[k] := List.getElem?_eq_getElem hkl
      obtain ⟨ad, rfl, hc⟩ := HS.out (by rw [length_insN]; omega)
      have hat : (insN L)[k]? = some (.int .i64 (L[k] : Nat)) := by simp [insN, hx]
      have hcell0 := hc _ _ hat
      have hcell : wr.cell? (ad.add k) = some (.int .i64 (L[k] : Nat)) := cell_below (by rw [HP.out]; exact HB.out) hcell0
      have hrange := HL.out _ (List.getElem_mem hkl)
      have HX := Lib.hid (show wbk 11 L (k + 1) = (wbk 11 L k ++ [decide (k + 1 < n)]) ++ unval L[k] 11 by
        rw [wbk, List.getD_eq_getElem?_getD, hx, HLN.out]
        simp)
      generalize L[k] = x at *
      have hlt2 : (k : Int) < (n : Int) := by omega
      have hk0 : (0 : Int) ≤ (k : Int) := by omega
      have hxw : IntKind.u64.wrap (x : Int) = (x : Int) := by rw [IntKind.wrap_u64]; omega
      have hx15 : x < 2048 := hrange.2
      have HXR := Lib.hid hrange.2
      clear hc hx hat hcell0 hrange
      have HP2 := Lib.hid (fun W sv' bl (h : WRep p W p sv' bl) (hb : bl.length ≤ 500) => (show Calls Try.prog 269 #[.pointer (some ⟨p, 0, none⟩), .int .u64 x, .int .i64 11] W (Wrote p W p sv' (bl ++ unval x 11) (.returned (.int .i64 0))) from put_any x 11 W h (by omega) HXR.out (by omega) (by omega)))
      by_cases hk1 : k + 1 < n
      · have hd : (k : Int) < (n : Int) - 1 := by omega
        have HFo := Lib.hid (follows_any true wr)
        have HP1 := Lib.hid (show Calls Try.prog 269 #[.pointer (some ⟨p, 0, none⟩), .int .u64 1, .int .i64 1] wr (Wrote p wr p sv (wbk 11 L k ++ [true]) (.returned (.int .i64 0))) from put_any 1 1 wr HR.out (by omega) (by omega) (by omega) (by omega))
        rw [decide_eq_true hk1] at HX
        go_wp2_with (first
          | (go_at_call 325; refine HFo.out.mono ?_; rintro e w3 ⟨rfl, rfl⟩; rw [show ((true.toNat : Nat) : Int) = 1 from rfl])
          | (go_at_call 269; (with_reducible refine HP1.out.mono ?_); rintro e w4 ⟨rfl, sv4, hr4, ho4, hy4⟩; have HR4 := Lib.hid hr4; have HB4 := Lib.hid (HB.out.trans (wrote_below HR.out hy4)); clear hr4 ho4 hy4)
          | (go_at_call 269; refine (HP2.out w4 sv4 _ HR4.out (by simp; omega)).mono ?_; rintro e w5 ⟨rfl, sv5, hr5, ho5, hy5⟩; have HR5 := Lib.hid hr5; have HB5 := Lib.hid (HB4.out.trans (wrote_below HR4.out hy5)); clear hr5 ho5 hy5))
        go_roundw
        case rel => exact ⟨k + 1, sv5, by omega, by go_num, Lib.hid (by rw [HX.out]; exact HR5.out), HB5⟩
        case measure => simp [intOf]; omega
      · have hd : ¬ (k : Int) < (n : Int) - 1 := by omega
        have HFo := Lib.hid (follows_any false wr)
        have HP1 := Lib.hid (show Calls Try.prog 269 #[.pointer (some ⟨p, 0, none⟩), .int .u64 0, .int .i64 1] wr (Wrote p wr p sv (wbk 11 L k ++ [false]) (.returned (.int .i64 0))) from put_any 0 1 wr HR.out (by omega) (by omega) (by omega) (by omega))
        rw [decide_eq_false hk1] at HX
        go_wp2_with (first
          | (go_at_call 325; refine HFo.out.mono ?_; rintro e w3 ⟨rfl, rfl⟩; rw [show ((false.toNat : Nat) : Int) = 0 from rfl])
          | (go_at_call 269; (with_reducible refine HP1.out.mono ?_); rintro e w4 ⟨rfl, sv4, hr4, ho4, hy4⟩; have HR4 := Lib.hid hr4; have HB4 := Lib.hid (HB.out.trans (wrote_below HR.out hy4)); clear hr4 ho4 hy4)
          | (go_at_call 269; refine (HP2.out w4 sv4 _ HR4.out (by simp; omega)).mono ?_; rintro e w5 ⟨rfl, sv5, hr5, ho5, hy5⟩; have HR5 := Lib.hid hr5; have HB5 := Lib.hid (HB4.out.trans (wrote_below HR4.out hy5)); clear hr5 ho5 hy5))
        go_roundw
        case rel => exact ⟨k + 1, sv5, by omega, by go_num, Lib.hid (by rw [HX.out]; exact HR5.out), HB5⟩
        case measure => simp [intOf]; omega
    · obtain rfl : k = n := by omega
      have HBY := Lib.hid (bytes_any HR.out (by omega))
      rw [length_wbk, HWB.out] at HBY
      clear hbl hlt hk
      go_wp2_with (go_at_call 271; refine HBY.out.mono ?_; rintro e w6 ⟨g, rfl, hg, hrow, hb6⟩)
      exact bodyPost_ret (v := .tuple #[.slice (some ⟨g, 0, none⟩) (packLen (k * (11 + 1))) (packLen (k * (11 + 1))), .int .i64 0]) (by simp [results, Try.results285, go_sem]) rfl ⟨g, rfl, by have := HB.out.size; omega, hrow, by rw [HP.out]; exact bl_step' HB.out (hb6.mono (by have := HP.out; have := HB.out.size; omega))⟩

set_option maxRecDepth 100000 in
set_option maxHeartbeats 1600000 in
theorem write_ok_15 {A : Option Addr} {L : List Nat} (n cap : Nat) (w : World) (hn : L.length = n) (h0 : 1 ≤ n) (h23 : n ≤ 23) (hL : ∀ x ∈ L, 1 ≤ x ∧ x < 2 ^ 15) (hs : Src w A (insN L)) :
    Calls Try.prog 285 #[.slice A n cap, .int .i64 15] w fun e w' => ∃ g, e = .returned (.tuple #[.slice (some ⟨g, 0, none⟩) (packLen (n * (15 + 1))) (packLen (n * (15 + 1))), .int .i64 0]) ∧ w.heap.size ≤ g ∧ Row w' g 5 (bts (pack (wbl 15 L))).toArray ∧ Below w.heap.size w w' := by
  have hf : faultF (L.map (fun n : Nat => (n : Int))) 15 = 0 := by
    unfold faultF
    rw [List.length_map, hn, if_neg (by omega), if_neg (by omega), if_pos]
    rw [List.all_eq_true]
    intro x hx
    rw [List.mem_map] at hx
    obtain ⟨y, hy, rfl⟩ := hx
    have h1 := hL y hy
    unfold mayL
    rw [decide_eq_true (show (1 : Int) ≤ y by omega), decide_eq_true (show (y : Int) < 2 ^ 15 by simp only [show (2 : Int) ^ 15 = 32768 from rfl]; omega)]
    rfl
  have hfa := fault_15 (l := L.map (fun n : Nat => (n : Int))) n cap w (by rw [List.length_map]; exact hn) (by unfold maxLen; omega) hs
  rw [hf] at hfa
  have HF := Lib.hid hfa
  have HN := Lib.hid (new_any w.heap.size w (Nat.le_refl _))
  have HS := Lib.hid hs
  have HL := Lib.hid hL
  have HLN := Lib.hid hn
  have HWB := Lib.hid (wbk_all 15 L)
  rw [hn] at HWB
  have hn0 : (0 : Int) < (n : Int) := by omega
  clear hs hL hn hfa hf
  go_enter Try.func285, Try.ntmps285
  go_wp2_with (first
    | (go_at_call 324; refine HF.out.mono ?_; rintro e w1 ⟨rfl, rfl⟩)
    | (go_at_call 268; refine HN.out.mono ?_; rintro e w2 ⟨rfl, hr2, hb2⟩; have HR2 := Lib.hid hr2; have HB2 := Lib.hid hb2; clear hr2 hb2))
  generalize hp : w.heap.size = p at HR2 ⊢
  have HP := Lib.hid hp
  have HR0 : Hid (WRep p w2 p (.slice none 0 0) (wbk 15 L 0)) := HR2
  clear hp HR2
  go_loopw [19] (fun i wr => ∃ (k : Nat) (sv : Value), k ≤ n ∧ i = .int .i64 k ∧ Hid (WRep p wr p sv (wbk 15 L k)) ∧ Hid (Below p w wr)) (fun i _ => n - (intOf i).toNat)
  case atStart => exact ⟨0, _, by omega, rfl, HR0, by rw [← HP.out]; exact HB2⟩
  case round =>
    obtain ⟨k, sv, hk, rfl, HR, HB⟩ := hrel
    clear HR0 HB2
    have hbl : (wbk 15 L k).length ≤ 400 := by
      rw [length_wbk]
      have := Nat.mul_le_mul_right (15 + 1) hk
      omega
    by_cases hlt : k < n
    · have hkl : k < L.length := by have := HLN.out; omega
      have hx : L[k]? = some L[k] := List.getElem?_eq_getElem hkl
      obtain ⟨ad, rfl, hc⟩ := HS.out (by rw [length_insN]; omega)
      have hat : (insN L)[k]? = some (.int .i64 (L[k] : Nat)) := by simp [insN, hx]
      have hcell0 := hc _ _ hat
      have hcell : wr.cell? (ad.add k) = some (.int .i64 (L[k] : Nat)) := cell_below (by rw [HP.out]; exact HB.out) hcell0
      have hrange := HL.out _ (List.getElem_mem hkl)
      have HX := Lib.hid (show wbk 15 L (k + 1) = (wbk 15 L k ++ [decide (k + 1 < n)]) ++ unval L[k] 15 by
        rw [wbk, List.getD_eq_getElem?_getD, hx, HLN.out]
        simp)
      generalize L[k] = x at *
      have hlt2 : (k : Int) < (n : Int) := by omega
      have hk0 : (0 : Int) ≤ (k : Int) := by omega
      have hxw : IntKind.u64.wrap (x : Int) = (x : Int) := by rw [IntKind.wrap_u64]; omega
      have hx15 : x < 32768 := hrange.2
      have HXR := Lib.hid hrange.2
      clear hc hx hat hcell0 hrange
      have HP2 := Lib.hid (fun W sv' bl (h : WRep p W p sv' bl) (hb : bl.length ≤ 500) => (show Calls Try.prog 269 #[.pointer (some ⟨p, 0, none⟩), .int .u64 x, .int .i64 15] W (Wrote p W p sv' (bl ++ unval x 15) (.returned (.int .i64 0))) from put_any x 15 W h (by omega) HXR.out (by omega) (by omega)))
      by_cases hk1 : k + 1 < n
      · have hd : (k : Int) < (n : Int) - 1 := by omega
        have HFo := Lib.hid (follows_any true wr)
        have HP1 := Lib.hid (show Calls Try.prog 269 #[.pointer (some ⟨p, 0, none⟩), .int .u64 1, .int .i64 1] wr (Wrote p wr p sv (wbk 15 L k ++ [true]) (.returned (.int .i64 0))) from put_any 1 1 wr HR.out (by omega) (by omega) (by omega) (by omega))
        rw [decide_eq_true hk1] at HX
        go_wp2_with (first
          | (go_at_call 325; refine HFo.out.mono ?_; rintro e w3 ⟨rfl, rfl⟩; rw [show ((true.toNat : Nat) : Int) = 1 from rfl])
          | (go_at_call 269; (with_reducible refine HP1.out.mono ?_); rintro e w4 ⟨rfl, sv4, hr4, ho4, hy4⟩; have HR4 := Lib.hid hr4; have HB4 := Lib.hid (HB.out.trans (wrote_below HR.out hy4)); clear hr4 ho4 hy4)
          | (go_at_call 269; refine (HP2.out w4 sv4 _ HR4.out (by simp; omega)).mono ?_; rintro e w5 ⟨rfl, sv5, hr5, ho5, hy5⟩; have HR5 := Lib.hid hr5; have HB5 := Lib.hid (HB4.out.trans (wrote_below HR4.out hy5)); clear hr5 ho5 hy5))
        go_roundw
        case rel => exact ⟨k + 1, sv5, by omega, by go_num, Lib.hid (by rw [HX.out]; exact HR5.out), HB5⟩
        case measure => simp [intOf]; omega
      · have hd : ¬ (k : Int) < (n : Int) - 1 := by omega
        have HFo := Lib.hid (follows_any false wr)
        have HP1 := Lib.hid (show Calls Try.prog 269 #[.pointer (some ⟨p, 0, none⟩), .int .u64 0, .int .i64 1] wr (Wrote p wr p sv (wbk 15 L k ++ [false]) (.returned (.int .i64 0))) from put_any 0 1 wr HR.out (by omega) (by omega) (by omega) (by omega))
        rw [decide_eq_false hk1] at HX
        go_wp2_with (first
          | (go_at_call 325; refine HFo.out.mono ?_; rintro e w3 ⟨rfl, rfl⟩; rw [show ((false.toNat : Nat) : Int) = 0 from rfl])
          | (go_at_call 269; (with_reducible refine HP1.out.mono ?_); rintro e w4 ⟨rfl, sv4, hr4, ho4, hy4⟩; have HR4 := Lib.hid hr4; have HB4 := Lib.hid (HB.out.trans (wrote_below HR.out hy4)); clear hr4 ho4 hy4)
          | (go_at_call 269; refine (HP2.out w4 sv4 _ HR4.out (by simp; omega)).mono ?_; rintro e w5 ⟨rfl, sv5, hr5, ho5, hy5⟩; have HR5 := Lib.hid hr5; have HB5 := Lib.hid (HB4.out.trans (wrote_below HR4.out hy5)); clear hr5 ho5 hy5))
        go_roundw
        case rel => exact ⟨k + 1, sv5, by omega, by go_num, Lib.hid (by rw [HX.out]; exact HR5.out), HB5⟩
        case measure => simp [intOf]; omega
    · obtain rfl : k = n := by omega
      have HBY := Lib.hid (bytes_any HR.out (by omega))
      rw [length_wbk, HWB.out] at HBY
      clear hbl hlt hk
      go_wp2_with (go_at_call 271; refine HBY.out.mono ?_; rintro e w6 ⟨g, rfl, hg, hrow, hb6⟩)
      exact bodyPost_ret (v := .tuple #[.slice (some ⟨g, 0, none⟩) (packLen (k * (15 + 1))) (packLen (k * (15 + 1))), .int .i64 0]) (by simp [results, Try.results285, go_sem]) rfl ⟨g, rfl, by have := HB.out.size; omega, hrow, by rw [HP.out]; exact bl_step' HB.out (hb6.mono (by have := HP.out; have := HB.out.size; omega))⟩
end Go.Proofs.Ytgdpjaojlhdhdaa
namespace Go.Proofs.Ytgdpjaojlhdhdaa
open Go.RowKit

def MSrc (W : World) (A : Option Addr) (L : List MissM) : Prop :=
  0 < L.length → ∃ b o, A = some ⟨b, o, none⟩ ∧ ∀ (k : Nat) (m : MissM), L[k]? = some m → W.cell? ⟨b, o + k * 4, none⟩ = some (.int .i64 m.sn) ∧ W.cell? ⟨b, o + k * 4 + 1, none⟩ = some (.bool m.part) ∧ W.cell? ⟨b, o + k * 4 + 2, none⟩ = some (.int .i64 m.fr) ∧ W.cell? ⟨b, o + k * 4 + 3, none⟩ = some (.int .i64 m.to)
theorem MSrc.later {w v : World} {A : Option Addr} {L : List MissM} (h : MSrc w A L) (hb : Below w.heap.size w v) : MSrc v A L := fun h0 => by
  obtain ⟨b, o, h1, h2⟩ := h h0
  exact ⟨b, o, h1, fun k m hm => by
    obtain ⟨a, b, c, d⟩ := h2 k m hm
    exact ⟨cell_below hb a, cell_below hb b, cell_below hb c, cell_below hb d⟩⟩
theorem row_second {w w2 : World} {o : Obj} {t : TypeId} {cs : Array Value} (hb : Below ((w.alloc o).alloc (.cells cs t)).heap.size ((w.alloc o).alloc (.cells cs t)) w2) : Row w2 (w.heap.size + 1) t cs := by
  have h := Row.made (w.alloc o) t cs
  rw [show (w.alloc o).heap.size = w.heap.size + 1 by simp] at h
  exact h.later hb
def missB (x : Int) (m : MissM) : Bool := okn x m.sn && placedB m x
def rightB (ack : Int) (L : List MissM) (x : Int) : Bool := okS x && okn x ack && decide (L.length ≤ 32) && L.all (missB x)
end Go.Proofs.Ytgdpjaojlhdhdaa
namespace Go.Proofs.Ytgdpjaojlhdhdaa
open Go.RowKit

def missBits (x : Int) (m : MissM) : Int := x + 2 + (if m.part then 2 * pbF x else 0)
def bitsS (x : Int) (L : List MissM) : Int := (L.map (missBits x)).sum
def statusF (ack : Int) (L : List MissM) (x : Int) : Int := if rightB ack L x then (4 + x + 1 + bitsS x L + 7) / 8 else 0
theorem missBits_bd {x : Int} (hx : okS x = true) (m : MissM) : 0 ≤ missBits x m ∧ missBits x m ≤ 50 := by
  unfold missBits pbF
  rcases okS_nat hx with rfl | rfl
  · cases m.part <;> simp
  · cases m.part <;> simp
theorem bitsS_take {x : Int} {L : List MissM} {k : Nat} {m : MissM} (h : L[k]? = some m) : bitsS x (L.take (k + 1)) = bitsS x (L.take k) + missBits x m := by
  obtain ⟨h1, h2⟩ := List.getElem?_eq_some_iff.1 h
  unfold bitsS
  rw [List.take_succ_eq_append_getElem h1, List.map_append, List.sum_append, h2]
  simp
theorem bitsS_bd {x : Int} (hx : okS x = true) (L : List MissM) : 0 ≤ bitsS x L ∧ bitsS x L ≤ 50 * L.length := by
  induction L with
  | nil => simp [bitsS]
  | cons m t ih =>
    have h := missBits_bd hx m
    have e : bitsS x (m :: t) = missBits x m + bitsS x t := by simp [bitsS]
    rw [e, List.length_cons]
    omega
end Go.Proofs.Ytgdpjaojlhdhdaa
