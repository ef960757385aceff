/-
  What is wrong with lengths that are to be written; lengths written. What Write does: the bytes of lengths, or why there are none. The document's answer for what is put: bits as a list of the call's own.
-/
import Derived.Test.YtbcjfdhphpckfaaJPlainLives07
import Derived.Test.YtbcjfdhphpckfaaJPlainLives05
namespace Go.Proofs.Ytbcjfdhphpckfaa
open Go.RowKit

/-- ints as values -/
def ins (l : List Int) : List Value := l.map (fun x => Value.int .i64 x)
theorem length_ins (l : List Int) : (ins l).length = l.length := by simp [ins]
theorem ins_at {l : List Int} {i : Nat} {x : Int} (h : l[i]? = some x) : (ins l)[i]? = some (.int .i64 x) := by simp [ins, h]
/-- may a length be? -/
def mayL (w : Nat) (x : Int) : Bool := decide (1 ≤ x) && decide (x < 2 ^ w)
/-- what is wrong with lengths -/
def faultF (l : List Int) (w : Nat) : Int := if l.length = 0 then 4 else if 23 < l.length then 2 else if l.all (mayL w) then 0 else 1

set_option maxHeartbeats 400000 in
theorem fault_kind (v : Value) {x : Int} (w : World) (h : okW x = false) : Calls Try.prog 271 #[v, .int .i64 x] w fun e w' => e = .returned (.int .i64 9) ∧ w = w' := by
  have HM := Lib.hid (lmay_any x w)
  rw [h] at HM
  clear h
  go_enter Try.func271, Try.ntmps271
  go_wp2_with (go_at_call 183; refine HM.out.mono ?_; rintro e w1 ⟨rfl, rfl⟩)
  go_ret
  exact ⟨rfl, rfl⟩

set_option maxHeartbeats 800000 in
theorem fault_11 {A : Option Addr} {l : List Int} (n cap : Nat) (w : World) (hn : l.length = n) (hm : n ≤ maxLen) (hs : Src w A (ins l)) :
    Calls Try.prog 271 #[.slice A n cap, .int .i64 11] w fun e w' => e = .returned (.int .i64 (faultF l 11)) ∧ w = w' := by
  have HM := Lib.hid (lmay_any 11 w)
  rw [show okW 11 = true from rfl] at HM
  have HG := Lib.hid (longest_ok (x := 11) rfl w)
  have HS := Lib.hid hs
  have HN := Lib.hid hn
  unfold maxLen at hm
  clear hs hn
  rcases Nat.eq_zero_or_pos n with h0 | h0
  · have HF := Lib.hid (show faultF l 11 = 4 by unfold faultF; rw [HN.out, if_pos h0])
    subst h0
    go_enter Try.func271, Try.ntmps271
    go_wp2_with (go_at_call 183; refine HM.out.mono ?_; rintro e w1 ⟨rfl, rfl⟩)
    go_ret
    exact ⟨by rw [HF.out]; rfl, rfl⟩
  · have hz : ((n : Int) == 0) = false := by simp; omega
    rcases Nat.lt_or_ge 23 n with h1 | h1
    · have HF := Lib.hid (show faultF l 11 = 2 by unfold faultF; rw [HN.out, if_neg (by omega), if_pos h1])
      have h1' : (23 : Int) < (n : Int) := by omega
      go_enter Try.func271, Try.ntmps271
      go_wp2_with (go_at_call 183; refine HM.out.mono ?_; rintro e w1 ⟨rfl, rfl⟩)
      go_ret
      exact ⟨by rw [HF.out]; rfl, rfl⟩
    · have h1' : ¬ (23 : Int) < (n : Int) := by omega
      have HF := Lib.hid (show faultF l 11 = if l.all (mayL 11) then 0 else 1 by unfold faultF; rw [HN.out, if_neg (by omega), if_neg (by omega)])
      go_enter Try.func271, Try.ntmps271
      go_wp2_with (go_at_call 183; refine HM.out.mono ?_; rintro e w1 ⟨rfl, rfl⟩)
      go_loopw [21] (fun i wr => ∃ k : Nat, k ≤ n ∧ i = .int .i64 k ∧ Hid ((l.take k).all (mayL 11) = true) ∧ w = wr) (fun i _ => n - (intOf i).toNat)
      case atStart => exact ⟨0, by omega, rfl, Lib.hid rfl, rfl⟩
      case round =>
        obtain ⟨k, hk, rfl, HK, rfl⟩ := hrel
        by_cases hlt : k < n
        · have hkl : k < l.length := by have := HN.out; omega
          have hx : l[k]? = some l[k] := List.getElem?_eq_getElem hkl
          obtain ⟨ad, rfl, hc⟩ := HS.out (by rw [length_ins]; omega)
          have hcell := hc _ _ (ins_at hx)
          have htk : (l.take (k + 1)).all (mayL 11) = mayL 11 l[k] := by
            rw [List.take_succ_eq_append_getElem hkl, List.all_append, HK.out]
            simp
          have hall : mayL 11 l[k] = false → l.all (mayL 11) = false := fun h => by
            rw [← Bool.not_eq_true, List.all_eq_true]
            intro hh
            rw [hh l[k] (List.getElem_mem hkl)] at h
            cases h
          generalize l[k] = x at *
          have HT := Lib.hid htk
          have HA := Lib.hid hall
          have hlt2 : (k : Int) < (n : Int) := by omega
          have hk0 : (0 : Int) ≤ (k : Int) := by omega
          clear hc hx htk hall
          by_cases h2 : x < 1
          · have HE := Lib.hid (HA.out (by unfold mayL; rw [decide_eq_false (by omega)]; rfl))
            go_wp2_with (go_at_call 279; refine HG.out.mono ?_; rintro e w1 ⟨rfl, rfl⟩)
            go_ret
            exact ⟨by rw [HF.out, HE.out]; rfl, rfl⟩
          · by_cases h3 : 2047 < x
            · have HE := Lib.hid (HA.out (by unfold mayL; rw [decide_eq_false (show ¬ x < 2 ^ 11 by simp only [show (2 : Int) ^ 11 = 2047 + 1 from rfl]; omega)]; simp))
              go_wp2_with (go_at_call 279; refine HG.out.mono ?_; rintro e w1 ⟨rfl, rfl⟩)
              go_ret
              exact ⟨by rw [HF.out, HE.out]; rfl, rfl⟩
            · have HE := Lib.hid (show mayL 11 x = true by unfold mayL; rw [decide_eq_true (show 1 ≤ x by omega), decide_eq_true (show x < 2 ^ 11 by simp only [show (2 : Int) ^ 11 = 2047 + 1 from rfl]; omega)]; rfl)
              go_wp2_with (go_at_call 279; refine HG.out.mono ?_; rintro e w1 ⟨rfl, rfl⟩)
              go_roundw
              case rel => exact ⟨k + 1, by omega, by go_num, Lib.hid (by rw [HT.out, HE.out]), trivial⟩
              case measure => simp [intOf]; omega
        · obtain rfl : k = n := by omega
          have HK2 := Lib.hid (show l.all (mayL 11) = true by have := HK.out; rwa [← HN.out, List.take_length] at this)
          go_wp2
          go_ret
          exact ⟨by rw [HF.out, HK2.out]; rfl, rfl⟩

set_option maxHeartbeats 800000 in
theorem fault_15 {A : Option Addr} {l : List Int} (n cap : Nat) (w : World) (hn : l.length = n) (hm : n ≤ maxLen) (hs : Src w A (ins l)) :
    Calls Try.prog 271 #[.slice A n cap, .int .i64 15] w fun e w' => e = .returned (.int .i64 (faultF l 15)) ∧ w = w' := by
  have HM := Lib.hid (lmay_any 15 w)
  rw [show okW 15 = true from rfl] at HM
  have HG := Lib.hid (longest_ok (x := 15) rfl w)
  have HS := Lib.hid hs
  have HN := Lib.hid hn
  unfold maxLen at hm
  clear hs hn
  rcases Nat.eq_zero_or_pos n with h0 | h0
  · have HF := Lib.hid (show faultF l 15 = 4 by unfold faultF; rw [HN.out, if_pos h0])
    subst h0
    go_enter Try.func271, Try.ntmps271
    go_wp2_with (go_at_call 183; refine HM.out.mono ?_; rintro e w1 ⟨rfl, rfl⟩)
    go_ret
    exact ⟨by rw [HF.out]; rfl, rfl⟩
  · have hz : ((n : Int) == 0) = false := by simp; omega
    rcases Nat.lt_or_ge 23 n with h1 | h1
    · have HF := Lib.hid (show faultF l 15 = 2 by unfold faultF; rw [HN.out, if_neg (by omega), if_pos h1])
      have h1' : (23 : Int) < (n : Int) := by omega
      go_enter Try.func271, Try.ntmps271
      go_wp2_with (go_at_call 183; refine HM.out.mono ?_; rintro e w1 ⟨rfl, rfl⟩)
      go_ret
      exact ⟨by rw [HF.out]; rfl, rfl⟩
    · have h1' : ¬ (23 : Int) < (n : Int) := by omega
      have HF := Lib.hid (show faultF l 15 = if l.all (mayL 15) then 0 else 1 by unfold faultF; rw [HN.out, if_neg (by omega), if_neg (by omega)])
      go_enter Try.func271, Try.ntmps271
      go_wp2_with (go_at_call 183; refine HM.out.mono ?_; rintro e w1 ⟨rfl, rfl⟩)
      go_loopw [21] (fun i wr => ∃ k : Nat, k ≤ n ∧ i = .int .i64 k ∧ Hid ((l.take k).all (mayL 15) = true) ∧ w = wr) (fun i _ => n - (intOf i).toNat)
      case atStart => exact ⟨0, by omega, rfl, Lib.hid rfl, rfl⟩
      case round =>
        obtain ⟨k, hk, rfl, HK, rfl⟩ := hrel
        by_cases hlt : k < n
        · have hkl : k < l.length := by have := HN.out; omega
          have hx : l[k]? = some l[k] := List.getElem?_eq_getElem hkl
          obtain ⟨ad, rfl, hc⟩ := HS.out (by rw [length_ins]; omega)
          have hcell := hc _ _ (ins_at hx)
          have htk : (l.take (k + 1)).all (mayL 15) = mayL 15 l[k] := by
            rw [List.take_succ_eq_append_getElem hkl, List.all_append, HK.out]
            simp
          have hall : mayL 15 l[k] = false → l.all (mayL 15) = false := fun h => by
            rw [← Bool.not_eq_true, List.all_eq_true]
            intro hh
            rw [hh l[k] (List.getElem_mem hkl)] at h
            cases h
          generalize l[k] = x at *
          have HT := Lib.hid htk
          have HA := Lib.hid hall
          have hlt2 : (k : Int) < (n : Int) := by omega
          have hk0 : (0 : Int) ≤ (k : Int) := by omega
          clear hc hx htk hall
          by_cases h2 : x < 1
          · have HE := Lib.hid (HA.out (by unfold mayL; rw [decide_eq_false (by omega)]; rfl))
            go_wp2_with (go_at_call 279; refine HG.out.mono ?_; rintro e w1 ⟨rfl, rfl⟩)
            go_ret
            exact ⟨by rw [HF.out, HE.out]; rfl, rfl⟩
          · by_cases h3 : 32767 < x
            · have HE := Lib.hid (HA.out (by unfold mayL; rw [decide_eq_false (show ¬ x < 2 ^ 15 by simp only [show (2 : Int) ^ 15 = 32767 + 1 from rfl]; omega)]; simp))
              go_wp2_with (go_at_call 279; refine HG.out.mono ?_; rintro e w1 ⟨rfl, rfl⟩)
              go_ret
              exact ⟨by rw [HF.out, HE.out]; rfl, rfl⟩
            · have HE := Lib.hid (show mayL 15 x = true by unfold mayL; rw [decide_eq_true (show 1 ≤ x by omega), decide_eq_true (show x < 2 ^ 15 by simp only [show (2 : Int) ^ 15 = 32767 + 1 from rfl]; omega)]; rfl)
              go_wp2_with (go_at_call 279; refine HG.out.mono ?_; rintro e w1 ⟨rfl, rfl⟩)
              go_roundw
              case rel => exact ⟨k + 1, by omega, by go_num, Lib.hid (by rw [HT.out, HE.out]), trivial⟩
              case measure => simp [intOf]; omega
        · obtain rfl : k = n := by omega
          have HK2 := Lib.hid (show l.all (mayL 15) = true by have := HK.out; rwa [← HN.out, List.take_length] at this)
          go_wp2
          go_ret
          exact ⟨by rw [HF.out, HK2.out]; rfl, rfl⟩
end Go.Proofs.Ytbcjfdhphpckfaa
namespace Go.Proofs.Ytbcjfdhphpckfaa
open Go.RowKit

theorem cell_below {w v : World} {p : Addr} {x : Value} (hb : Below w.heap.size w v) (h : w.cell? p = some x) : v.cell? p = some x := by
  have hp : p.block < w.heap.size := by
    rcases Nat.lt_or_ge p.block w.heap.size with h2 | h2
    · exact h2
    · exfalso
      simp [World.cell?, Array.getElem?_eq_none h2] at h
  exact (hb.cell hp).trans h

set_option maxHeartbeats 400000 in
theorem write_bad (v : Value) (x er : Int) (w : World) (he : er ≠ 0) (hf : Calls Try.prog 271 #[v, .int .i64 x] w fun e w' => e = .returned (.int .i64 er) ∧ w = w') :
    Calls Try.prog 243 #[v, .int .i64 x] w fun e w' => e = .returned (.tuple #[.slice none 0 0, .int .i64 er]) ∧ w = w' := by
  have HF := Lib.hid hf
  have h1 : (er != 0) = true := by simpa using he
  clear hf
  go_enter Try.func243, Try.ntmps243
  go_wp2_with (go_at_call 271; refine HF.out.mono ?_; rintro e w1 ⟨rfl, rfl⟩)
  exact bodyPost_ret (v := .tuple #[.slice none 0 0, .int .i64 er]) (by simp [results, Try.results243, go_sem]) rfl ⟨rfl, rfl⟩

set_option maxRecDepth 100000 in
set_option maxHeartbeats 1600000 in
theorem write_ok_11 {A : Option Addr} {L : List Nat} (n cap : Nat) (w : World) (hn : L.length = n) (h0 : 1 ≤ n) (h23 : n ≤ 23) (hL : ∀ x ∈ L, 1 ≤ x ∧ x < 2 ^ 11) (hs : Src w A (insN L)) :
    Calls Try.prog 243 #[.slice A n cap, .int .i64 11] w fun e w' => ∃ g, e = .returned (.tuple #[.slice (some ⟨g, 0, none⟩) (packLen (n * (11 + 1))) (packLen (n * (11 + 1))), .int .i64 0]) ∧ w.heap.size ≤ g ∧ Row w' g 5 (bts (pack (wbl 11 L))).toArray ∧ Below w.heap.size w w' := by
  have hf : faultF (L.map (fun n : Nat => (n : Int))) 11 = 0 := by
    unfold faultF
    rw [List.length_map, hn, if_neg (by omega), if_neg (by omega), if_pos]
    rw [List.all_eq_true]
    intro x hx
    rw [List.mem_map] at hx
    obtain ⟨y, hy, rfl⟩ := hx
    have h1 := hL y hy
    unfold mayL
    rw [decide_eq_true (show (1 : Int) ≤ y by omega), decide_eq_true (show (y : Int) < 2 ^ 11 by simp only [show (2 : Int) ^ 11 = 2048 from rfl]; omega)]
    rfl
  have hfa := fault_11 (l := L.map (fun n : Nat => (n : Int))) n cap w (by rw [List.length_map]; exact hn) (by unfold maxLen; omega) hs
  rw [hf] at hfa
  have HF := Lib.hid hfa
  have HN := Lib.hid (new_any w.heap.size w (Nat.le_refl _))
  have HS := Lib.hid hs
  have HL := Lib.hid hL
  have HLN := Lib.hid hn
  have HWB := Lib.hid (wbk_all 11 L)
  rw [hn] at HWB
  have hn0 : (0 : Int) < (n : Int) := by omega
  clear hs hL hn hfa hf
  go_enter Try.func243, Try.ntmps243
  go_wp2_with (first
    | (go_at_call 271; refine HF.out.mono ?_; rintro e w1 ⟨rfl, rfl⟩)
    | (go_at_call 197; refine HN.out.mono ?_; rintro e w2 ⟨rfl, hr2, hb2⟩; have HR2 := Lib.hid hr2; have HB2 := Lib.hid hb2; clear hr2 hb2))
  generalize hp : w.heap.size = p at HR2 ⊢
  have HP := Lib.hid hp
  have HR0 : Hid (WRep p w2 p (.slice none 0 0) (wbk 11 L 0)) := HR2
  clear hp HR2
  go_loopw [19] (fun i wr => ∃ (k : Nat) (sv : Value), k ≤ n ∧ i = .int .i64 k ∧ Hid (WRep p wr p sv (wbk 11 L k)) ∧ Hid (Below p w wr)) (fun i _ => n - (intOf i).toNat)
  case atStart => exact ⟨0, _, by omega, rfl, HR0, by rw [← HP.out]; exact HB2⟩
  case round =>
    obtain ⟨k, sv, hk, rfl, HR, HB⟩ := hrel
    clear HR0 HB2
    have hbl : (wbk 11 L k).length ≤ 400 := by
      rw [length_wbk]
      have := Nat.mul_le_mul_right (11 + 1) hk
      omega
    by_cases hlt : k < n
    · have hkl : k < L.length := by have := HLN.out; omega
      have hx : L[k]? = some L[k] := List.getElem?_eq_getElem hkl
      obtain ⟨ad, rfl, hc⟩ := HS.out (by rw [length_insN]; omega)
      have hat : (insN L)[k]? = some (.int .i64 (L[k] : Nat)) := by simp [insN, hx]
      have hcell0 := hc _ _ hat
      have hcell : wr.cell? (ad.add k) = some (.int .i64 (L[k] : Nat)) := cell_below (by rw [HP.out]; exact HB.out) hcell0
      have hrange := HL.out _ (List.getElem_mem hkl)
      have HX := Lib.hid (show wbk 11 L (k + 1) = (wbk 11 L k ++ [decide (k + 1 < n)]) ++ unval L[k] 11 by
        rw [wbk, List.getD_eq_getElem?_getD, hx, HLN.out]
        simp)
      generalize L[k] = x at *
      have hlt2 : (k : Int) < (n : Int) := by omega
      have hk0 : (0 : Int) ≤ (k : Int) := by omega
      have hxw : IntKind.u64.wrap (x : Int) = (x : Int) := by rw [IntKind.wrap_u64]; omega
      have hx15 : x < 2048 := hrange.2
      have HXR := Lib.hid hrange.2
      clear hc hx hat hcell0 hrange
      have HP2 := Lib.hid (fun W sv' bl (h : WRep p W p sv' bl) (hb : bl.length ≤ 500) => (show Calls Try.prog 198 #[.pointer (some ⟨p, 0, none⟩), .int .u64 x, .int .i64 11] W (Wrote p W p sv' (bl ++ unval x 11) (.returned (.int .i64 0))) from put_any x 11 W h (by omega) HXR.out (by omega) (by omega)))
      by_cases hk1 : k + 1 < n
      · have hd : (k : Int) < (n : Int) - 1 := by omega
        have HFo := Lib.hid (follows_any true wr)
        have HP1 := Lib.hid (show Calls Try.prog 198 #[.pointer (some ⟨p, 0, none⟩), .int .u64 1, .int .i64 1] wr (Wrote p wr p sv (wbk 11 L k ++ [true]) (.returned (.int .i64 0))) from put_any 1 1 wr HR.out (by omega) (by omega) (by omega) (by omega))
        rw [decide_eq_true hk1] at HX
        go_wp2_with (first
          | (go_at_call 272; refine HFo.out.mono ?_; rintro e w3 ⟨rfl, rfl⟩; rw [show ((true.toNat : Nat) : Int) = 1 from rfl])
          | (go_at_call 198; (with_reducible refine HP1.out.mono ?_); rintro e w4 ⟨rfl, sv4, hr4, ho4, hy4⟩; have HR4 := Lib.hid hr4; have HB4 := Lib.hid (HB.out.trans (wrote_below HR.out hy4)); clear hr4 ho4 hy4)
          | (go_at_call 198; refine (HP2.out w4 sv4 _ HR4.out (by simp; omega)).mono ?_; rintro e w5 ⟨rfl, sv5, hr5, ho5, hy5⟩; have HR5 := Lib.hid hr5; have HB5 := Lib.hid (HB4.out.trans (wrote_below HR4.out hy5)); clear hr5 ho5 hy5))
        go_roundw
        case rel => exact ⟨k + 1, sv5, by omega, by go_num, Lib.hid (by rw [HX.out]; exact HR5.out), HB5⟩
        case measure => simp [intOf]; omega
      · have hd : ¬ (k : Int) < (n : Int) - 1 := by omega
        have HFo := Lib.hid (follows_any false wr)
        have HP1 := Lib.hid (show Calls Try.prog 198 #[.pointer (some ⟨p, 0, none⟩), .int .u64 0, .int .i64 1] wr (Wrote p wr p sv (wbk 11 L k ++ [false]) (.returned (.int .i64 0))) from put_any 0 1 wr HR.out (by omega) (by omega) (by omega) (by omega))
        rw [decide_eq_false hk1] at HX
        go_wp2_with (first
          | (go_at_call 272; refine HFo.out.mono ?_; rintro e w3 ⟨rfl, rfl⟩; rw [show ((false.toNat : Nat) : Int) = 0 from rfl])
          | (go_at_call 198; (with_reducible refine HP1.out.mono ?_); rintro e w4 ⟨rfl, sv4, hr4, ho4, hy4⟩; have HR4 := Lib.hid hr4; have HB4 := Lib.hid (HB.out.trans (wrote_below HR.out hy4)); clear hr4 ho4 hy4)
          | (go_at_call 198; refine (HP2.out w4 sv4 _ HR4.out (by simp; omega)).mono ?_; rintro e w5 ⟨rfl, sv5, hr5, ho5, hy5⟩; have HR5 := Lib.hid hr5; have HB5 := Lib.hid (HB4.out.trans (wrote_below HR4.out hy5)); clear hr5 ho5 hy5))
        go_roundw
        case rel => exact ⟨k + 1, sv5, by omega, by go_num, Lib.hid (by rw [HX.out]; exact HR5.out), HB5⟩
        case measure => simp [intOf]; omega
    · obtain rfl : k = n := by omega
      have HBY := Lib.hid (bytes_any HR.out (by omega))
      rw [length_wbk, HWB.out] at HBY
      clear hbl hlt hk
      go_wp2_with (go_at_call 201; refine HBY.out.mono ?_; rintro e w6 ⟨g, rfl, hg, hrow, hb6⟩)
      exact bodyPost_ret (v := .tuple #[.slice (some ⟨g, 0, none⟩) (packLen (k * (11 + 1))) (packLen (k * (11 + 1))), .int .i64 0]) (by simp [results, Try.results243, go_sem]) rfl ⟨g, rfl, by have := HB.out.size; omega, hrow, by rw [HP.out]; exact bl_step' HB.out (hb6.mono (by have := HP.out; have := HB.out.size; omega))⟩

set_option maxRecDepth 100000 in
set_option maxHeartbeats 1600000 in
theorem write_ok_15 {A : Option Addr} {L : List Nat} (n cap : Nat) (w : World) (hn : L.length = n) (h0 : 1 ≤ n) (h23 : n ≤ 23) (hL : ∀ x ∈ L, 1 ≤ x ∧ x < 2 ^ 15) (hs : Src w A (insN L)) :
    Calls Try.prog 243 #[.slice A n cap, .int .i64 15] w fun e w' => ∃ g, e = .returned (.tuple #[.slice (some ⟨g, 0, none⟩) (packLen (n * (15 + 1))) (packLen (n * (15 + 1))), .int .i64 0]) ∧ w.heap.size ≤ g ∧ Row w' g 5 (bts (pack (wbl 15 L))).toArray ∧ Below w.heap.size w w' := by
  have hf : faultF (L.map (fun n : Nat => (n : Int))) 15 = 0 := by
    unfold faultF
    rw [List.length_map, hn, if_neg (by omega), if_neg (by omega), if_pos]
    rw [List.all_eq_true]
    intro x hx
    rw [List.mem_map] at hx
    obtain ⟨y, hy, rfl⟩ := hx
    have h1 := hL y hy
    unfold mayL
    rw [decide_eq_true (show (1 : Int) ≤ y by omega), decide_eq_true (show (y : Int) < 2 ^ 15 by simp only [show (2 : Int) ^ 15 = 32768 from rfl]; omega)]
    rfl
  have hfa := fault_15 (l := L.map (fun n : Nat => (n : Int))) n cap w (by rw [List.length_map]; exact hn) (by unfold maxLen; omega) hs
  rw [hf] at hfa
  have HF := Lib.hid hfa
  have HN := Lib.hid (new_any w.heap.size w (Nat.le_refl _))
  have HS := Lib.hid hs
  have HL := Lib.hid hL
  have HLN := Lib.hid hn
  have HWB := Lib.hid (wbk_all 15 L)
  rw [hn] at HWB
  have hn0 : (0 : Int) < (n : Int) := by omega
  clear hs hL hn hfa hf
  go_enter Try.func243, Try.ntmps243
  go_wp2_with (first
    | (go_at_call 271; refine HF.out.mono ?_; rintro e w1 ⟨rfl, rfl⟩)
    | (go_at_call 197; refine HN.out.mono ?_; rintro e w2 ⟨rfl, hr2, hb2⟩; have HR2 := Lib.hid hr2; have HB2 := Lib.hid hb2; clear hr2 hb2))
  generalize hp : w.heap.size = p at HR2 ⊢
  have HP := Lib.hid hp
  have HR0 : Hid (WRep p w2 p (.slice none 0 0) (wbk 15 L 0)) := HR2
  clear hp HR2
  go_loopw [19] (fun i wr => ∃ (k : Nat) (sv : Value), k ≤ n ∧ i = .int .i64 k ∧ Hid (WRep p wr p sv (wbk 15 L k)) ∧ Hid (Below p w wr)) (fun i _ => n - (intOf i).toNat)
  case atStart => exact ⟨0, _, by omega, rfl, HR0, by rw [← HP.out]; exact HB2⟩
  case round =>
    obtain ⟨k, sv, hk, rfl, HR, HB⟩ := hrel
    clear HR0 HB2
    have hbl : (wbk 15 L k).length ≤ 400 := by
      rw [length_wbk]
      have := Nat.mul_le_mul_right (15 + 1) hk
      omega
    by_cases hlt : k < n
    · have hkl : k < L.length := by have := HLN.out; omega
      have hx : L[k]? = some L[k] := List.getElem?_eq_getElem hkl
      obtain ⟨ad, rfl, hc⟩ := HS.out (by rw [length_insN]; omega)
      have hat : (insN L)[k]? = some (.int .i64 (L[k] : Nat)) := by simp [insN, hx]
      have hcell0 := hc _ _ hat
      have hcell : wr.cell? (ad.add k) = some (.int .i64 (L[k] : Nat)) := cell_below (by rw [HP.out]; exact HB.out) hcell0
      have hrange := HL.out _ (List.getElem_mem hkl)
      have HX := Lib.hid (show wbk 15 L (k + 1) = (wbk 15 L k ++ [decide (k + 1 < n)]) ++ unval L[k] 15 by
        rw [wbk, List.getD_eq_getElem?_getD, hx, HLN.out]
        simp)
      generalize L[k] = x at *
      have hlt2 : (k : Int) < (n : Int) := by omega
      have hk0 : (0 : Int) ≤ (k : Int) := by omega
      have hxw : IntKind.u64.wrap (x : Int) = (x : Int) := by rw [IntKind.wrap_u64]; omega
      have hx15 : x < 32768 := hrange.2
      have HXR := Lib.hid hrange.2
      clear hc hx hat hcell0 hrange
      have HP2 := Lib.hid (fun W sv' bl (h : WRep p W p sv' bl) (hb : bl.length ≤ 500) => (show Calls Try.prog 198 #[.pointer (some ⟨p, 0, none⟩), .int .u64 x, .int .i64 15] W (Wrote p W p sv' (bl ++ unval x 15) (.returned (.int .i64 0))) from put_any x 15 W h (by omega) HXR.out (by omega) (by omega)))
      by_cases hk1 : k + 1 < n
      · have hd : (k : Int) < (n : Int) - 1 := by omega
        have HFo := Lib.hid (follows_any true wr)
        have HP1 := Lib.hid (show Calls Try.prog 198 #[.pointer (some ⟨p, 0, none⟩), .int .u64 1, .int .i64 1] wr (Wrote p wr p sv (wbk 15 L k ++ [true]) (.returned (.int .i64 0))) from put_any 1 1 wr HR.out (by omega) (by omega) (by omega) (by omega))
        rw [decide_eq_true hk1] at HX
        go_wp2_with (first
          | (go_at_call 272; refine HFo.out.mono ?_; rintro e w3 ⟨rfl, rfl⟩; rw [show ((true.toNat : Nat) : Int) = 1 from rfl])
          | (go_at_call 198; (with_reducible refine HP1.out.mono ?_); rintro e w4 ⟨rfl, sv4, hr4, ho4, hy4⟩; have HR4 := Lib.hid hr4; have HB4 := Lib.hid (HB.out.trans (wrote_below HR.out hy4)); clear hr4 ho4 hy4)
          | (go_at_call 198; refine (HP2.out w4 sv4 _ HR4.out (by simp; omega)).mono ?_; rintro e w5 ⟨rfl, sv5, hr5, ho5, hy5⟩; have HR5 := Lib.hid hr5; have HB5 := Lib.hid (HB4.out.trans (wrote_below HR4.out hy5)); clear hr5 ho5 hy5))
        go_roundw
        case rel => exact ⟨k + 1, sv5, by omega, by go_num, Lib.hid (by rw [HX.out]; exact HR5.out), HB5⟩
        case measure => simp [intOf]; omega
      · have hd : ¬ (k : Int) < (n : Int) - 1 := by omega
        have HFo := Lib.hid (follows_any false wr)
        have HP1 := Lib.hid (show Calls Try.prog 198 #[.pointer (some ⟨p, 0, none⟩), .int .u64 0, .int .i64 1] wr (Wrote p wr p sv (wbk 15 L k ++ [false]) (.returned (.int .i64 0))) from put_any 0 1 wr HR.out (by omega) (by omega) (by omega) (by omega))
        rw [decide_eq_false hk1] at HX
        go_wp2_with (first
          | (go_at_call 272; refine HFo.out.mono ?_; rintro e w3 ⟨rfl, rfl⟩; rw [show ((false.toNat : Nat) : Int) = 0 from rfl])
          | (go_at_call 198; (with_reducible refine HP1.out.mono ?_); rintro e w4 ⟨rfl, sv4, hr4, ho4, hy4⟩; have HR4 := Lib.hid hr4; have HB4 := Lib.hid (HB.out.trans (wrote_below HR.out hy4)); clear hr4 ho4 hy4)
          | (go_at_call 198; refine (HP2.out w4 sv4 _ HR4.out (by simp; omega)).mono ?_; rintro e w5 ⟨rfl, sv5, hr5, ho5, hy5⟩; have HR5 := Lib.hid hr5; have HB5 := Lib.hid (HB4.out.trans (wrote_below HR4.out hy5)); clear hr5 ho5 hy5))
        go_roundw
        case rel => exact ⟨k + 1, sv5, by omega, by go_num, Lib.hid (by rw [HX.out]; exact HR5.out), HB5⟩
        case measure => simp [intOf]; omega
    · obtain rfl : k = n := by omega
      have HBY := Lib.hid (bytes_any HR.out (by omega))
      rw [length_wbk, HWB.out] at HBY
      clear hbl hlt hk
      go_wp2_with (go_at_call 201; refine HBY.out.mono ?_; rintro e w6 ⟨g, rfl, hg, hrow, hb6⟩)
      exact bodyPost_ret (v := .tuple #[.slice (some ⟨g, 0, none⟩) (packLen (k * (15 + 1))) (packLen (k * (15 + 1))), .int .i64 0]) (by simp [results, Try.results243, go_sem]) rfl ⟨g, rfl, by have := HB.out.size; omega, hrow, by rw [HP.out]; exact bl_step' HB.out (hb6.mono (by have := HP.out; have := HB.out.size; omega))⟩
end Go.Proofs.Ytbcjfdhphpckfaa
namespace Go.Proofs.Ytbcjfdhphpckfaa
open Go.RowKit

theorem Try.info4 : (Try.prog.info? 4).map (fun i => (i.zero, i.size, i.bytes)) = some (some (.bool false), 1, 1) := by kernel_rfl
/-- bits as values -/
def bls (l : List Bool) : List Value := l.map Value.bool
theorem length_bls (l : List Bool) : (bls l).length = l.length := by simp [bls]
theorem bls_append (l k : List Bool) : bls (l ++ k) = bls l ++ bls k := by simp [bls]
theorem bls_at {l : List Bool} {i : Nat} {b : Bool} (h : l[i]? = some b) : (bls l)[i]? = some (.bool b) := by simp [bls, h]
theorem bls_one (l : List Bool) : ∀ v ∈ bls l, v.oneCell' = true := by
  intro v hv
  simp only [bls, List.mem_map] at hv
  obtain ⟨b, _, rfl⟩ := hv
  rfl

set_option maxHeartbeats 400000 in
theorem fits_neg (v n : Int) (w : World) (h : n < 0 ∨ 64 < n) : Calls Try.prog 206 #[.int .u64 v, .int .i64 n] w fun e w' => e = .returned (.bool false) ∧ w = w' := by
  by_cases h1 : n < 0
  · clear h
    go_enter Try.func206, Try.ntmps206
    go_wp2
    go_ret
    exact ⟨rfl, rfl⟩
  · have h2 : 64 < n := by omega
    clear h
    go_enter Try.func206, Try.ntmps206
    go_wp2
    go_ret
    exact ⟨rfl, rfl⟩

theorem nat_eq0 (q : Nat) : ((q : Int) == 0) = (q == 0) := by
  rw [Bool.eq_iff_iff, beq_iff_eq, beq_iff_eq]
  omega
theorem ret_u64 {q q' : Nat} (h : q / 2 = q') : Value.int .u64 ((q : Int) / 2) = .int .u64 (q' : Int) := by
  subst h
  simp
theorem half_pow (v k : Nat) : v / 2 ^ k / 2 = v / 2 ^ (k + 1) := by rw [Nat.div_div_eq_div_mul, ← Nat.pow_succ]

set_option maxHeartbeats 800000 in
theorem fits_nat (v n : Nat) (w : World) (hn : n ≤ 64) (hv : v < 18446744073709551616) : Calls Try.prog 206 #[.int .u64 v, .int .i64 n] w fun e w' => e = .returned (.bool (v / 2 ^ n == 0)) ∧ w = w' := by
  go_enter Try.func206, Try.ntmps206
  go_wp2
  go_loopw [0, 5] (fun x i wr => ∃ k : Nat, k ≤ n ∧ x = .int .u64 ((v / 2 ^ k : Nat) : Int) ∧ i = .int .i64 k ∧ w = wr) (fun _ i _ => n - (intOf i).toNat)
  case atStart => exact ⟨0, by omega, by simp, rfl, rfl⟩
  case round =>
    obtain ⟨k, hk, rfl, rfl, rfl⟩ := hrel
    have hh := Lib.hid (half_pow v k)
    have hle : v / 2 ^ k ≤ v := Nat.div_le_self _ _
    generalize hq : v / 2 ^ k = q at *
    have HQ := Lib.hid hq
    clear hq
    by_cases hlt : k < n
    · go_wp2
      go_roundw
      case rel => exact ⟨k + 1, by omega, ret_u64 hh.out, by go_num, trivial⟩
      case measure => simp [intOf]; omega
    · obtain rfl : k = n := by omega
      go_wp2
      go_ret
      refine ⟨ret_bool ?_, rfl⟩
      rw [HQ.out]
      exact nat_eq0 q

/-- a number's lowest bits, the lowest first -/
def lows (v n : Nat) : List Bool := (List.range n).map fun j => v / 2 ^ j % 2 == 1
theorem length_lows (v n : Nat) : (lows v n).length = n := by simp [lows]
theorem lows_succ (v n : Nat) : lows v (n + 1) = lows v n ++ [v / 2 ^ n % 2 == 1] := by simp [lows, List.range_succ]
theorem lows_at {v n j : Nat} (h : j < n) : (lows v n)[j]? = some (v / 2 ^ j % 2 == 1) := by simp [lows, h]

/-- a list of bits of the call's own -/
def OwnB (B : Nat) (w : World) (x : Value) (bl : List Bool) : Prop := w.ownsRow B 4 1 x bl.length (bls bl) ∧ (bl = [] → x = .slice none 0 0)
theorem OwnB.nil (B : Nat) (w : World) : OwnB B w (.slice none 0 0) [] := ⟨World.ownsRow_nil _ _ _ _, fun _ => rfl⟩
theorem OwnB.later {B : Nat} {w v : World} {x : Value} {bl : List Bool} (h : OwnB B w x bl) (hb : Below w.heap.size w v) : OwnB B v x bl :=
  ⟨own_only h.1 (S := fun _ => False) (.of_below hb) (fun _ _ h => h), h.2⟩
theorem OwnB.form {B : Nat} {w : World} {x : Value} {bl : List Bool} (h : OwnB B w x bl) : ∃ A c, x = .slice A bl.length c := by
  rcases h.1.2 with ⟨rfl, h0⟩ | ⟨g, c, cur, rfl, _⟩
  · exact ⟨none, 0, by rw [h0]⟩
  · exact ⟨_, c, rfl⟩

theorem run_append_none {P : Program} (w : World) (t ty e : TypeId) (i : TypeInfo) (ht : P.underlying t = some (.slice e)) (hi : P.info? e = some i) :
    (Builtin.append_ #[t, t] ty #[.slice none 0 0, .slice none 0 0]).run P w = .ok (.slice none 0 0) w := by
  simp [Builtin.append_, run_underlying ht, sizeOf, typeInfo, hi, Builtin.lenOf, Builtin.firstCells]
theorem wpList_append_none {P : Program} (w : World) {ops : Array Oper} {rest : List Oper} {o : Oper} {a : Act} {Q : Exit → Act → World → Prop} (hgd : o.guard = none) (s x : Operand) (t : TypeId)
    (ho : o.op = .call { callee := .builtin .append, args := #[s, x], argTypes := #[t, t] }) (e : TypeId) (i : TypeInfo) (ht : P.underlying t = some (.slice e)) (hi : P.info? e = some i)
    (hs : a.eval s = .slice none 0 0) (hx : a.eval x = .slice none 0 0) (h : wpList P ops Q rest (a.put o.dst (.slice none 0 0)) w) : wpList P ops Q (o :: rest) a w := by
  refine wpList_plain hgd fun K hK => ?_
  unfold Oper.wp execOp
  simp only [ho, resolve, invoke, builtin, Sem.run_bind, Sem.run_pure, Result.andThen_ok, List.map_toArray, List.map_cons, List.map_nil, hs, hx, run_append_none w t o.type e i ht hi]
  exact hK _ _ h

set_option maxHeartbeats 800000 in
theorem refput_bad {V : Nat} {N : Int} (x : Value) (w : World) (h : ¬ (0 ≤ N ∧ N ≤ 64 ∧ V < 2 ^ N.toNat)) (hv : V < 18446744073709551616) :
    Calls Try.prog 147 #[x, .int .u64 V, .int .i64 N] w fun e w' => e = .returned (.tuple #[x, .int .i64 1]) ∧ w = w' := by
  have hf : Calls Try.prog 206 #[.int .u64 V, .int .i64 N] w fun e w' => e = .returned (.bool false) ∧ w = w' := by
    by_cases h1 : 0 ≤ N ∧ N ≤ 64
    · obtain ⟨n, rfl⟩ : ∃ n : Nat, N = n := ⟨N.toNat, by omega⟩
      rw [Int.toNat_natCast] at h
      have h2 : 2 ^ n ≤ V := by
        rcases Nat.lt_or_ge V (2 ^ n) with h2 | h2
        · exact absurd ⟨h1.1, h1.2, h2⟩ h
        · exact h2
      have h3 := fits_nat V n w (by omega) hv
      have h4 : 1 ≤ V / 2 ^ n := (Nat.one_le_div_iff (Nat.two_pow_pos n)).2 h2
      have h5 : (V / 2 ^ n == 0) = false := by simp; omega
      rw [h5] at h3
      exact h3
    · exact fits_neg V N w (by omega)
  have HF := Lib.hid hf
  clear h hf hv
  go_enter Try.func147, Try.ntmps147
  go_wp2_with (go_at_call 206; refine HF.out.mono ?_; rintro e w1 ⟨rfl, rfl⟩)
  exact bodyPost_ret (v := .tuple #[x, .int .i64 1]) (by simp [results, Try.results147, go_sem]) rfl ⟨rfl, rfl⟩

theorem low_bit (v j : Nat) : (((v / 2 ^ j : Nat) : Int) % 2 == 1) = (v / 2 ^ j % 2 == 1) := by
  rw [Bool.eq_iff_iff, beq_iff_eq, beq_iff_eq]
  omega

set_option maxRecDepth 100000 in
set_option maxHeartbeats 3200000 in
theorem refput_ok {B : Nat} {w : World} {x : Value} {bl : List Bool} (v n : Nat) (hx : OwnB B w x bl) (hn : n ≤ 64) (h : v < 2 ^ n) (hl : bl.length + n ≤ 65536) (hv : v < 18446744073709551616) :
    Calls Try.prog 147 #[x, .int .u64 v, .int .i64 n] w fun e w' => ∃ x', e = .returned (.tuple #[x', .int .i64 0]) ∧ OwnB w.heap.size w' x' (bl ++ unval v n) ∧ Below w.heap.size w w' := by
  have hf := fits_nat v n w hn hv
  rw [Nat.div_eq_of_lt h] at hf
  have HF := Lib.hid hf
  obtain ⟨i0, hi, hi0, hi1, hi2⟩ := info_parts Try.info4
  obtain ⟨A, c, rfl⟩ := hx.form
  have HX := Lib.hid hx
  clear hf hx h
  go_enter Try.func147, Try.ntmps147
  go_wp2_with (go_at_call 206; refine HF.out.mono ?_; rintro e w1 ⟨rfl, rfl⟩)
  go_loopw [1, 8, 10] (fun y o i wr => ∃ k : Nat, k ≤ n ∧ y = .int .u64 ((v / 2 ^ k : Nat) : Int) ∧ i = .int .i64 k ∧ wr.ownsRow w.heap.size 4 1 o k (bls (lows v k)) ∧ Below w.heap.size w wr) (fun _ _ i _ => n - (intOf i).toNat)
  case atStart => exact ⟨0, by omega, by simp, rfl, World.ownsRow_nil _ _ _ _, Below.refl _ _⟩
  case round =>
    obtain ⟨k, hk, rfl, rfl, hown, hbr⟩ := hrel
    have HO := Lib.hid hown
    have HB := Lib.hid hbr
    clear hown hbr
    by_cases hlt : k < n
    · have hh := Lib.hid (half_pow v k)
      have hle : v / 2 ^ k ≤ v := Nat.div_le_self _ _
      have hbit := low_bit v k
      have hls := Lib.hid (lows_succ v k)
      generalize hq : v / 2 ^ k = q at *
      clear hq
      go_wp2_with (at_builtin; refine wpList_append_lies _ rfl _ _ _ (by rfl) w.heap.size 4 i0 (.bool false) 1 1 Try.underlying31 hi hi0 hi1 hi2 rfl (by omega) u8 k _ (by rfl) (HO.out.alloc _) ⟨wr.heap.size, 0, none⟩ 1 1 [.bool (q % 2 == 1)] (by rfl) (by rfl) ?h1 ?h2 ?h3 ?h4 ?h5 ?h6 (wr.heap.size + 1) ?h7 ?_)
      case h1 => exact cell_one_new _ _ _
      case h2 => intro u hu; simp at hu; subst hu; rfl
      case h3 => omega
      case h4 => unfold maxLen; omega
      case h5 => omega
      case h6 => have := HB.out.size; simp; omega
      case h7 => simp
      intro g cap w2 hown2 hgrow _ _
      have hb2 : Below w.heap.size w w2 := (HB.out.alloc HB.out.size _).grown hgrow (by have := HB.out.size; simp; omega) (fun r hr => (HO.out.lt r hr).1)
      have hown3 : w2.ownsRow w.heap.size 4 1 (.slice (some ⟨g, 0, none⟩) (k + 1) cap) (k + 1) (bls (lows v (k + 1))) := by rw [hls.out, bls_append]; exact hown2
      have HO2 := Lib.hid hown3
      have HB2 := Lib.hid hb2
      clear hown2 hgrow hown3 hb2
      go_wp2
      go_roundw
      case rel => exact ⟨k + 1, by omega, ret_u64 hh.out, by go_num, HO2.out, HB2.out⟩
      case measure => simp [intOf]; omega
    · obtain rfl : n = k := by omega
      have hv8 : ∃ A8 c8, u8 = .slice A8 n c8 := by
        rcases HO.out.2 with ⟨rfl, h0⟩ | ⟨g, c, cur, rfl, _⟩
        · exact ⟨none, 0, by rw [h0]⟩
        · exact ⟨_, c, rfl⟩
      obtain ⟨A8, c8, rfl⟩ := hv8
      clear hlt hk
      by_cases hb : bl = []
      · subst hb
        have e0 := HX.out.2 rfl
        injection e0 with e1 _ e2
        subst e1
        subst e2
        go_wp2_with (at_builtin; refine wpList_append_none _ rfl _ _ _ (by rfl) 4 i0 Try.underlying31 hi (by rfl) (by rfl) ?_)
        go_loopw [9, 11] (fun o i wq => ∃ (m : Nat) (z : Int), m ≤ n ∧ z + 1 = m ∧ i = .int .i64 z ∧ OwnB w.heap.size wq o (([] : List Bool) ++ unval (v / 2 ^ m) (n - m)) ∧ wq.ownsRow w.heap.size 4 1 (.slice A8 n c8) n (bls (lows v n)) ∧ (∀ r, o.ownBlock = some r → (Value.slice A8 n c8).ownBlock ≠ some r) ∧ Below w.heap.size w wq) (fun _ i _ => (intOf i + 1).toNat)
        case atStart => exact ⟨n, (n : Int) - 1, by omega, by omega, rfl, by rw [Nat.sub_self]; exact OwnB.nil _ _, HO.out, (fun r hr => by simp [Value.ownBlock] at hr), HB.out⟩
        case round =>
          obtain ⟨m, z, hm, hz, rfl, hout, hlow, hap, hbq⟩ := hrel
          have HOUT := Lib.hid hout
          have HLOW := Lib.hid hlow
          have HAP := Lib.hid hap
          have HBQ := Lib.hid hbq
          clear hout hlow hap hbq HO HB HX
          rcases Nat.eq_zero_or_pos m with h0 | h0
          · subst h0
            obtain rfl : z = -1 := by omega
            go_wp2
            refine bodyPost_ret (v := .tuple #[u9, .int .i64 0]) (by simp [results, Try.results147, go_sem]) rfl ⟨_, rfl, ?_, HBQ.out⟩
            have h1 := HOUT.out
            rw [Nat.pow_zero, Nat.div_one, Nat.sub_zero] at h1
            exact h1
          · obtain ⟨j, rfl⟩ : ∃ j, m = j + 1 := ⟨m - 1, by omega⟩
            obtain rfl : z = (j : Int) := by omega
            obtain ⟨g8, c8', e8, _, _⟩ := HLOW.out.form (by omega)
            injection e8 with e8 _ e9
            subst e8
            subst e9
            have hc := (HLOW.out.cellAt j (by omega)).trans (bls_at (lows_at (v := v) (show j < n by omega)))
            have hj0 : (0 : Int) ≤ (j : Int) := by omega
            have hj1 : (j : Int) < (n : Int) := by omega
            have hnext : (([] : List Bool) ++ unval (v / 2 ^ (j + 1)) (n - (j + 1))) ++ [v / 2 ^ j % 2 == 1] = ([] : List Bool) ++ unval (v / 2 ^ j) (n - j) := by
              have e1 : n - j = n - (j + 1) + 1 := by omega
              rw [e1, unval, half_pow, List.append_assoc]
            have hlen : (([] : List Bool) ++ unval (v / 2 ^ (j + 1)) (n - (j + 1))).length < 65536 := by
              rw [List.length_append, length_unval]
              omega
            generalize ([] : List Bool) ++ unval (v / 2 ^ (j + 1)) (n - (j + 1)) = cur at *
            generalize (v / 2 ^ j % 2 == 1) = bit at *
            have HN := Lib.hid hnext
            clear hnext
            go_wp2_with (at_builtin; go_loud (refine wpList_append_lies _ rfl _ _ _ (by rfl) w.heap.size 4 i0 (.bool false) 1 1 Try.underlying31 hi hi0 hi1 hi2 rfl (by omega) u9 cur.length _ (by rfl) (HOUT.out.1.alloc _) ⟨wr.heap.size, 0, none⟩ 1 1 [.bool bit] (by rfl) (by rfl) (cell_one_new _ _ _) (fun u hu => by simp at hu; subst hu; rfl) (by omega) (by unfold maxLen; omega) (by omega) (by have := HBQ.out.size; simp; omega) (wr.heap.size + 1) (by simp) ?_))
            intro g cap w2 hown2 hgrow hgg _
            have hb2 : Below w.heap.size w w2 := (HBQ.out.alloc HBQ.out.size _).grown hgrow (by have := HBQ.out.size; simp; omega) (fun r hr => (HOUT.out.1.lt r hr).1)
            have hlow2 := own_only HLOW.out ((((Only.refl (fun k => u9.ownBlock = some k) wr).alloc _).grown hgrow (fun k hk => .inl hk))) (fun k hk hk' => HAP.out k hk' hk)
            have h8 := (HLOW.out.lt g8 rfl).2
            have hap2 : ∀ r, (Value.slice (some ⟨g, 0, none⟩) (cur.length + 1) cap).ownBlock = some r → (Value.slice (some ⟨g8, 0, none⟩) n c8).ownBlock ≠ some r := by
              intro r hr
              have : g = r := by simpa [Value.ownBlock] using hr
              subst this
              rcases hgg with h | h
              · exact HAP.out g h
              · intro h'
                have : g8 = g := by simpa [Value.ownBlock] using h'
                omega
            have hout2 : OwnB w.heap.size w2 (.slice (some ⟨g, 0, none⟩) (cur.length + 1) cap) (([] : List Bool) ++ unval (v / 2 ^ j) (n - j)) := by
              rw [← HN.out]
              refine ⟨?_, fun h => by simp at h⟩
              rw [List.length_append, bls_append]
              exact hown2
            have H2 := Lib.hid (And.intro hout2 (And.intro hlow2 (And.intro hap2 hb2)))
            clear hout2 hlow2 hap2 hb2 hown2 hgrow hgg hc h8
            go_wp2
            go_roundw
            case rel => exact ⟨j, (j : Int) - 1, by omega, by omega, by go_num, H2.out⟩
            case measure => simp [intOf]
      · have hpos : 0 < bl.length := List.length_pos_iff.2 hb
        obtain ⟨g0, cap0, e0, _, _⟩ := HX.out.1.form hpos
        injection e0 with e1 _ _
        subst e1
        have HXR := Lib.hid (HX.out.later (show Below w.heap.size w wr from HB.out))
        go_wp2_with (at_builtin; refine wpList_append_lies _ rfl _ _ _ (by rfl) w.heap.size 4 i0 (.bool false) 1 1 Try.underlying31 hi hi0 hi1 hi2 rfl (by omega) (.slice none 0 0) 0 [] (by rfl) (World.ownsRow_nil _ _ _ _) ⟨g0, 0, none⟩ bl.length c (bls bl) (by rfl) (by rw [length_bls, Nat.mul_one]) (HXR.out.1.cells (g := g0) rfl) (bls_one bl) hpos (by unfold maxLen; omega) (by omega) HB.out.size wr.heap.size rfl ?_)
        intro g cap w1 hown1 hgrow1 hgg1 _
        have hb1 : Below w.heap.size w w1 := HB.out.grown hgrow1 HB.out.size (fun r hr => by simp [Value.ownBlock] at hr)
        have hlow1 := own_only HO.out ((Only.refl (fun _ => False) wr).grown hgrow1 (fun k hk => by simp [Value.ownBlock] at hk)) (fun _ _ h => h)
        have hap1 : ∀ r, (Value.slice (some ⟨g, 0, none⟩) (bl.length) cap).ownBlock = some r → (Value.slice A8 n c8).ownBlock ≠ some r := by
          intro r hr
          have : g = r := by simpa [Value.ownBlock] using hr
          subst this
          rcases hgg1 with h | h
          · simp [Value.ownBlock] at h
          · intro h'
            have := (HO.out.lt g h').2
            omega
        have hout1 : OwnB w.heap.size w1 (.slice (some ⟨g, 0, none⟩) (bl.length) cap) (bl ++ unval (v / 2 ^ n) (n - n)) := by
          rw [Nat.sub_self, unval, List.append_nil]
          refine ⟨?_, fun h => absurd h hb⟩
          exact hown1
        have H1 := Lib.hid (And.intro hout1 (And.intro hlow1 (And.intro hap1 hb1)))
        clear hout1 hlow1 hap1 hb1 hown1 hgrow1 hgg1 HXR
        go_wp2_with fail
        go_loopw [9, 11] (fun o i wq => ∃ (m : Nat) (z : Int), m ≤ n ∧ z + 1 = m ∧ i = .int .i64 z ∧ OwnB w.heap.size wq o (bl ++ unval (v / 2 ^ m) (n - m)) ∧ wq.ownsRow w.heap.size 4 1 (.slice A8 n c8) n (bls (lows v n)) ∧ (∀ r, o.ownBlock = some r → (Value.slice A8 n c8).ownBlock ≠ some r) ∧ Below w.heap.size w wq) (fun _ i _ => (intOf i + 1).toNat)
        case atStart => exact ⟨n, (n : Int) - 1, by omega, by omega, rfl, H1.out⟩
        case round =>
          obtain ⟨m, z, hm, hz, rfl, hout, hlow, hap, hbq⟩ := hrel
          have HOUT := Lib.hid hout
          have HLOW := Lib.hid hlow
          have HAP := Lib.hid hap
          have HBQ := Lib.hid hbq
          clear hout hlow hap hbq HO HB HX
          rcases Nat.eq_zero_or_pos m with h0 | h0
          · subst h0
            obtain rfl : z = -1 := by omega
            go_wp2
            refine bodyPost_ret (v := .tuple #[u9, .int .i64 0]) (by simp [results, Try.results147, go_sem]) rfl ⟨_, rfl, ?_, HBQ.out⟩
            have h1 := HOUT.out
            rw [Nat.pow_zero, Nat.div_one, Nat.sub_zero] at h1
            exact h1
          · obtain ⟨j, rfl⟩ : ∃ j, m = j + 1 := ⟨m - 1, by omega⟩
            obtain rfl : z = (j : Int) := by omega
            obtain ⟨g8, c8', e8, _, _⟩ := HLOW.out.form (by omega)
            injection e8 with e8 _ e9
            subst e8
            subst e9
            have hc := (HLOW.out.cellAt j (by omega)).trans (bls_at (lows_at (v := v) (show j < n by omega)))
            have hj0 : (0 : Int) ≤ (j : Int) := by omega
            have hj1 : (j : Int) < (n : Int) := by omega
            have hnext : (bl ++ unval (v / 2 ^ (j + 1)) (n - (j + 1))) ++ [v / 2 ^ j % 2 == 1] = bl ++ unval (v / 2 ^ j) (n - j) := by
              have e1 : n - j = n - (j + 1) + 1 := by omega
              rw [e1, unval, half_pow, List.append_assoc]
            have hlen : (bl ++ unval (v / 2 ^ (j + 1)) (n - (j + 1))).length < 65536 := by
              rw [List.length_append, length_unval]
              omega
            generalize bl ++ unval (v / 2 ^ (j + 1)) (n - (j + 1)) = cur at *
            generalize (v / 2 ^ j % 2 == 1) = bit at *
            have HN := Lib.hid hnext
            clear hnext
            go_wp2_with (at_builtin; go_loud (refine wpList_append_lies _ rfl _ _ _ (by rfl) w.heap.size 4 i0 (.bool false) 1 1 Try.underlying31 hi hi0 hi1 hi2 rfl (by omega) u9 cur.length _ (by rfl) (HOUT.out.1.alloc _) ⟨wr.heap.size, 0, none⟩ 1 1 [.bool bit] (by rfl) (by rfl) (cell_one_new _ _ _) (fun u hu => by simp at hu; subst hu; rfl) (by omega) (by unfold maxLen; omega) (by omega) (by have := HBQ.out.size; simp; omega) (wr.heap.size + 1) (by simp) ?_))
            intro g cap w2 hown2 hgrow hgg _
            have hb2 : Below w.heap.size w w2 := (HBQ.out.alloc HBQ.out.size _).grown hgrow (by have := HBQ.out.size; simp; omega) (fun r hr => (HOUT.out.1.lt r hr).1)
            have hlow2 := own_only HLOW.out ((((Only.refl (fun k => u9.ownBlock = some k) wr).alloc _).grown hgrow (fun k hk => .inl hk))) (fun k hk hk' => HAP.out k hk' hk)
            have h8 := (HLOW.out.lt g8 rfl).2
            have hap2 : ∀ r, (Value.slice (some ⟨g, 0, none⟩) (cur.length + 1) cap).ownBlock = some r → (Value.slice (some ⟨g8, 0, none⟩) n c8).ownBlock ≠ some r := by
              intro r hr
              have : g = r := by simpa [Value.ownBlock] using hr
              subst this
              rcases hgg with h | h
              · exact HAP.out g h
              · intro h'
                have : g8 = g := by simpa [Value.ownBlock] using h'
                omega
            have hout2 : OwnB w.heap.size w2 (.slice (some ⟨g, 0, none⟩) (cur.length + 1) cap) (bl ++ unval (v / 2 ^ j) (n - j)) := by
              rw [← HN.out]
              refine ⟨?_, fun h => by simp at h⟩
              rw [List.length_append, bls_append]
              exact hown2
            have H2 := Lib.hid (And.intro hout2 (And.intro hlow2 (And.intro hap2 hb2)))
            clear hout2 hlow2 hap2 hb2 hown2 hgrow hgg hc h8
            go_wp2
            go_roundw
            case rel => exact ⟨j, (j : Int) - 1, by omega, by omega, by go_num, H2.out⟩
            case measure => simp [intOf]
end Go.Proofs.Ytbcjfdhphpckfaa
