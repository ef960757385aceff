/-
  What Write does: the bytes of lengths, or why there are none. status: which statuses may be. status: how many bytes a status has. status: a status as bits, there and back: plain lists. status: numbers are got, one behind the other; what tells that bytes are a status. status: the document's miss: may it be?. status: the document's Right. status: are lists of misses equal?. status: are statuses equal? the code's and the document's. status: what is wrong with bytes; one miss is read. status: numbers are put, one behind the other. status: a miss is written, and a status. status: one miss is read. status: one miss is read, with a part. status: one miss is read, whatever the bits. status: a list of misses of a call's own, while it grows. status: a status is read: what stands at the jump. status: a status is read: its bytes, or why they are none. status: a status is read: the walk. status: a status is written: its bytes, or why it has none. What status answers to fixed calls. status: a status as the document's. status: a status as the document's, walked. Fields' lengths: which may be, how many bytes they are: plain lists.
-/
import Derived.Test.YtjonkpdjhjobfaaJUmtxLives02
import Derived.Test.YtjonkpdjhjobfaaJUmtxLives01
import Derived.Deep.RegionHeld3
import Derived.BigRegion
import Derived.Deep.RegionWith
import Derived.Laws.ResultCell
namespace Go.Proofs.Ytjonkpdjhjobfaa
open Go.RowKit

theorem cell_below {w v : World} {p : Addr} {x : Value} (hb : Below w.heap.size w v) (h : w.cell? p = some x) : v.cell? p = some x := by
  have hp : p.block < w.heap.size := by
    rcases Nat.lt_or_ge p.block w.heap.size with h2 | h2
    · exact h2
    · exfalso
      simp [World.cell?, Array.getElem?_eq_none h2] at h
  exact (hb.cell hp).trans h

set_option maxRecDepth 100000 in
set_option maxHeartbeats 1600000 in
theorem write_ok_11 {A : Option Addr} {L : List Nat} (n cap : Nat) (w : World) (hn : L.length = n) (h0 : 1 ≤ n) (h23 : n ≤ 23) (hL : ∀ x ∈ L, 1 ≤ x ∧ x < 2 ^ 11) (hs : Src w A (insN L)) :
    Calls Try.prog 202 #[.slice A n cap, .int .i64 11] w fun e w' => ∃ g, e = .returned (.tuple #[.slice (some ⟨g, 0, none⟩) (packLen (n * (11 + 1))) (packLen (n * (11 + 1))), .int .i64 0]) ∧ w.heap.size ≤ g ∧ Row w' g 5 (bts (pack (wbl 11 L))).toArray ∧ Below w.heap.size w w' := by
  have hf : faultF (L.map (fun n : Nat => (n : Int))) 11 = 0 := by
    unfold faultF
    rw [List.length_map, hn, if_neg (by omega), if_neg (by omega), if_pos]
    rw [List.all_eq_true]
    intro x hx
    rw [List.mem_map] at hx
    obtain ⟨y, hy, rfl⟩ := hx
    have h1 := hL y hy
    unfold mayL
    rw [decide_eq_true (show (1 : Int) ≤ y by omega), decide_eq_true (show (y : Int) < 2 ^ 11 by simp only [show (2 : Int) ^ 11 = 2048 from rfl]; omega)]
    rfl
  have hfa := fault_11 (l := L.map (fun n : Nat => (n : Int))) n cap w (by rw [List.length_map]; exact hn) (by unfold maxLen; omega) hs
  rw [hf] at hfa
  have HF := Lib.hid hfa
  have HN := Lib.hid (new_any w.heap.size w (Nat.le_refl _))
  have HS := Lib.hid hs
  have HL := Lib.hid hL
  have HLN := Lib.hid hn
  have HWB := Lib.hid (wbk_all 11 L)
  rw [hn] at HWB
  have hn0 : (0 : Int) < (n : Int) := by omega
  clear hs hL hn hfa hf
  go_enter Try.func202, Try.ntmps202
  go_wp2_with (first
    | (go_at_call 220; refine HF.out.mono ?_; rintro e w1 ⟨rfl, rfl⟩)
    | (go_at_call 158; refine HN.out.mono ?_; rintro e w2 ⟨rfl, hr2, hb2⟩; have HR2 := Lib.hid hr2; have HB2 := Lib.hid hb2; clear hr2 hb2))
  generalize hp : w.heap.size = p at HR2 ⊢
  have HP := Lib.hid hp
  have HR0 : Hid (WRep p w2 p (.slice none 0 0) (wbk 11 L 0)) := HR2
  clear hp HR2
  go_loopw [19] (fun i wr => ∃ (k : Nat) (sv : Value), k ≤ n ∧ i = .int .i64 k ∧ Hid (WRep p wr p sv (wbk 11 L k)) ∧ Hid (Below p w wr)) (fun i _ => n - (intOf i).toNat)
  case atStart => exact ⟨0, _, by omega, rfl, HR0, by rw [← HP.out]; exact HB2⟩
  case round =>
    obtain ⟨k, sv, hk, rfl, HR, HB⟩ := hrel
    clear HR0 HB2
    have hbl : (wbk 11 L k).length ≤ 400 := by
      rw [length_wbk]
      have := Nat.mul_le_mul_right (11 + 1) hk
      omega
    by_cases hlt : k < n
    · have hkl : k < L.length := by have := HLN.out; omega
      have hx : L[k]? = some L[k] := List.getElem?_eq_getElem hkl
      obtain ⟨ad, rfl, hc⟩ := HS.out (by rw [length_insN]; omega)
      have hat : (insN L)[k]? = some (.int .i64 (L[k] : Nat)) := by simp [insN, hx]
      have hcell0 := hc _ _ hat
      have hcell : wr.cell? (ad.add k) = some (.int .i64 (L[k] : Nat)) := cell_below (by rw [HP.out]; exact HB.out) hcell0
      have hrange := HL.out _ (List.getElem_mem hkl)
      have HX := Lib.hid (show wbk 11 L (k + 1) = (wbk 11 L k ++ [decide (k + 1 < n)]) ++ unval L[k] 11 by
        rw [wbk, List.getD_eq_getElem?_getD, hx, HLN.out]
        simp)
      generalize L[k] = x at *
      have hlt2 : (k : Int) < (n : Int) := by omega
      have hk0 : (0 : Int) ≤ (k : Int) := by omega
      have hxw : IntKind.u64.wrap (x : Int) = (x : Int) := by rw [IntKind.wrap_u64]; omega
      have hx15 : x < 2048 := hrange.2
      have HXR := Lib.hid hrange.2
      clear hc hx hat hcell0 hrange
      have HP2 := Lib.hid (fun W sv' bl (h : WRep p W p sv' bl) (hb : bl.length ≤ 500) => (show Calls Try.prog 159 #[.pointer (some ⟨p, 0, none⟩), .int .u64 x, .int .i64 11] W (Wrote p W p sv' (bl ++ unval x 11) (.returned (.int .i64 0))) from put_any x 11 W h (by omega) HXR.out (by omega) (by omega)))
      by_cases hk1 : k + 1 < n
      · have hd : (k : Int) < (n : Int) - 1 := by omega
        have HFo := Lib.hid (follows_any true wr)
        have HP1 := Lib.hid (show Calls Try.prog 159 #[.pointer (some ⟨p, 0, none⟩), .int .u64 1, .int .i64 1] wr (Wrote p wr p sv (wbk 11 L k ++ [true]) (.returned (.int .i64 0))) from put_any 1 1 wr HR.out (by omega) (by omega) (by omega) (by omega))
        rw [decide_eq_true hk1] at HX
        go_wp2_with (first
          | (go_at_call 221; refine HFo.out.mono ?_; rintro e w3 ⟨rfl, rfl⟩; rw [show ((true.toNat : Nat) : Int) = 1 from rfl])
          | (go_at_call 159; (with_reducible refine HP1.out.mono ?_); rintro e w4 ⟨rfl, sv4, hr4, ho4, hy4⟩; have HR4 := Lib.hid hr4; have HB4 := Lib.hid (HB.out.trans (wrote_below HR.out hy4)); clear hr4 ho4 hy4)
          | (go_at_call 159; refine (HP2.out w4 sv4 _ HR4.out (by simp; omega)).mono ?_; rintro e w5 ⟨rfl, sv5, hr5, ho5, hy5⟩; have HR5 := Lib.hid hr5; have HB5 := Lib.hid (HB4.out.trans (wrote_below HR4.out hy5)); clear hr5 ho5 hy5))
        go_roundw
        case rel => exact ⟨k + 1, sv5, by omega, by go_num, Lib.hid (by rw [HX.out]; exact HR5.out), HB5⟩
        case measure => simp [intOf]; omega
      · have hd : ¬ (k : Int) < (n : Int) - 1 := by omega
        have HFo := Lib.hid (follows_any false wr)
        have HP1 := Lib.hid (show Calls Try.prog 159 #[.pointer (some ⟨p, 0, none⟩), .int .u64 0, .int .i64 1] wr (Wrote p wr p sv (wbk 11 L k ++ [false]) (.returned (.int .i64 0))) from put_any 0 1 wr HR.out (by omega) (by omega) (by omega) (by omega))
        rw [decide_eq_false hk1] at HX
        go_wp2_with (first
          | (go_at_call 221; refine HFo.out.mono ?_; rintro e w3 ⟨rfl, rfl⟩; rw [show ((false.toNat : Nat) : Int) = 0 from rfl])
          | (go_at_call 159; (with_reducible refine HP1.out.mono ?_); rintro e w4 ⟨rfl, sv4, hr4, ho4, hy4⟩; have HR4 := Lib.hid hr4; have HB4 := Lib.hid (HB.out.trans (wrote_below HR.out hy4)); clear hr4 ho4 hy4)
          | (go_at_call 159; refine (HP2.out w4 sv4 _ HR4.out (by simp; omega)).mono ?_; rintro e w5 ⟨rfl, sv5, hr5, ho5, hy5⟩; have HR5 := Lib.hid hr5; have HB5 := Lib.hid (HB4.out.trans (wrote_below HR4.out hy5)); clear hr5 ho5 hy5))
        go_roundw
        case rel => exact ⟨k + 1, sv5, by omega, by go_num, Lib.hid (by rw [HX.out]; exact HR5.out), HB5⟩
        case measure => simp [intOf]; omega
    · obtain rfl : k = n := by omega
      have HBY := Lib.hid (bytes_any HR.out (by omega))
      rw [length_wbk, HWB.out] at HBY
      clear hbl hlt hk
      go_wp2_with (go_at_call 162; refine HBY.out.mono ?_; rintro e w6 ⟨g, rfl, hg, hrow, hb6⟩)
      exact bodyPost_ret (v := .tuple #[.slice (some ⟨g, 0, none⟩) (packLen (k * (11 + 1))) (packLen (k * (11 + 1))), .int .i64 0]) (by simp [results, Try.results202, go_sem]) rfl ⟨g, rfl, by have := HB.out.size; omega, hrow, by rw [HP.out]; exact bl_step' HB.out (hb6.mono (by have := HP.out; have := HB.out.size; omega))⟩

set_option maxRecDepth 100000 in
set_option maxHeartbeats 1600000 in
theorem write_ok_15 {A : Option Addr} {L : List Nat} (n cap : Nat) (w : World) (hn : L.length = n) (h0 : 1 ≤ n) (h23 : n ≤ 23) (hL : ∀ x ∈ L, 1 ≤ x ∧ x < 2 ^ 15) (hs : Src w A (insN L)) :
    Calls Try.prog 202 #[.slice A n cap, .int .i64 15] w fun e w' => ∃ g, e = .returned (.tuple #[.slice (some ⟨g, 0, none⟩) (packLen (n * (15 + 1))) (packLen (n * (15 + 1))), .int .i64 0]) ∧ w.heap.size ≤ g ∧ Row w' g 5 (bts (pack (wbl 15 L))).toArray ∧ Below w.heap.size w w' := by
  have hf : faultF (L.map (fun n : Nat => (n : Int))) 15 = 0 := by
    unfold faultF
    rw [List.length_map, hn, if_neg (by omega), if_neg (by omega), if_pos]
    rw [List.all_eq_true]
    intro x hx
    rw [List.mem_map] at hx
    obtain ⟨y, hy, rfl⟩ := hx
    have h1 := hL y hy
    unfold mayL
    rw [decide_eq_true (show (1 : Int) ≤ y by omega), decide_eq_true (show (y : Int) < 2 ^ 15 by simp only [show (2 : Int) ^ 15 = 32768 from rfl]; omega)]
    rfl
  have hfa := fault_15 (l := L.map (fun n : Nat => (n : Int))) n cap w (by rw [List.length_map]; exact hn) (by unfold maxLen; omega) hs
  rw [hf] at hfa
  have HF := Lib.hid hfa
  have HN := Lib.hid (new_any w.heap.size w (Nat.le_refl _))
  have HS := Lib.hid hs
  have HL := Lib.hid hL
  have HLN := Lib.hid hn
  have HWB := Lib.hid (wbk_all 15 L)
  rw [hn] at HWB
  have hn0 : (0 : Int) < (n : Int) := by omega
  clear hs hL hn hfa hf
  go_enter Try.func202, Try.ntmps202
  go_wp2_with (first
    | (go_at_call 220; refine HF.out.mono ?_; rintro e w1 ⟨rfl, rfl⟩)
    | (go_at_call 158; refine HN.out.mono ?_; rintro e w2 ⟨rfl, hr2, hb2⟩; have HR2 := Lib.hid hr2; have HB2 := Lib.hid hb2; clear hr2 hb2))
  generalize hp : w.heap.size = p at HR2 ⊢
  have HP := Lib.hid hp
  have HR0 : Hid (WRep p w2 p (.slice none 0 0) (wbk 15 L 0)) := HR2
  clear hp HR2
  go_loopw [19] (fun i wr => ∃ (k : Nat) (sv : Value), k ≤ n ∧ i = .int .i64 k ∧ Hid (WRep p wr p sv (wbk 15 L k)) ∧ Hid (Below p w wr)) (fun i _ => n - (intOf i).toNat)
  case atStart => exact ⟨0, _, by omega, rfl, HR0, by rw [← HP.out]; exact HB2⟩
  case round =>
    obtain ⟨k, sv, hk, rfl, HR, HB⟩ := hrel
    clear HR0 HB2
    have hbl : (wbk 15 L k).length ≤ 400 := by
      rw [length_wbk]
      have := Nat.mul_le_mul_right (15 + 1) hk
      omega
    by_cases hlt : k < n
    · have hkl : k < L.length := by have := HLN.out; omega
      have hx : L[k]? = some L[k] := List.getElem?_eq_getElem hkl
      obtain ⟨ad, rfl, hc⟩ := HS.out (by rw [length_insN]; omega)
      have hat : (insN L)[k]? = some (.int .i64 (L[k] : Nat)) := by simp [insN, hx]
      have hcell0 := hc _ _ hat
      have hcell : wr.cell? (ad.add k) = some (.int .i64 (L[k] : Nat)) := cell_below (by rw [HP.out]; exact HB.out) hcell0
      have hrange := HL.out _ (List.getElem_mem hkl)
      have HX := Lib.hid (show wbk 15 L (k + 1) = (wbk 15 L k ++ [decide (k + 1 < n)]) ++ unval L[k] 15 by
        rw [wbk, List.getD_eq_getElem?_getD, hx, HLN.out]
        simp)
      generalize L[k] = x at *
      have hlt2 : (k : Int) < (n : Int) := by omega
      have hk0 : (0 : Int) ≤ (k : Int) := by omega
      have hxw : IntKind.u64.wrap (x : Int) = (x : Int) := by rw [IntKind.wrap_u64]; omega
      have hx15 : x < 32768 := hrange.2
      have HXR := Lib.hid hrange.2
      clear hc hx hat hcell0 hrange
      have HP2 := Lib.hid (fun W sv' bl (h : WRep p W p sv' bl) (hb : bl.length ≤ 500) => (show Calls Try.prog 159 #[.pointer (some ⟨p, 0, none⟩), .int .u64 x, .int .i64 15] W (Wrote p W p sv' (bl ++ unval x 15) (.returned (.int .i64 0))) from put_any x 15 W h (by omega) HXR.out (by omega) (by omega)))
      by_cases hk1 : k + 1 < n
      · have hd : (k : Int) < (n : Int) - 1 := by omega
        have HFo := Lib.hid (follows_any true wr)
        have HP1 := Lib.hid (show Calls Try.prog 159 #[.pointer (some ⟨p, 0, none⟩), .int .u64 1, .int .i64 1] wr (Wrote p wr p sv (wbk 15 L k ++ [true]) (.returned (.int .i64 0))) from put_any 1 1 wr HR.out (by omega) (by omega) (by omega) (by omega))
        rw [decide_eq_true hk1] at HX
        go_wp2_with (first
          | (go_at_call 221; refine HFo.out.mono ?_; rintro e w3 ⟨rfl, rfl⟩; rw [show ((true.toNat : Nat) : Int) = 1 from rfl])
          | (go_at_call 159; (with_reducible refine HP1.out.mono ?_); rintro e w4 ⟨rfl, sv4, hr4, ho4, hy4⟩; have HR4 := Lib.hid hr4; have HB4 := Lib.hid (HB.out.trans (wrote_below HR.out hy4)); clear hr4 ho4 hy4)
          | (go_at_call 159; refine (HP2.out w4 sv4 _ HR4.out (by simp; omega)).mono ?_; rintro e w5 ⟨rfl, sv5, hr5, ho5, hy5⟩; have HR5 := Lib.hid hr5; have HB5 := Lib.hid (HB4.out.trans (wrote_below HR4.out hy5)); clear hr5 ho5 hy5))
        go_roundw
        case rel => exact ⟨k + 1, sv5, by omega, by go_num, Lib.hid (by rw [HX.out]; exact HR5.out), HB5⟩
        case measure => simp [intOf]; omega
      · have hd : ¬ (k : Int) < (n : Int) - 1 := by omega
        have HFo := Lib.hid (follows_any false wr)
        have HP1 := Lib.hid (show Calls Try.prog 159 #[.pointer (some ⟨p, 0, none⟩), .int .u64 0, .int .i64 1] wr (Wrote p wr p sv (wbk 15 L k ++ [false]) (.returned (.int .i64 0))) from put_any 0 1 wr HR.out (by omega) (by omega) (by omega) (by omega))
        rw [decide_eq_false hk1] at HX
        go_wp2_with (first
          | (go_at_call 221; refine HFo.out.mono ?_; rintro e w3 ⟨rfl, rfl⟩; rw [show ((false.toNat : Nat) : Int) = 0 from rfl])
          | (go_at_call 159; (with_reducible refine HP1.out.mono ?_); rintro e w4 ⟨rfl, sv4, hr4, ho4, hy4⟩; have HR4 := Lib.hid hr4; have HB4 := Lib.hid (HB.out.trans (wrote_below HR.out hy4)); clear hr4 ho4 hy4)
          | (go_at_call 159; refine (HP2.out w4 sv4 _ HR4.out (by simp; omega)).mono ?_; rintro e w5 ⟨rfl, sv5, hr5, ho5, hy5⟩; have HR5 := Lib.hid hr5; have HB5 := Lib.hid (HB4.out.trans (wrote_below HR4.out hy5)); clear hr5 ho5 hy5))
        go_roundw
        case rel => exact ⟨k + 1, sv5, by omega, by go_num, Lib.hid (by rw [HX.out]; exact HR5.out), HB5⟩
        case measure => simp [intOf]; omega
    · obtain rfl : k = n := by omega
      have HBY := Lib.hid (bytes_any HR.out (by omega))
      rw [length_wbk, HWB.out] at HBY
      clear hbl hlt hk
      go_wp2_with (go_at_call 162; refine HBY.out.mono ?_; rintro e w6 ⟨g, rfl, hg, hrow, hb6⟩)
      exact bodyPost_ret (v := .tuple #[.slice (some ⟨g, 0, none⟩) (packLen (k * (15 + 1))) (packLen (k * (15 + 1))), .int .i64 0]) (by simp [results, Try.results202, go_sem]) rfl ⟨g, rfl, by have := HB.out.size; omega, hrow, by rw [HP.out]; exact bl_step' HB.out (hb6.mono (by have := HP.out; have := HB.out.size; omega))⟩
end Go.Proofs.Ytjonkpdjhjobfaa
namespace Go.Proofs.Ytjonkpdjhjobfaa
open Go.RowKit

def MSrc (W : World) (A : Option Addr) (L : List MissM) : Prop :=
  0 < L.length → ∃ b o, A = some ⟨b, o, none⟩ ∧ ∀ (k : Nat) (m : MissM), L[k]? = some m → W.cell? ⟨b, o + k * 4, none⟩ = some (.int .i64 m.sn) ∧ W.cell? ⟨b, o + k * 4 + 1, none⟩ = some (.bool m.part) ∧ W.cell? ⟨b, o + k * 4 + 2, none⟩ = some (.int .i64 m.fr) ∧ W.cell? ⟨b, o + k * 4 + 3, none⟩ = some (.int .i64 m.to)
theorem MSrc.later {w v : World} {A : Option Addr} {L : List MissM} (h : MSrc w A L) (hb : Below w.heap.size w v) : MSrc v A L := fun h0 => by
  obtain ⟨b, o, h1, h2⟩ := h h0
  exact ⟨b, o, h1, fun k m hm => by
    obtain ⟨a, b, c, d⟩ := h2 k m hm
    exact ⟨cell_below hb a, cell_below hb b, cell_below hb c, cell_below hb d⟩⟩
end Go.Proofs.Ytjonkpdjhjobfaa
namespace Go.Proofs.Ytjonkpdjhjobfaa
open Go.RowKit

end Go.Proofs.Ytjonkpdjhjobfaa
namespace Go.Proofs.Ytjonkpdjhjobfaa
open Go.RowKit

def pbN (x : Nat) : Nat := if x = 10 then 15 else 16
/-- one miss of the bits from a place on -/
def rdMiss (bs : List Nat) (x i : Nat) : Option (MissM × Bool × Nat) :=
  if 8 * bs.length < i + x + 1 + 1 then none
  else if bitAt bs (i + x + 1) then
    (if 8 * bs.length < i + x + 1 + 1 + pbN x + pbN x then none
     else some (⟨((val (seg bs i x) : Nat) : Int), true, ((val (seg bs (i + x + 1 + 1) (pbN x)) : Nat) : Int), endF ((val (seg bs (i + x + 1 + 1 + pbN x) (pbN x)) : Nat) : Int) x⟩, bitAt bs (i + x), i + x + 1 + 1 + pbN x + pbN x))
  else some (⟨((val (seg bs i x) : Nat) : Int), false, 0, 0⟩, bitAt bs (i + x), i + x + 1 + 1)
/-- the misses of the bits from a place on: an error's number, the misses, the place behind them -/
def rdAll (bs : List Nat) (x : Nat) : Nat → List MissM → Nat → Bool → Int × List MissM × Nat
  | _, acc, i, false => (0, acc, i)
  | 0, _, _, true => (2, [], 0)
  | f + 1, acc, i, true =>
    match rdMiss bs x i with
    | none => (8, [], 0)
    | some (m, more, j) => if more && (f == 0) then (2, [], 0) else if placedB m x then rdAll bs x f (acc ++ [m]) j more else (3, [], 0)
end Go.Proofs.Ytjonkpdjhjobfaa
namespace Go.Proofs.Ytjonkpdjhjobfaa
open Go.RowKit

section
variable {B : Nat} {w v u : World}
end
end Go.Proofs.Ytjonkpdjhjobfaa
namespace Go.Proofs.Ytjonkpdjhjobfaa
open Go.RowKit

end Go.Proofs.Ytjonkpdjhjobfaa
namespace Go.Proofs.Ytjonkpdjhjobfaa
open Go.RowKit

end Go.Proofs.Ytjonkpdjhjobfaa
namespace Go.Proofs.Ytjonkpdjhjobfaa
open Go.RowKit

end Go.Proofs.Ytjonkpdjhjobfaa
namespace Go.Proofs.Ytjonkpdjhjobfaa
open Go.RowKit

end Go.Proofs.Ytjonkpdjhjobfaa
namespace Go.Proofs.Ytjonkpdjhjobfaa
open Go.RowKit

end Go.Proofs.Ytjonkpdjhjobfaa
namespace Go.Proofs.Ytjonkpdjhjobfaa
open Go.RowKit

/-- below B nothing has changed, and rows of other types than a writer's stay -/
def KeepW (B : Nat) (w v : World) : Prop := Below B w v ∧ w.heap.size ≤ v.heap.size ∧ ∀ (g : Nat) (t : TypeId) (cs : Array Value), t ≠ 5 → t ≠ 262 → Row w g t cs → Row v g t cs
section
variable {B : Nat} {w v u : World}
theorem KeepW.refl (B : Nat) (w : World) : KeepW B w w := ⟨Below.refl _ _, Nat.le_refl _, fun _ _ _ _ _ h => h⟩
theorem KeepW.trans (h : KeepW B w v) (k : KeepW B v u) : KeepW B w u := ⟨h.1.trans k.1, Nat.le_trans h.2.1 k.2.1, fun g t cs h1 h2 hr => k.2.2 g t cs h1 h2 (h.2.2 g t cs h1 h2 hr)⟩
theorem KeepW.of_below (h : Below w.heap.size w v) (hB : B ≤ w.heap.size) : KeepW B w v := ⟨h.mono hB, h.size, fun _ _ _ _ _ hr => hr.later h⟩
theorem KeepW.alloc (h : KeepW B w v) (hB : B ≤ w.heap.size) (o : Obj) : KeepW B w (v.alloc o) := h.trans (KeepW.of_below (bl_alloc (Below.refl _ _) o) (Nat.le_trans hB h.2.1))
theorem KeepW.row (h : KeepW B w v) {g : Nat} {t : TypeId} {cs : Array Value} (hr : Row w g t cs) (h1 : t ≠ 5) (h2 : t ≠ 262) : Row v g t cs := h.2.2 g t cs h1 h2 hr
end
end Go.Proofs.Ytjonkpdjhjobfaa
namespace Go.Proofs.Ytjonkpdjhjobfaa
open Go.RowKit

/-- a writer at block p has the bits of kp; since w0 only what may has changed -/
def StW (B : Nat) (w0 : World) (p : Nat) (kp : List (Nat × Nat)) (w : World) : Prop := (∃ sv, WRep B w p sv (bitsP kp)) ∧ KeepW B w0 w ∧ B ≤ w0.heap.size
theorem StW.alloc {B p : Nat} {w0 w : World} {kp : List (Nat × Nat)} (h : StW B w0 p kp w) (o : Obj) : StW B w0 p kp (w.alloc o) := by
  obtain ⟨⟨sv, h1⟩, h2, h3⟩ := h
  exact ⟨⟨sv, h1.later (bl_alloc (Below.refl _ _) o)⟩, h2.alloc h3 o, h3⟩
theorem StW.drew {B p : Nat} {w0 w : World} {kp : List (Nat × Nat)} (h : StW B w0 p kp w) : StW B w0 p kp w.drew := by
  obtain ⟨⟨sv, h1⟩, h2, h3⟩ := h
  exact ⟨⟨sv, h1.later (bl_drew (Below.refl _ _))⟩, h2.trans (KeepW.of_below (bl_drew (Below.refl _ _)) (Nat.le_trans h3 h2.2.1)), h3⟩
theorem StW.next {B p : Nat} {w0 w1 w : World} {kp kp' : List (Nat × Nat)} (h : StW B w0 p kp w1) (k : StW B w1 p kp' w) : StW B w0 p kp' w := ⟨k.1, h.2.1.trans k.2.1, h.2.2⟩
theorem StW.start {B p : Nat} {w : World} {kp : List (Nat × Nat)} (h : ∃ sv, WRep B w p sv (bitsP kp)) (hB : B ≤ w.heap.size) : StW B w p kp w := ⟨h, KeepW.refl _ _, hB⟩
theorem size_1 (w : World) (o : Obj) : (w.alloc o).heap.size = w.heap.size + 1 := by simp
end Go.Proofs.Ytjonkpdjhjobfaa
namespace Go.Proofs.Ytjonkpdjhjobfaa
open Go.RowKit

theorem row_at2 (W : World) (k : Nat) (t : TypeId) (cs : Array Value) (h : W.heap.size = k) : Row (W.alloc (.cells cs t)) k t cs := by subst h; exact Row.made _ _ _
section
variable {B p gb i j : Nat} {bs : List Nat} {w0 w1 w : World}
end
end Go.Proofs.Ytjonkpdjhjobfaa
namespace Go.Proofs.Ytjonkpdjhjobfaa
open Go.RowKit

end Go.Proofs.Ytjonkpdjhjobfaa
namespace Go.Proofs.Ytjonkpdjhjobfaa
open Go.RowKit

end Go.Proofs.Ytjonkpdjhjobfaa
namespace Go.Proofs.Ytjonkpdjhjobfaa
open Go.RowKit

end Go.Proofs.Ytjonkpdjhjobfaa
namespace Go.Proofs.Ytjonkpdjhjobfaa
open Go.RowKit

section
variable {w w1 w2 : World} {bs : List Nat} {p gb q i j : Nat} {ack : Int} {acc : List MissM} {mv : Value}
end
end Go.Proofs.Ytjonkpdjhjobfaa
namespace Go.Proofs.Ytjonkpdjhjobfaa
open Go.RowKit

/-- the loop goes on with this -/
def LoopEq (bs : List Nat) (x : Nat) (acc : List MissM) (i : Nat) (more : Bool) : Prop := acc.length ≤ 32 ∧ (acc.length = 32 → more = false) ∧ rdAll bs x (32 - acc.length) acc i more = rdAll bs x 32 [] (0 + 4 + x + 1) (bitAt bs (0 + 4 + x))
section
variable {bs : List Nat} {x i j : Nat} {acc : List MissM} {m : MissM} {more : Bool}
theorem LoopEq.start (bs : List Nat) (x : Nat) : LoopEq bs x [] (0 + 4 + x + 1) (bitAt bs (0 + 4 + x)) := ⟨by simp, by simp, rfl⟩
theorem LoopEq.none (h : LoopEq bs x acc i true) (e : rdMiss bs x i = none) : rdAll bs x 32 [] (0 + 4 + x + 1) (bitAt bs (0 + 4 + x)) = (8, [], 0) := by
  obtain ⟨h1, h2, h3⟩ := h
  have h4 : acc.length ≠ 32 := fun h => by have := h2 h; cases this
  rw [show 32 - acc.length = (31 - acc.length) + 1 by omega, rdAll, e] at h3
  exact h3.symm
theorem LoopEq.long (h : LoopEq bs x acc i true) (e : rdMiss bs x i = some (m, true, j)) (hl : acc.length = 31) : rdAll bs x 32 [] (0 + 4 + x + 1) (bitAt bs (0 + 4 + x)) = (2, [], 0) := by
  obtain ⟨h1, h2, h3⟩ := h
  rw [show 32 - acc.length = 0 + 1 by omega, rdAll, e] at h3
  simpa using h3.symm
theorem LoopEq.form (h : LoopEq bs x acc i true) (e : rdMiss bs x i = some (m, more, j)) (hl : more = true → acc.length ≠ 31) (hp : placedB m x = false) : rdAll bs x 32 [] (0 + 4 + x + 1) (bitAt bs (0 + 4 + x)) = (3, [], 0) := by
  obtain ⟨h1, h2, h3⟩ := h
  have h4 : acc.length ≠ 32 := fun h => by have := h2 h; cases this
  have h5 : (more && (31 - acc.length == 0)) = false := by
    cases more
    · rfl
    · have := hl rfl
      simp
      omega
  rw [show 32 - acc.length = (31 - acc.length) + 1 by omega, rdAll, e] at h3
  simp only [h5, hp, Bool.false_eq_true, if_false] at h3
  exact h3.symm
theorem LoopEq.next (h : LoopEq bs x acc i true) (e : rdMiss bs x i = some (m, more, j)) (hl : more = true → acc.length ≠ 31) (hp : placedB m x = true) : LoopEq bs x (acc ++ [m]) j more := by
  obtain ⟨h1, h2, h3⟩ := h
  have h4 : acc.length ≠ 32 := fun h => by have := h2 h; cases this
  have h5 : (more && (31 - acc.length == 0)) = false := by
    cases more
    · rfl
    · have := hl rfl
      simp
      omega
  rw [show 32 - acc.length = (31 - acc.length) + 1 by omega, rdAll, e] at h3
  simp only [h5, hp, Bool.false_eq_true, if_false, if_true] at h3
  refine ⟨by simp; omega, fun h6 => ?_, ?_⟩
  · simp at h6
    cases more
    · rfl
    · exact absurd (by omega) (hl rfl)
  · rw [← h3, List.length_append, List.length_singleton, show 32 - (acc.length + 1) = 31 - acc.length by omega]
theorem LoopEq.done (h : LoopEq bs x acc i false) : rdAll bs x 32 [] (0 + 4 + x + 1) (bitAt bs (0 + 4 + x)) = (0, acc, i) := by
  rw [← h.2.2]
  cases (32 - acc.length) <;> rfl
end
end Go.Proofs.Ytjonkpdjhjobfaa
namespace Go.Proofs.Ytjonkpdjhjobfaa
open Go.RowKit

end Go.Proofs.Ytjonkpdjhjobfaa
namespace Go.Proofs.Ytjonkpdjhjobfaa
open Go.RowKit

theorem StW.below {B p : Nat} {w0 w : World} {kp : List (Nat × Nat)} (h : StW B w0 p kp w) : Below B w0 w := h.2.1.1
end Go.Proofs.Ytjonkpdjhjobfaa
namespace Go.Proofs.Ytjonkpdjhjobfaa
open Go.RowKit

end Go.Proofs.Ytjonkpdjhjobfaa
namespace Go.Proofs.Ytjonkpdjhjobfaa
open Go.RowKit

end Go.Proofs.Ytjonkpdjhjobfaa
namespace Go.Proofs.Ytjonkpdjhjobfaa
open Go.RowKit

end Go.Proofs.Ytjonkpdjhjobfaa
namespace Go.Proofs.Ytjonkpdjhjobfaa


def okAt (n k m : Nat) : Bool := decide (1 ≤ m) && decide (m ≤ if k + 1 = n then 4000 else 2047)
/-- the first k of these lengths may be -/
def okTo (ls : List Nat) (k : Nat) : Bool := (List.range k).all fun j => okAt ls.length j (ls.getD j 0)
theorem okTo_zero (ls : List Nat) : okTo ls 0 = true := rfl
theorem okTo_succ (ls : List Nat) (k : Nat) : okTo ls (k + 1) = (okTo ls k && okAt ls.length k (ls.getD k 0)) := by
  unfold okTo
  rw [List.range_succ, List.all_append]
  simp
theorem okTo_at {ls : List Nat} {k m : Nat} (h : ls[k]? = some m) (h0 : okTo ls k = true) : okTo ls (k + 1) = okAt ls.length k m := by
  rw [okTo_succ, h0, List.getD_eq_getElem?_getD, h]
  rfl
theorem okTo_later {ls : List Nat} {k n : Nat} (h : okTo ls k = false) (hk : k ≤ n) : okTo ls n = false := by
  rw [← Bool.not_eq_true] at h ⊢
  intro h1
  apply h
  unfold okTo at *
  rw [List.all_eq_true] at *
  intro j hj
  exact h1 j (by rw [List.mem_range] at *; omega)
theorem okAt_small {n k m : Nat} (h : okAt n k m = true) : 1 ≤ m ∧ m ≤ 4000 ∧ (k + 1 ≠ n → m ≤ 2047) := by
  unfold okAt at h
  rw [Bool.and_eq_true, decide_eq_true_iff, decide_eq_true_iff] at h
  obtain ⟨h1, h2⟩ := h
  by_cases hk : k + 1 = n
  · rw [if_pos hk] at h2
    exact ⟨h1, h2, fun h => absurd hk h⟩
  · rw [if_neg hk] at h2
    exact ⟨h1, by omega, fun _ => h2⟩
theorem okTo_small {ls : List Nat} (h : okTo ls ls.length = true) {k m : Nat} (hm : ls[k]? = some m) : 1 ≤ m ∧ m ≤ 4000 ∧ (k + 1 ≠ ls.length → m ≤ 2047) := by
  have hk : k < ls.length := (List.getElem?_eq_some_iff.1 hm).1
  unfold okTo at h
  rw [List.all_eq_true] at h
  have h1 := h k (by rw [List.mem_range]; exact hk)
  rw [List.getD_eq_getElem?_getD, hm] at h1
  exact okAt_small h1
def sumTo (ls : List Nat) (k : Nat) : Nat := (ls.take k).sum
theorem sumTo_zero (ls : List Nat) : sumTo ls 0 = 0 := by simp [sumTo]
theorem sumTo_all (ls : List Nat) : sumTo ls ls.length = ls.sum := by simp [sumTo]
theorem sumTo_succ {ls : List Nat} {k m : Nat} (h : ls[k]? = some m) : sumTo ls (k + 1) = sumTo ls k + m := by
  obtain ⟨hk, rfl⟩ := List.getElem?_eq_some_iff.1 h
  unfold sumTo
  rw [List.take_succ_eq_append_getElem hk, List.sum_append]
  simp
theorem sumTo_le (ls : List Nat) (k : Nat) : sumTo ls k ≤ ls.sum := by
  have h := List.take_append_drop k ls
  have h1 : ls.sum = (ls.take k).sum + (ls.drop k).sum := by rw [← List.sum_append, h]
  unfold sumTo
  omega
theorem sumTo_bound {ls : List Nat} {k : Nat} (h : okTo ls k = true) (hk : k ≤ ls.length) : sumTo ls k ≤ 4000 * k := by
  induction k with
  | zero => simp [sumTo]
  | succ k ih =>
    have hm : ls[k]? = some ls[k] := List.getElem?_eq_getElem (by omega)
    rw [okTo_succ, Bool.and_eq_true, List.getD_eq_getElem?_getD, hm] at h
    have h1 := okAt_small h.2
    have h2 := ih h.1 (by omega)
    rw [sumTo_succ hm]
    simp only [Option.getD_some] at h1
    omega

/-- how many bytes fields have, with their lengths; 0: they may not be -/
def szF (ls : List Nat) (wd : Int) : Int := if 1 ≤ ls.length ∧ ls.length ≤ 24 ∧ okTo ls ls.length = true then sizeF ((ls.length : Int) - 1) wd + ls.sum else 0
/-- .. behind a head, at most 4000 in all -/
def fieldsF (ls : List Nat) (head wd : Int) : Int := if 1 ≤ ls.length ∧ ls.length ≤ 24 ∧ okTo ls ls.length = true ∧ head + sizeF ((ls.length : Int) - 1) wd + ls.sum ≤ 4000 then head + sizeF ((ls.length : Int) - 1) wd + ls.sum else 0
theorem sizeF_nonneg (n x : Int) : 0 ≤ sizeF n x ∧ sizeF n x ≤ 46 := by
  unfold sizeF
  split
  · rename_i h
    rw [Bool.and_eq_true, Bool.and_eq_true, decide_eq_true_iff, decide_eq_true_iff] at h
    obtain ⟨h1, h2, h3⟩ := h
    rcases okW_nat h1 with rfl | rfl <;> omega
  · omega
theorem szF_pos {ls : List Nat} {wd : Int} : (szF ls wd = 0 ∧ ¬ (1 ≤ ls.length ∧ ls.length ≤ 24 ∧ okTo ls ls.length = true)) ∨ (szF ls wd = sizeF ((ls.length : Int) - 1) wd + ls.sum ∧ 1 ≤ szF ls wd ∧ szF ls wd ≤ 100000 ∧ 1 ≤ ls.length ∧ ls.length ≤ 24 ∧ okTo ls ls.length = true) := by
  unfold szF
  split
  · rename_i h
    right
    obtain ⟨h1, h2, h3⟩ := h
    have h4 := sumTo_bound h3 (Nat.le_refl _)
    rw [sumTo_all] at h4
    have h5 := sizeF_nonneg ((ls.length : Int) - 1) wd
    have h6 : 1 ≤ ls.sum := by
      have hm : ls[0]? = some ls[0] := List.getElem?_eq_getElem (by omega)
      have h7 := okTo_small h3 hm
      have h8 := sumTo_succ hm
      have h9 := sumTo_le ls (0 + 1)
      omega
    exact ⟨rfl, by omega, by omega, h1, h2, h3⟩
  · exact .inl ⟨rfl, by assumption⟩
/-- the code's way to it -/
theorem fieldsF_code (ls : List Nat) (head wd : Int) : fieldsF ls head wd = if szF ls wd = 0 ∨ 4000 < head + szF ls wd then 0 else head + szF ls wd := by
  rcases szF_pos (ls := ls) (wd := wd) with ⟨h1, h2⟩ | ⟨h1, h2, h3, h4, h5, h6⟩
  · rw [if_pos (.inl h1)]
    unfold fieldsF
    rw [if_neg (fun h => h2 ⟨h.1, h.2.1, h.2.2.1⟩)]
  · unfold fieldsF
    by_cases h7 : 4000 < head + szF ls wd
    · rw [if_neg (fun h => by omega), if_pos (.inr h7)]
    · rw [if_pos ⟨h4, h5, h6, by omega⟩, if_neg (by omega)]
      omega
end Go.Proofs.Ytjonkpdjhjobfaa
