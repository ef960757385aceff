/-
  A packet's tail: the document's answer.
-/
import Derived.Test.YtdklddpkklodnaaRefPackA
namespace Go.Proofs.Ytdklddpkklodnaa
open Go.RowKit


set_option maxRecDepth 100000 in
set_option maxHeartbeats 6400000 in
theorem rtail_any {A A0 : Option Addr} {L : List RowB} {l : List Nat} (B n cap n0 c0 wd : Nat) (wi : Int) (w : World) (hwd : wd = 11 ∨ wd = 15) (e : wi = wd) (hL : L.length = n) (h1 : 1 ≤ n) (h24 : n ≤ 24) (hok : okTo (lens L) (lens L).length = true) (hsum : (lens L).sum ≤ 9000)
    (hs : ∀ W, Below B w W → RSrc W A L) (hv : OwnY B w (.slice A0 n0 c0) l) (hn0 : l.length = n0) (hn1 : n0 ≤ 10) (hB : B ≤ w.heap.size) :
    Calls Try.prog 51 #[.slice A0 n0 c0, .slice A n cap, .int .i64 wi] w fun e w' => ∃ v', e = .returned v' ∧ OwnY B w' v' (l ++ tailF (lens L) wd ++ flat L) ∧ Below B w w' := by
  have hll : (lens L).length = n := by rw [length_lens, hL]
  have HS := Lib.hid hs
  have HL := Lib.hid hL
  have HLL := Lib.hid hll
  have HV := Lib.hid hv
  have HN0 := Lib.hid hn0
  have hpos := tail_lens hok
  rw [hll] at hpos
  have HW := Lib.hid (fun W Aq cq (h : 1 ≤ n - 1) (hs : Src W Aq (insN ((lens L).take (n - 1)))) => rlens_write wd (n - 1) cq wi W hwd e (by rw [List.length_take, hll]; omega) h (by omega) hpos hs)
  have HT1 := Lib.hid (fun (h : 1 < n) => (show tailF (lens L) wd = pack (wbl wd ((lens L).take (n - 1))) by unfold tailF; rw [hll, if_pos h]))
  have HT0 := Lib.hid (fun (h : ¬ 1 < n) => (show tailF (lens L) wd = [] by unfold tailF; rw [hll, if_neg h]))
  have HT46 := Lib.hid (show (tailF (lens L) wd).length ≤ 46 by
    have h9 := length_tail wd hwd (ls := lens L) (by omega) (by omega)
    have h8 := sizeF_nonneg (((lens L).length : Int) - 1) wd
    omega)
  have HSUM := Lib.hid hsum
  clear hs hL hll hv hn0 hpos hwd e hok hsum
  go_enter Try.func51, Try.ntmps51
  go_wp2
  go_loopw [7, 8] (fun qv iv wr => ∃ (k : Nat) (Aq : Option Addr) (cq : Nat), k + 1 ≤ n ∧ iv = .int .i64 k ∧ qv = .slice Aq k cq ∧ Hid (wr.ownsRow w.heap.size 3 1 (.slice Aq k cq) k (insN ((lens L).take k))) ∧ Hid (Below w.heap.size w wr)) (fun _ iv _ => n - (intOf iv).toNat)
  case atStart => exact ⟨0, none, 0, by omega, rfl, rfl, Lib.hid (World.ownsRow_nil _ _ _ _), Lib.hid (Below.refl _ _)⟩
  case round =>
    obtain ⟨k, Aq, cq, hk, rfl, rfl, HQ, HB⟩ := hrel
    by_cases hlt : k + 1 < n
    · have hlt' : (k : Int) + 1 < n := by omega
      obtain ⟨ad, rfl, hc⟩ := HS.out wr (HB.out.mono hB) (by rw [HL.out]; omega)
      obtain ⟨r, hr⟩ : ∃ r, L[k]? = some r := ⟨_, List.getElem?_eq_getElem (by rw [HL.out]; omega)⟩
      have hcell : wr.cell? (ad.add k) = some (.slice r.A r.bs.length r.cap) := (hc k r hr).1
      obtain ⟨g3, c3, w3, hr3, ho3, hon3⟩ := int_tail HQ.out HB.out.size (r.bs.length : Nat) (by omega)
      have HQ3 := Lib.hid (show w3.ownsRow w.heap.size 3 1 (.slice (some ⟨g3, 0, none⟩) (k + 1) c3) (k + 1) (insN ((lens L).take (k + 1))) by rw [insN_take_succ (lens_at hr)]; exact ho3)
      have HB3 := Lib.hid (HB.out.trans (own_only_below HQ.out hon3 HB.out.size))
      clear hc hr ho3 hon3
      generalize r.bs.length = len at *
      go_wp2_with (at_builtin; refine wpList_run rfl (.tmp 19) (.tmp 25) 105 rfl (.slice Aq k cq) (.slice (some ⟨wr.heap.size, 0, none⟩) 1 1) (by rfl) (by rfl) hr3 ?_)
      go_roundw
      case rel => exact ⟨k + 1, _, _, by omega, by go_num, rfl, HQ3, HB3⟩
      case measure => simp [intOf]; omega
    · have hlt' : ¬ (k : Int) + 1 < n := by omega
      have hkn : k = n - 1 := by omega
      by_cases hn1x : 1 < n
      · have hk0 : (0 : Int) < k := by omega
        obtain ⟨Aw, cw, hAw, hcw⟩ : ∃ (Aw : Option Addr) (cw : Nat), Aw = Aq ∧ cw = cq := ⟨_, _, rfl, rfl⟩
        have hsq : Src wr Aq (insN ((lens L).take (n - 1))) := by
          have h9 := HQ.out
          rw [hkn] at h9
          intro h0
          obtain ⟨g, cap', hv, _, _⟩ := h9.form (by omega)
          injection hv with hA _ _
          subst hA
          exact ⟨_, rfl, h9.cells (g := g) rfl⟩
        have HW1 := Lib.hid (HW.out wr Aq cq (by omega) hsq)
        rw [← hkn] at HW1
        have HT := Lib.hid (HT1.out hn1x)
        rw [← hkn] at HT
        clear hsq hAw hcw Aw cw hkn hlt hn1x HW HT1 HT0
        go_wp2_with (first
          | (go_at_call 85; refine HW1.out.mono ?_; rintro e w4 ⟨A4, c4, k4, rfl, hk4, ho4, hb4⟩
             obtain ⟨A5, c5, w5, hr5, ho5, hq5, hb5⟩ := app_bytes2 (m := k4) (c := c4) ((HV.out.later HB.out).later hb4) HN0.out (Nat.le_trans hB (Nat.le_trans HB.out.size hb4.size)) ho4.src hk4.symm (by have := HT46.out; rw [HT.out] at this; omega)
             have HO5 := Lib.hid (show OwnY B w5 (.slice A5 (n0 + k4) c5) (l ++ tailF (lens L) wd) by rw [HT.out]; exact ho5)
             have HQ5 := Lib.hid (show (l ++ tailF (lens L) wd).length = n0 + k4 by rw [HT.out]; exact hq5)
             have HB5 := Lib.hid (((HB.out.mono hB).trans (hb4.mono (Nat.le_trans hB HB.out.size))).trans hb5)
             have hk46 : k4 ≤ 46 := by have := HT46.out; rw [HT.out] at this; omega
             clear ho4 hb4 ho5 hq5 hb5 hk4)
          | (at_builtin; refine wpList_run rfl (.tmp 36) (.tmp 37) 30 rfl (.slice A0 n0 c0) (.slice A4 k4 c4) (by rfl) (by rfl) hr5 ?_))
        go_loopw [0, 11] (fun ov iv wr => ∃ (j : Nat) (Ao : Option Addr) (co q : Nat), j ≤ n ∧ iv = .int .i64 j ∧ ov = .slice Ao q co ∧ q ≤ 10000 ∧ Hid (OwnY B wr (.slice Ao q co) (l ++ tailF (lens L) wd ++ flatTo L j)) ∧ Hid ((l ++ tailF (lens L) wd ++ flatTo L j).length = q) ∧ Hid (Below B w wr)) (fun _ iv _ => n - (intOf iv).toNat)
        case atStart => exact ⟨0, _, _, n0 + k4, by omega, rfl, rfl, by omega, Lib.hid (by rw [flatTo_zero, List.append_nil]; exact HO5.out), Lib.hid (by rw [flatTo_zero, List.append_nil]; exact HQ5.out), HB5⟩
        case round =>
          obtain ⟨j, Ao, co, q, hj, rfl, rfl, hq, HO, HQQ, HBJ⟩ := hrel
          by_cases hjl : j < n
          · obtain ⟨ad, rfl, hc⟩ := HS.out _ HBJ.out (by rw [HL.out]; omega)
            obtain ⟨r, hr⟩ : ∃ r, L[j]? = some r := ⟨_, List.getElem?_eq_getElem (by rw [HL.out]; omega)⟩
            have hcell := (hc j r hr).1
            have hsu := sumTo_succ (lens_at hr)
            have hle := sumTo_le (lens L) (j + 1)
            have hlq := HQQ.out
            rw [List.length_append, List.length_append, length_flatTo, HN0.out] at hlq
            obtain ⟨A6, c6, w6, hr6, ho6, hq6, hb6⟩ := app_bytes2 (c := r.cap) HO.out HQQ.out (Nat.le_trans hB HBJ.out.size) (hc j r hr).2.1 rfl (by have := HSUM.out; omega)
            have HO6 := Lib.hid (show OwnY B w6 (.slice A6 (q + r.bs.length) c6) (l ++ tailF (lens L) wd ++ flatTo L (j + 1)) by rw [flatTo_succ hr, ← List.append_assoc]; exact ho6)
            have HQ6 := Lib.hid (show (l ++ tailF (lens L) wd ++ flatTo L (j + 1)).length = q + r.bs.length by rw [flatTo_succ hr, ← List.append_assoc]; exact hq6)
            have HB6 := Lib.hid (HBJ.out.trans hb6)
            have hq10 : q + r.bs.length ≤ 10000 := by have := HSUM.out; have := HT46.out; omega
            clear hc hr hsu hle ho6 hq6 hb6 hlq
            unfold RowB.v at hcell
            generalize r.bs.length = len at *
            go_wp2_with (at_builtin; refine wpList_run rfl (.tmp 45) (.tmp 49) 30 rfl (.slice Ao q co) (.slice r.A len r.cap) (by rfl) (by rfl) hr6 ?_)
            go_roundw
            case rel => exact ⟨j + 1, _, _, q + len, by omega, by go_num, rfl, hq10, HO6, HQ6, HB6⟩
            case measure => simp [intOf]; omega
          · have hjn : j = n := by omega
            rw [hjn, flatTo_all HL.out] at HO
            have HOO := Lib.hid HO.out
            clear hjn
            go_wp2
            go_ret
            exact ⟨_, rfl, HOO.out, HBJ.out⟩
      · have hk0 : ¬ (0 : Int) < k := by omega
        have HT := Lib.hid (HT0.out hn1x)
        have HO5 := Lib.hid (show OwnY B wr (.slice A0 n0 c0) (l ++ tailF (lens L) wd) by rw [HT.out, List.append_nil]; exact HV.out.later HB.out)
        have HQ5 := Lib.hid (show (l ++ tailF (lens L) wd).length = n0 by rw [HT.out, List.append_nil]; exact HN0.out)
        have HB5 := Lib.hid (HB.out.mono hB)
        clear hkn hlt hn1x HW HT1 HT0
        go_wp2
        go_loopw [0, 11] (fun ov iv wr => ∃ (j : Nat) (Ao : Option Addr) (co q : Nat), j ≤ n ∧ iv = .int .i64 j ∧ ov = .slice Ao q co ∧ q ≤ 10000 ∧ Hid (OwnY B wr (.slice Ao q co) (l ++ tailF (lens L) wd ++ flatTo L j)) ∧ Hid ((l ++ tailF (lens L) wd ++ flatTo L j).length = q) ∧ Hid (Below B w wr)) (fun _ iv _ => n - (intOf iv).toNat)
        case atStart => exact ⟨0, _, _, n0, by omega, rfl, rfl, by omega, Lib.hid (by rw [flatTo_zero, List.append_nil]; exact HO5.out), Lib.hid (by rw [flatTo_zero, List.append_nil]; exact HQ5.out), HB5⟩
        case round =>
          obtain ⟨j, Ao, co, q, hj, rfl, rfl, hq, HO, HQQ, HBJ⟩ := hrel
          by_cases hjl : j < n
          · obtain ⟨ad, rfl, hc⟩ := HS.out _ HBJ.out (by rw [HL.out]; omega)
            obtain ⟨r, hr⟩ : ∃ r, L[j]? = some r := ⟨_, List.getElem?_eq_getElem (by rw [HL.out]; omega)⟩
            have hcell := (hc j r hr).1
            have hsu := sumTo_succ (lens_at hr)
            have hle := sumTo_le (lens L) (j + 1)
            have hlq := HQQ.out
            rw [List.length_append, List.length_append, length_flatTo, HN0.out] at hlq
            obtain ⟨A6, c6, w6, hr6, ho6, hq6, hb6⟩ := app_bytes2 (c := r.cap) HO.out HQQ.out (Nat.le_trans hB HBJ.out.size) (hc j r hr).2.1 rfl (by have := HSUM.out; omega)
            have HO6 := Lib.hid (show OwnY B w6 (.slice A6 (q + r.bs.length) c6) (l ++ tailF (lens L) wd ++ flatTo L (j + 1)) by rw [flatTo_succ hr, ← List.append_assoc]; exact ho6)
            have HQ6 := Lib.hid (show (l ++ tailF (lens L) wd ++ flatTo L (j + 1)).length = q + r.bs.length by rw [flatTo_succ hr, ← List.append_assoc]; exact hq6)
            have HB6 := Lib.hid (HBJ.out.trans hb6)
            have hq10 : q + r.bs.length ≤ 10000 := by have := HSUM.out; have := HT46.out; omega
            clear hc hr hsu hle ho6 hq6 hb6 hlq
            unfold RowB.v at hcell
            generalize r.bs.length = len at *
            go_wp2_with (at_builtin; refine wpList_run rfl (.tmp 45) (.tmp 49) 30 rfl (.slice Ao q co) (.slice r.A len r.cap) (by rfl) (by rfl) hr6 ?_)
            go_roundw
            case rel => exact ⟨j + 1, _, _, q + len, by omega, by go_num, rfl, hq10, HO6, HQ6, HB6⟩
            case measure => simp [intOf]; omega
          · have hjn : j = n := by omega
            rw [hjn, flatTo_all HL.out] at HO
            have HOO := Lib.hid HO.out
            clear hjn
            go_wp2
            go_ret
            exact ⟨_, rfl, HOO.out, HBJ.out⟩
end Go.Proofs.Ytdklddpkklodnaa
