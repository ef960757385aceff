/-
  The document's point turned by quarters.
-/
import Derived.Test.YtieokmmejdngcaaRefOf
import Derived.Test.YtieokmmejdngcaaPBack
namespace Go.Proofs.Ytieokmmejdngcaa
open Go.RowKit

theorem sub_pm {n : Int} (h : pm n) : floatBits .sub .f64 0 (fl n) = some (fl (-n)) := by
  rcases h with rfl | rfl <;> decide +kernel
theorem turnN_succ (j : Nat) (p : Int × Int) : turnN (j + 1) p = turn1 (turnN j p) := by
  have := turn_turn 1 j p
  rw [← this]
  rfl
def RTurn (q : Nat) (p : Int × Int) (w : World) (e : Ending) (w' : World) : Prop := e = .returned (.agg #[.float .f64 (fl (turnN q p).1), .float .f64 (fl (turnN q p).2)]) ∧ Below w.heap.size w w'
set_option maxHeartbeats 1600000 in
theorem rturn_t (a b : Int) (h4 : four (a, b)) (k : Int) (hk : -9223372036854775808 ≤ k ∧ k ≤ 9223372036854775807) (w : World) :
    Calls Try.prog 28 #[.agg #[.float .f64 (fl a), .float .f64 (fl b)], .int .i64 k] w (RTurn (k % 4).toNat (a, b) w) := by
  have H4 := Lib.hid h4
  obtain ⟨q, hq⟩ : ∃ q : Nat, k % 4 = q := ⟨(k % 4).toNat, by omega⟩
  have hq4 : q ≤ 3 := by omega
  have hR0 : Row (w.alloc (.cells #[.float .f64 (fl a), .float .f64 (fl b)] 53)) w.heap.size 53 #[.float .f64 (fl (turnN 0 (a, b)).1), .float .f64 (fl (turnN 0 (a, b)).2)] := Row.made _ _ _
  have HR0 := Lib.hid (hR0.more (.cells #[.float .f64 0, .float .f64 0] 53))
  have hR1 : Row ((w.alloc (.cells #[.float .f64 (fl a), .float .f64 (fl b)] 53)).alloc (.cells #[.float .f64 0, .float .f64 0] 53)) (w.heap.size + 1) 53 #[.float .f64 0, .float .f64 0] := by
    have := Row.made (w.alloc (.cells #[.float .f64 (fl a), .float .f64 (fl b)] 53)) 53 #[.float .f64 0, .float .f64 0]
    simpa using this
  have HR1 := Lib.hid hR1
  have HB0 := Lib.hid (bl_alloc (bl_alloc (Below.refl w.heap.size w) (.cells #[.float .f64 (fl a), .float .f64 (fl b)] 53)) (.cells #[.float .f64 0, .float .f64 0] 53))
  have HE := Lib.hid (show (k % 4).toNat = q by omega)
  rw [HE.out]
  clear hR0 hR1 h4
  have htt : (k.tmod 4 = q ∨ (k.tmod 4 < 0 ∧ k.tmod 4 + 4 = q)) ∧ -4 < k.tmod 4 ∧ k.tmod 4 < 4 := by
    rcases Int.lt_or_le k 0 with h | h
    · have h1 : k.tmod 4 = -((-k) % 4) := by
        rw [← Int.tmod_eq_emod_of_nonneg (by omega : 0 ≤ -k), Int.neg_tmod, Int.neg_neg]
      rw [h1]
      omega
    · rw [Int.tmod_eq_emod_of_nonneg h]
      exact ⟨Or.inl hq, by omega, by omega⟩
  obtain ⟨ht, htb⟩ := htt
  obtain ⟨tb0, tb1⟩ := htb
  have HT := Lib.hid ht
  clear ht hq
  have hst := flt_stored
  rcases HT.out with htq | ⟨htn, htq⟩
  · have hnn : ¬ k.tmod 4 < 0 := by omega
    rw [htq] at hnn
    have hk4 := htq
    go_enter Try.func28, Try.ntmps28
    go_wp2_with fail
    go_loopw [5] (fun i wr => ∃ j : Nat, j ≤ q ∧ i = .int .i64 j ∧ Hid (Row wr w.heap.size 53 #[.float .f64 (fl (turnN j (a, b)).1), .float .f64 (fl (turnN j (a, b)).2)]) ∧ Hid (Row wr (w.heap.size + 1) 53 #[.float .f64 0, .float .f64 0]) ∧ Hid (Below w.heap.size w wr)) (fun i _ => q - (intOf i).toNat)
    case atStart => exact ⟨0, by omega, rfl, HR0, HR1, HB0⟩
    case round =>
      obtain ⟨j, hj, rfl, HA, HZ, HB⟩ := hrel
      clear HR0 HR1 HB0
      have h4j := four_turnN j H4.out
      by_cases hlt : j < q
      · have hs := turnN_succ j (a, b)
        have HA2 := Lib.hid ((HA.out.written 0 (.float .f64 (fl (-(turnN j (a, b)).2)))).written 1 (.float .f64 (fl (turnN j (a, b)).1)))
        have HS := Lib.hid hs
        have hop := fun t W => run_float_arith (P := Try.prog) W .sub t .f64 _ _ _ (sub_pm h4j.2)
        have c0 := HA.out.read (i := 0) rfl
        have c1 := HA.out.read (i := 1) rfl
        have f0 := HA.out.free 0
        have f1 := HA.out.free 1
        have HZ2 := Lib.hid ((HZ.out.elsewhere (p := ⟨w.heap.size, 0, none⟩) (by simp) (.float .f64 (fl (-(turnN j (a, b)).2)))).elsewhere (p := ⟨w.heap.size, 1, none⟩) (by simp) (.float .f64 (fl (turnN j (a, b)).1)))
        have HB2 := Lib.hid ((HB.out.setCell (Nat.le_refl _) (p := ⟨w.heap.size, 0, none⟩) (.float .f64 (fl (-(turnN j (a, b)).2)))).setCell (Nat.le_refl _) (p := ⟨w.heap.size, 1, none⟩) (.float .f64 (fl (turnN j (a, b)).1)))
        have hji : (j : Int) < (q : Int) := by omega
        clear hs
        generalize turnN j (a, b) = r at *
        obtain ⟨x, y⟩ := r
        simp only at c0 c1 HA2 HZ2 HB2 hop
        go_wp2
        go_roundw
        case rel => exact ⟨j + 1, by omega, by go_num, by rw [HS.out]; exact HA2, HZ2, HB2⟩
        case measure => simp [intOf]; omega
      · obtain rfl : j = q := by omega
        have hji : ¬ (j : Int) < (j : Int) := by omega
        have c0 := HA.out.read (i := 0) rfl
        have c1 := HA.out.read (i := 1) rfl
        have d0 := HZ.out.read (i := 0) rfl
        have d1 := HZ.out.read (i := 1) rfl
        have f0 := HZ.out.free 0
        have f1 := HZ.out.free 1
        have HF := Lib.hid ((HB.out.setCell (show w.heap.size ≤ w.heap.size + 1 by omega) (p := ⟨w.heap.size + 1, 0, none⟩) (.float .f64 (fl (turnN j (a, b)).1))).setCell (show w.heap.size ≤ w.heap.size + 1 by omega) (p := ⟨w.heap.size + 1, 1, none⟩) (.float .f64 (fl (turnN j (a, b)).2)))
        go_wp2
        have HZ1 := HZ.out.written 0 (.float .f64 (fl (turnN j (a, b)).1))
        have HZ2 := HZ1.written 1 (.float .f64 (fl (turnN j (a, b)).2))
        have g1 := HZ2.read (i := 0) rfl
        have g2 := HZ2.read (i := 1) rfl
        exact bodyPost_ret (v := .agg #[.float .f64 (fl (turnN j (a, b)).1), .float .f64 (fl (turnN j (a, b)).2)]) (by simp [results, Try.results28, go_sem, g1, g2]) rfl ⟨rfl, HF.out⟩
  · have hk4 := htn
    go_enter Try.func28, Try.ntmps28
    go_wp2_with fail
    go_loopw [5] (fun i wr => ∃ j : Nat, j ≤ q ∧ i = .int .i64 j ∧ Hid (Row wr w.heap.size 53 #[.float .f64 (fl (turnN j (a, b)).1), .float .f64 (fl (turnN j (a, b)).2)]) ∧ Hid (Row wr (w.heap.size + 1) 53 #[.float .f64 0, .float .f64 0]) ∧ Hid (Below w.heap.size w wr)) (fun i _ => q - (intOf i).toNat)
    case atStart => exact ⟨0, by omega, rfl, HR0, HR1, HB0⟩
    case round =>
      obtain ⟨j, hj, rfl, HA, HZ, HB⟩ := hrel
      clear HR0 HR1 HB0
      have h4j := four_turnN j H4.out
      by_cases hlt : j < q
      · have hs := turnN_succ j (a, b)
        have HA2 := Lib.hid ((HA.out.written 0 (.float .f64 (fl (-(turnN j (a, b)).2)))).written 1 (.float .f64 (fl (turnN j (a, b)).1)))
        have HS := Lib.hid hs
        have hop := fun t W => run_float_arith (P := Try.prog) W .sub t .f64 _ _ _ (sub_pm h4j.2)
        have c0 := HA.out.read (i := 0) rfl
        have c1 := HA.out.read (i := 1) rfl
        have f0 := HA.out.free 0
        have f1 := HA.out.free 1
        have HZ2 := Lib.hid ((HZ.out.elsewhere (p := ⟨w.heap.size, 0, none⟩) (by simp) (.float .f64 (fl (-(turnN j (a, b)).2)))).elsewhere (p := ⟨w.heap.size, 1, none⟩) (by simp) (.float .f64 (fl (turnN j (a, b)).1)))
        have HB2 := Lib.hid ((HB.out.setCell (Nat.le_refl _) (p := ⟨w.heap.size, 0, none⟩) (.float .f64 (fl (-(turnN j (a, b)).2)))).setCell (Nat.le_refl _) (p := ⟨w.heap.size, 1, none⟩) (.float .f64 (fl (turnN j (a, b)).1)))
        have hji : (j : Int) < (q : Int) := by omega
        clear hs
        generalize turnN j (a, b) = r at *
        obtain ⟨x, y⟩ := r
        simp only at c0 c1 HA2 HZ2 HB2 hop
        go_wp2
        go_roundw
        case rel => exact ⟨j + 1, by omega, by go_num, by rw [HS.out]; exact HA2, HZ2, HB2⟩
        case measure => simp [intOf]; omega
      · obtain rfl : j = q := by omega
        have hji : ¬ (j : Int) < (j : Int) := by omega
        have c0 := HA.out.read (i := 0) rfl
        have c1 := HA.out.read (i := 1) rfl
        have d0 := HZ.out.read (i := 0) rfl
        have d1 := HZ.out.read (i := 1) rfl
        have f0 := HZ.out.free 0
        have f1 := HZ.out.free 1
        have HF := Lib.hid ((HB.out.setCell (show w.heap.size ≤ w.heap.size + 1 by omega) (p := ⟨w.heap.size + 1, 0, none⟩) (.float .f64 (fl (turnN j (a, b)).1))).setCell (show w.heap.size ≤ w.heap.size + 1 by omega) (p := ⟨w.heap.size + 1, 1, none⟩) (.float .f64 (fl (turnN j (a, b)).2)))
        go_wp2
        have HZ1 := HZ.out.written 0 (.float .f64 (fl (turnN j (a, b)).1))
        have HZ2 := HZ1.written 1 (.float .f64 (fl (turnN j (a, b)).2))
        have g1 := HZ2.read (i := 0) rfl
        have g2 := HZ2.read (i := 1) rfl
        exact bodyPost_ret (v := .agg #[.float .f64 (fl (turnN j (a, b)).1), .float .f64 (fl (turnN j (a, b)).2)]) (by simp [results, Try.results28, go_sem, g1, g2]) rfl ⟨rfl, HF.out⟩
end Go.Proofs.Ytieokmmejdngcaa
