/-
  status: the document's miss: may it be?. status: the document's Right. status: a status as bits, there and back: plain lists.
-/
import Derived.Test.YtbdjgdkafbkdbaaJStatusWrites07
import Derived.Test.YtbdjgdkafbkdbaaJStatusWrites02
import Derived.Test.YtbdjgdkafbkdbaaJStatusWrites04
namespace Go.Proofs.Ytbdjgdkafbkdbaa
open Go.RowKit

theorem roff_any (x : Int) (w : World) : Calls Try.prog 110 #[.int .i64 x] w fun e w' => e = .returned (.int .i64 (pbF x)) ∧ w = w' := by
  by_cases h1 : x = 10
  · subst h1
    go_enter Try.func110, Try.ntmps110
    go_wp2
    go_ret
    exact ⟨rfl, rfl⟩
  · have h1' : (x == 10) = false := by simpa using h1
    have HX := Lib.hid (show pbF x = 16 by simp [pbF, h1])
    clear h1
    go_enter Try.func110, Try.ntmps110
    go_wp2
    go_ret
    exact ⟨by rw [HX.out]; rfl, rfl⟩
set_option maxHeartbeats 400000 in
theorem rplaces_any (x : Int) (w : World) : Calls Try.prog 109 #[.int .i64 x] w fun e w' => e = .returned (.int .i64 (onF x + 1)) ∧ w = w' := by
  have HO := Lib.hid (roff_any x w)
  by_cases h1 : x = 10
  · have HX := Lib.hid (show pbF x = 15 ∧ onF x = 32767 by simp [pbF, onF, h1])
    rw [HX.out.1] at HO
    rw [HX.out.2]
    have HZ := Lib.hid (rsize_any 14 w)
    rw [show sz 14 = 16384 by decide] at HZ
    clear h1
    go_enter Try.func109, Try.ntmps109
    go_wp2_with (first
      | (go_at_call 110; refine HO.out.mono ?_; rintro e w1 ⟨rfl, rfl⟩)
      | (go_at_call 124; refine HZ.out.mono ?_; rintro e w1 ⟨rfl, rfl⟩))
    go_ret
    exact ⟨rfl, rfl⟩
  · have HX := Lib.hid (show pbF x = 16 ∧ onF x = 65535 by simp [pbF, onF, h1])
    rw [HX.out.1] at HO
    rw [HX.out.2]
    have HZ := Lib.hid (rsize_any 15 w)
    rw [show sz 15 = 32768 by decide] at HZ
    clear h1
    go_enter Try.func109, Try.ntmps109
    go_wp2_with (first
      | (go_at_call 110; refine HO.out.mono ?_; rintro e w1 ⟨rfl, rfl⟩)
      | (go_at_call 124; refine HZ.out.mono ?_; rintro e w1 ⟨rfl, rfl⟩))
    go_ret
    exact ⟨rfl, rfl⟩
set_option maxHeartbeats 800000 in
theorem ismiss_i0 (sn fr to x : Int) (part : Bool) (w : World) (hi : okn x sn = false) : Calls Try.prog 105 #[.agg #[.int .i64 sn, .bool part, .int .i64 fr, .int .i64 to], .int .i64 x] w fun e w' => e = .returned (.bool false) ∧ Below w.heap.size w w' := by
  have HP := Lib.hid (fun W => rplaces_any x W)
  have HI := Lib.hid (fun W => ris_any x sn W)
  rw [hi] at HI
  have HB0 := Lib.hid (bl_alloc (Below.refl w.heap.size w) (.cells #[.int .i64 sn, .bool part, .int .i64 fr, .int .i64 to] 159))
  generalize onF x + 1 = o at *
  clear hi
  go_enter Try.func105, Try.ntmps105
  go_wp2_with (go_at_call 104; refine (HI.out _).mono ?_; rintro e w1 ⟨rfl, rfl⟩)
  skip
  go_ret
  exact ⟨rfl, HB0.out⟩
set_option maxHeartbeats 800000 in
theorem ismiss_i1 (sn fr to x : Int) (w : World) (hi : okn x sn = true) : Calls Try.prog 105 #[.agg #[.int .i64 sn, .bool false, .int .i64 fr, .int .i64 to], .int .i64 x] w fun e w' => e = .returned (.bool ((fr == 0) && (to == 0))) ∧ Below w.heap.size w w' := by
  have HI := Lib.hid (fun W => ris_any x sn W)
  rw [hi] at HI
  have HB0 := Lib.hid (bl_alloc (Below.refl w.heap.size w) (.cells #[.int .i64 sn, .bool false, .int .i64 fr, .int .i64 to] 159))
  clear hi
  cases h0 : (fr == 0)
  all_goals
    go_enter Try.func105, Try.ntmps105
    go_wp2_with (go_at_call 104; refine (HI.out _).mono ?_; rintro e w1 ⟨rfl, rfl⟩)
    go_ret
    exact ⟨rfl, HB0.out⟩
set_option maxHeartbeats 800000 in
theorem ismiss_i2 (sn fr to x : Int) (w : World) (hi : okn x sn = true) (g0 : decide (fr < 0) = true) : Calls Try.prog 105 #[.agg #[.int .i64 sn, .bool true, .int .i64 fr, .int .i64 to], .int .i64 x] w fun e w' => e = .returned (.bool false) ∧ Below w.heap.size w w' := by
  have HP := Lib.hid (fun W => rplaces_any x W)
  have HI := Lib.hid (fun W => ris_any x sn W)
  rw [hi] at HI
  have HB0 := Lib.hid (bl_alloc (Below.refl w.heap.size w) (.cells #[.int .i64 sn, .bool true, .int .i64 fr, .int .i64 to] 159))
  generalize onF x + 1 = o at *
  clear hi
  go_enter Try.func105, Try.ntmps105
  go_wp2_with (go_at_call 104; refine (HI.out _).mono ?_; rintro e w1 ⟨rfl, rfl⟩)
  go_quiet ((go_at_call 109; exact Calls.quiet_of_same ((HP.out _).mono fun e w' h => ⟨h.1, h.2.symm⟩)))
  go_wp2
  go_ret
  first | exact ⟨rfl, below_drewN HB0.out _⟩ | exact ⟨rfl, below_drewN (below_drewN HB0.out _) _⟩ | exact ⟨rfl, bl_drew (below_drewN HB0.out _)⟩
set_option maxHeartbeats 800000 in
theorem ismiss_i3 (sn fr to x : Int) (w : World) (hi : okn x sn = true) (g0 : decide (fr < 0) = false) (g1 : decide (onF x + 1 ≤ fr) = true) : Calls Try.prog 105 #[.agg #[.int .i64 sn, .bool true, .int .i64 fr, .int .i64 to], .int .i64 x] w fun e w' => e = .returned (.bool false) ∧ Below w.heap.size w w' := by
  have HP := Lib.hid (fun W => rplaces_any x W)
  have HI := Lib.hid (fun W => ris_any x sn W)
  rw [hi] at HI
  have HB0 := Lib.hid (bl_alloc (Below.refl w.heap.size w) (.cells #[.int .i64 sn, .bool true, .int .i64 fr, .int .i64 to] 159))
  generalize onF x + 1 = o at *
  clear hi
  go_enter Try.func105, Try.ntmps105
  go_wp2_with (go_at_call 104; refine (HI.out _).mono ?_; rintro e w1 ⟨rfl, rfl⟩)
  go_quiet ((go_at_call 109; exact Calls.quiet_of_same ((HP.out _).mono fun e w' h => ⟨h.1, h.2.symm⟩)))
  go_wp2
  go_ret
  first | exact ⟨rfl, below_drewN HB0.out _⟩ | exact ⟨rfl, below_drewN (below_drewN HB0.out _) _⟩ | exact ⟨rfl, bl_drew (below_drewN HB0.out _)⟩
set_option maxHeartbeats 800000 in
theorem ismiss_i4 (sn fr to x : Int) (w : World) (hi : okn x sn = true) (g0 : decide (fr < 0) = false) (g1 : decide (onF x + 1 ≤ fr) = false) (g2 : (to == 0) = true) : Calls Try.prog 105 #[.agg #[.int .i64 sn, .bool true, .int .i64 fr, .int .i64 to], .int .i64 x] w fun e w' => e = .returned (.bool true) ∧ Below w.heap.size w w' := by
  have HP := Lib.hid (fun W => rplaces_any x W)
  have HI := Lib.hid (fun W => ris_any x sn W)
  rw [hi] at HI
  have HB0 := Lib.hid (bl_alloc (Below.refl w.heap.size w) (.cells #[.int .i64 sn, .bool true, .int .i64 fr, .int .i64 to] 159))
  generalize onF x + 1 = o at *
  clear hi
  go_enter Try.func105, Try.ntmps105
  go_wp2_with (go_at_call 104; refine (HI.out _).mono ?_; rintro e w1 ⟨rfl, rfl⟩)
  go_quiet ((go_at_call 109; exact Calls.quiet_of_same ((HP.out _).mono fun e w' h => ⟨h.1, h.2.symm⟩)))
  go_wp2
  go_quiet ((go_at_call 109; exact Calls.quiet_of_same ((HP.out _).mono fun e w' h => ⟨h.1, h.2.symm⟩)))
  go_wp2
  go_ret
  first | exact ⟨rfl, below_drewN HB0.out _⟩ | exact ⟨rfl, below_drewN (below_drewN HB0.out _) _⟩ | exact ⟨rfl, bl_drew (below_drewN HB0.out _)⟩
set_option maxHeartbeats 800000 in
theorem ismiss_i5 (sn fr to x : Int) (w : World) (hi : okn x sn = true) (g0 : decide (fr < 0) = false) (g1 : decide (onF x + 1 ≤ fr) = false) (g2 : (to == 0) = false) (g3 : decide (fr < to) = false) : Calls Try.prog 105 #[.agg #[.int .i64 sn, .bool true, .int .i64 fr, .int .i64 to], .int .i64 x] w fun e w' => e = .returned (.bool false) ∧ Below w.heap.size w w' := by
  have HP := Lib.hid (fun W => rplaces_any x W)
  have HI := Lib.hid (fun W => ris_any x sn W)
  rw [hi] at HI
  have HB0 := Lib.hid (bl_alloc (Below.refl w.heap.size w) (.cells #[.int .i64 sn, .bool true, .int .i64 fr, .int .i64 to] 159))
  generalize onF x + 1 = o at *
  clear hi
  go_enter Try.func105, Try.ntmps105
  go_wp2_with (go_at_call 104; refine (HI.out _).mono ?_; rintro e w1 ⟨rfl, rfl⟩)
  go_quiet ((go_at_call 109; exact Calls.quiet_of_same ((HP.out _).mono fun e w' h => ⟨h.1, h.2.symm⟩)))
  go_wp2
  go_quiet ((go_at_call 109; exact Calls.quiet_of_same ((HP.out _).mono fun e w' h => ⟨h.1, h.2.symm⟩)))
  go_wp2
  go_ret
  first | exact ⟨rfl, below_drewN HB0.out _⟩ | exact ⟨rfl, below_drewN (below_drewN HB0.out _) _⟩ | exact ⟨rfl, bl_drew (below_drewN HB0.out _)⟩
set_option maxHeartbeats 800000 in
theorem ismiss_i6 (sn fr to x : Int) (w : World) (hi : okn x sn = true) (g0 : decide (fr < 0) = false) (g1 : decide (onF x + 1 ≤ fr) = false) (g2 : (to == 0) = false) (g3 : decide (fr < to) = true) (g4 : decide (to < onF x + 1) = true) : Calls Try.prog 105 #[.agg #[.int .i64 sn, .bool true, .int .i64 fr, .int .i64 to], .int .i64 x] w fun e w' => e = .returned (.bool true) ∧ Below w.heap.size w w' := by
  have HP := Lib.hid (fun W => rplaces_any x W)
  have HI := Lib.hid (fun W => ris_any x sn W)
  rw [hi] at HI
  have HB0 := Lib.hid (bl_alloc (Below.refl w.heap.size w) (.cells #[.int .i64 sn, .bool true, .int .i64 fr, .int .i64 to] 159))
  generalize onF x + 1 = o at *
  clear hi
  go_enter Try.func105, Try.ntmps105
  go_wp2_with (go_at_call 104; refine (HI.out _).mono ?_; rintro e w1 ⟨rfl, rfl⟩)
  go_quiet ((go_at_call 109; exact Calls.quiet_of_same ((HP.out _).mono fun e w' h => ⟨h.1, h.2.symm⟩)))
  go_wp2
  have d2 : ((w.alloc (.cells #[.int .i64 sn, .bool true, .int .i64 fr, .int .i64 to] 159)).drewN nq).drew.cell? ⟨w.heap.size, 2, none⟩ = some (.int .i64 fr) ∧ ((w.alloc (.cells #[.int .i64 sn, .bool true, .int .i64 fr, .int .i64 to] 159)).drewN nq).drew.cell? ⟨w.heap.size, 3, none⟩ = some (.int .i64 to) := by simp
  go_region_held3 (fun w' => w'.cell? ⟨w.heap.size, 2, none⟩ = some (.int .i64 fr) ∧ w'.cell? ⟨w.heap.size, 3, none⟩ = some (.int .i64 to)) (first | assumption | go_keep) ((go_at_call 109; refine (HP.out _).mono ?_; rintro e w7 ⟨rfl, rfl⟩))
  go_wp2
  go_ret
  first | exact ⟨rfl, below_drewN HB0.out _⟩ | exact ⟨rfl, below_drewN (below_drewN HB0.out _) _⟩ | exact ⟨rfl, bl_drew (below_drewN HB0.out _)⟩
set_option maxHeartbeats 800000 in
theorem ismiss_i7 (sn fr to x : Int) (w : World) (hi : okn x sn = true) (g0 : decide (fr < 0) = false) (g1 : decide (onF x + 1 ≤ fr) = false) (g2 : (to == 0) = false) (g3 : decide (fr < to) = true) (g4 : decide (to < onF x + 1) = false) : Calls Try.prog 105 #[.agg #[.int .i64 sn, .bool true, .int .i64 fr, .int .i64 to], .int .i64 x] w fun e w' => e = .returned (.bool false) ∧ Below w.heap.size w w' := by
  have HP := Lib.hid (fun W => rplaces_any x W)
  have HI := Lib.hid (fun W => ris_any x sn W)
  rw [hi] at HI
  have HB0 := Lib.hid (bl_alloc (Below.refl w.heap.size w) (.cells #[.int .i64 sn, .bool true, .int .i64 fr, .int .i64 to] 159))
  generalize onF x + 1 = o at *
  clear hi
  go_enter Try.func105, Try.ntmps105
  go_wp2_with (go_at_call 104; refine (HI.out _).mono ?_; rintro e w1 ⟨rfl, rfl⟩)
  go_quiet ((go_at_call 109; exact Calls.quiet_of_same ((HP.out _).mono fun e w' h => ⟨h.1, h.2.symm⟩)))
  go_wp2
  have d2 : ((w.alloc (.cells #[.int .i64 sn, .bool true, .int .i64 fr, .int .i64 to] 159)).drewN nq).drew.cell? ⟨w.heap.size, 2, none⟩ = some (.int .i64 fr) ∧ ((w.alloc (.cells #[.int .i64 sn, .bool true, .int .i64 fr, .int .i64 to] 159)).drewN nq).drew.cell? ⟨w.heap.size, 3, none⟩ = some (.int .i64 to) := by simp
  go_region_held3 (fun w' => w'.cell? ⟨w.heap.size, 2, none⟩ = some (.int .i64 fr) ∧ w'.cell? ⟨w.heap.size, 3, none⟩ = some (.int .i64 to)) (first | assumption | go_keep) ((go_at_call 109; refine (HP.out _).mono ?_; rintro e w7 ⟨rfl, rfl⟩))
  go_wp2
  go_ret
  first | exact ⟨rfl, below_drewN HB0.out _⟩ | exact ⟨rfl, below_drewN (below_drewN HB0.out _) _⟩ | exact ⟨rfl, bl_drew (below_drewN HB0.out _)⟩
theorem ismiss_any (m : MissM) (x : Int) (w : World) : Calls Try.prog 105 #[m.v, .int .i64 x] w fun e w' => e = .returned (.bool (missB x m)) ∧ Below w.heap.size w w' := by
  obtain ⟨sn, part, fr, to⟩ := m
  unfold MissM.v
  cases hi : okn x sn
  · rw [show missB x ⟨sn, part, fr, to⟩ = false by simp [missB, hi]]
    exact ismiss_i0 sn fr to x part w hi
  · cases part
    · rw [show missB x ⟨sn, false, fr, to⟩ = ((fr == 0) && (to == 0)) by simp [missB, placedB, hi]]
      exact ismiss_i1 sn fr to x w hi
    · have e : missB x ⟨sn, true, fr, to⟩ = placedB ⟨sn, true, fr, to⟩ x := by simp [missB, hi]
      rw [e]
      cases g0 : decide (fr < 0)
      · cases g1 : decide (onF x + 1 ≤ fr)
        · have h0 := of_decide_eq_false g0
          have h1 := of_decide_eq_false g1
          cases g2 : (to == 0)
          · have hz : ¬ to = 0 := by simpa using g2
            cases g3 : decide (fr < to)
            · have h3 := of_decide_eq_false g3
              rw [show placedB ⟨sn, true, fr, to⟩ x = false by simp [placedB, hz]; omega]
              exact ismiss_i5 sn fr to x w hi g0 g1 g2 g3
            · have h3 := of_decide_eq_true g3
              cases g4 : decide (to < onF x + 1)
              · have h4 := of_decide_eq_false g4
                rw [show placedB ⟨sn, true, fr, to⟩ x = false by simp [placedB, hz]; omega]
                exact ismiss_i7 sn fr to x w hi g0 g1 g2 g3 g4
              · have h4 := of_decide_eq_true g4
                rw [show placedB ⟨sn, true, fr, to⟩ x = true by simp [placedB, hz]; omega]
                exact ismiss_i6 sn fr to x w hi g0 g1 g2 g3 g4
          · have hz : to = 0 := by simpa using g2
            rw [show placedB ⟨sn, true, fr, to⟩ x = true by simp [placedB, hz]; omega]
            exact ismiss_i4 sn fr to x w hi g0 g1 g2
        · have h0 := of_decide_eq_false g0
          have h1 := of_decide_eq_true g1
          rw [show placedB ⟨sn, true, fr, to⟩ x = false by simp only [placedB, if_true]; split <;> simp <;> omega]
          exact ismiss_i3 sn fr to x w hi g0 g1
      · have h0 := of_decide_eq_true g0
        rw [show placedB ⟨sn, true, fr, to⟩ x = false by simp only [placedB, if_true]; split <;> simp <;> omega]
        exact ismiss_i2 sn fr to x w hi g0
end Go.Proofs.Ytbdjgdkafbkdbaa
namespace Go.Proofs.Ytbdjgdkafbkdbaa
open Go.RowKit

set_option maxRecDepth 100000 in
set_option maxHeartbeats 1600000 in
theorem rsright_loop {A : Option Addr} {L : List MissM} (ack x : Int) (n cap : Nat) (w : World) (hL : L.length = n) (hn : n ≤ 32) (hs : MSrc w A L) (hx : okS x = true) (ha : okn x ack = true) :
    Calls Try.prog 54 #[.agg #[.int .i64 ack, .slice A n cap], .int .i64 x] w fun e w' => e = .returned (.bool (L.all (missB x))) ∧ Below w.heap.size w w' := by
  have HA := Lib.hid (fun W => ris_any x ack W)
  rw [ha] at HA
  have HS := Lib.hid hs
  have HL := Lib.hid hL
  have hn' : ¬ (32 : Int) < n := by omega
  have R0 := Lib.hid (Row.made w 84 #[.int .i64 ack, .slice A n cap])
  have HB0 := Lib.hid (bl_alloc (Below.refl w.heap.size w) (.cells #[.int .i64 ack, .slice A n cap] 84))
  have hxx : ((x != 10) = false) ∨ ((x != 10) = true ∧ (x != 16) = false) := by
    rcases okS_nat hx with rfl | rfl
    · exact .inl rfl
    · exact .inr ⟨rfl, rfl⟩
  clear hs hL hx ha
  rcases hxx with hx1 | ⟨hx1, hx2⟩
  all_goals
    go_enter Try.func54, Try.ntmps54
    go_wp2_with (go_at_call 104; refine (HA.out _).mono ?_; rintro e w2 ⟨rfl, rfl⟩)
    generalize hw0 : (w.alloc (.cells #[.int .i64 ack, .slice A n cap] 84)) = w0 at *
    go_loopw [5] (fun i wr => ∃ k : Nat, k ≤ n ∧ i = .int .i64 k ∧ Hid (L.all (missB x) = (L.drop k).all (missB x)) ∧ Hid (Below w0.heap.size w0 wr)) (fun i _ => n - (intOf i).toNat)
    case atStart => exact ⟨0, by omega, rfl, Lib.hid (by simp), Lib.hid (Below.refl _ _)⟩
    case round =>
      obtain ⟨k, hk, rfl, HK, HB⟩ := hrel
      have c1 := (R0.out.later HB.out).read (i := 1) rfl
      by_cases hlt : k < n
      · obtain ⟨ab, ao, rfl, hc⟩ := HS.out (by rw [HL.out]; omega)
        obtain ⟨⟨sn, part, fr, to⟩, hr⟩ : ∃ r, L[k]? = some r := ⟨_, List.getElem?_eq_getElem (by rw [HL.out]; exact hlt)⟩
        obtain ⟨e0, e1, e2, e3⟩ := hc k _ hr
        have HWR := Lib.hid (bl_step HB0.out HB.out)
        have f0 := cell_below HWR.out e0
        have f1 := cell_below HWR.out e1
        have f2 := cell_below HWR.out e2
        have f3 := cell_below HWR.out e3
        have HD := Lib.hid (show L.drop k = ⟨sn, part, fr, to⟩ :: L.drop (k + 1) by
          obtain ⟨h1, h2⟩ := List.getElem?_eq_some_iff.1 hr
          rw [List.drop_eq_getElem_cons h1, h2])
        have HP := Lib.hid (fun W => ismiss_any ⟨sn, part, fr, to⟩ x W)
        have hkI : (k : Int) < (n : Int) := by omega
        clear hc hr e0 e1 e2 e3
        simp only [MissM.v] at HP f0 f1 f2 f3
        cases hp : missB x ⟨sn, part, fr, to⟩
        · rw [hp] at HP
          go_wp2_with (go_at_call 105; refine (HP.out _).mono ?_; rintro e w5 ⟨rfl, hb5⟩)
          go_ret
          exact ⟨ret_bool (by rw [HK.out, HD.out]; simp [hp]), bl_step HWR.out hb5⟩
        · rw [hp] at HP
          go_wp2_with (go_at_call 105; refine (HP.out _).mono ?_; rintro e w5 ⟨rfl, hb5⟩)
          go_roundw
          case rel => exact ⟨k + 1, by omega, by go_num, Lib.hid (by rw [HK.out, HD.out]; simp [hp]), Lib.hid (bl_step HB.out hb5)⟩
          case measure => simp [intOf]; omega
      · have hkn : k = n := by omega
        subst hkn
        go_wp2
        go_ret
        exact ⟨ret_bool (by rw [HK.out, List.drop_of_length_le (by rw [HL.out]; exact Nat.le_refl _)]; rfl), bl_step HB0.out HB.out⟩
set_option maxRecDepth 100000 in
set_option maxHeartbeats 800000 in
theorem rsright_no0 {A : Option Addr} (ack x : Int) (n cap : Nat) (w : World) (hx : okS x = false) :
    Calls Try.prog 54 #[.agg #[.int .i64 ack, .slice A n cap], .int .i64 x] w fun e w' => e = .returned (.bool false) ∧ Below w.heap.size w w' := by
  obtain ⟨h1, h2⟩ := okS_not hx
  have h1' : (x != 10) = true := by simpa using h1
  have h2' : (x != 16) = true := by simpa using h2
  clear hx h1 h2
  go_enter Try.func54, Try.ntmps54
  go_wp2
  go_ret
  exact ⟨rfl, bl_alloc (Below.refl _ _) _⟩
set_option maxRecDepth 100000 in
set_option maxHeartbeats 800000 in
theorem rsright_no1 {A : Option Addr} (ack x : Int) (n cap : Nat) (w : World) (hx : okS x = true) (ha : okn x ack = false) :
    Calls Try.prog 54 #[.agg #[.int .i64 ack, .slice A n cap], .int .i64 x] w fun e w' => e = .returned (.bool false) ∧ Below w.heap.size w w' := by
  have HA := Lib.hid (fun W => ris_any x ack W)
  rw [ha] at HA
  have hxx : ((x != 10) = false) ∨ ((x != 10) = true ∧ (x != 16) = false) := by
    rcases okS_nat hx with rfl | rfl
    · exact .inl rfl
    · exact .inr ⟨rfl, rfl⟩
  clear hx ha
  rcases hxx with hx1 | ⟨hx1, hx2⟩
  all_goals
    go_enter Try.func54, Try.ntmps54
    go_wp2_with (go_at_call 104; refine (HA.out _).mono ?_; rintro e w2 ⟨rfl, rfl⟩)
    go_ret
    exact ⟨rfl, bl_alloc (Below.refl _ _) _⟩
set_option maxRecDepth 100000 in
set_option maxHeartbeats 800000 in
theorem rsright_no2 {A : Option Addr} (ack x : Int) (n cap : Nat) (w : World) (hx : okS x = true) (ha : okn x ack = true) (hn : 32 < n) (hn9 : n ≤ 9223372036854775807) :
    Calls Try.prog 54 #[.agg #[.int .i64 ack, .slice A n cap], .int .i64 x] w fun e w' => e = .returned (.bool false) ∧ Below w.heap.size w w' := by
  have HA := Lib.hid (fun W => ris_any x ack W)
  rw [ha] at HA
  have hn' : (32 : Int) < n := by omega
  have hxx : ((x != 10) = false) ∨ ((x != 10) = true ∧ (x != 16) = false) := by
    rcases okS_nat hx with rfl | rfl
    · exact .inl rfl
    · exact .inr ⟨rfl, rfl⟩
  clear hx ha
  rcases hxx with hx1 | ⟨hx1, hx2⟩
  all_goals
    go_enter Try.func54, Try.ntmps54
    go_wp2_with (go_at_call 104; refine (HA.out _).mono ?_; rintro e w2 ⟨rfl, rfl⟩)
    go_ret
    exact ⟨rfl, bl_alloc (Below.refl _ _) _⟩
theorem rsright_any {A : Option Addr} {L : List MissM} (ack x : Int) (n cap : Nat) (w : World) (hL : L.length = n) (hn : n ≤ 9223372036854775807) (hs : MSrc w A L) :
    Calls Try.prog 54 #[.agg #[.int .i64 ack, .slice A n cap], .int .i64 x] w fun e w' => e = .returned (.bool (rightB ack L x)) ∧ Below w.heap.size w w' := by
  unfold rightB
  cases hx : okS x
  · exact rsright_no0 ack x n cap w hx
  · cases ha : okn x ack
    · exact rsright_no1 ack x n cap w hx ha
    · rw [hL]
      by_cases h : n ≤ 32
      · rw [decide_eq_true h]
        exact rsright_loop ack x n cap w hL h hs hx ha
      · rw [decide_eq_false h]
        exact rsright_no2 ack x n cap w hx ha (by omega) hn
end Go.Proofs.Ytbdjgdkafbkdbaa
namespace Go.Proofs.Ytbdjgdkafbkdbaa
open Go.RowKit

def pbN (x : Nat) : Nat := if x = 10 then 15 else 16
theorem pbN_cast (x : Nat) : pbF (x : Int) = (pbN x : Int) := by
  unfold pbF pbN
  by_cases h : x = 10
  · rw [if_pos (by omega), if_pos h]; rfl
  · rw [if_neg (by omega), if_neg h]; rfl
theorem onF_pow (x : Nat) : onF (x : Int) = ((2 ^ pbN x - 1 : Nat) : Int) := by
  unfold onF pbN
  by_cases h : x = 10
  · rw [if_pos (by omega), if_pos h]; rfl
  · rw [if_neg (by omega), if_neg h]; rfl
theorem pbN_bd (x : Nat) : 15 ≤ pbN x ∧ pbN x ≤ 16 := by unfold pbN; split <;> omega
theorem pow_pbN (x : Nat) : 0 < 2 ^ pbN x ∧ 2 ^ pbN x ≤ 65536 := ⟨Nat.two_pow_pos _, Nat.pow_le_pow_right (by decide) (pbN_bd x).2⟩
/-- the numbers that are put for a miss -/
def missP (x : Nat) (m : MissM) (more : Bool) : List (Nat × Nat) :=
  (m.sn.toNat, x) :: (more.toNat, 1) :: (m.part.toNat, 1) :: (if m.part then [(m.fr.toNat, pbN x), ((lastF m.to x).toNat, pbN x)] else [])
def missesP (x : Nat) : List MissM → List (Nat × Nat)
  | [] => []
  | m :: t => missP x m (decide (0 < t.length)) ++ missesP x t
def headP (ack : Int) (n : Nat) (x : Nat) : List (Nat × Nat) := [(0, 4), (ack.toNat, x), ((decide (0 < n)).toNat, 1)]
def statusP (ack : Int) (L : List MissM) (x : Nat) : List (Nat × Nat) := headP ack L.length x ++ missesP x L
def stBytes (ack : Int) (L : List MissM) (x : Nat) : List Nat := pack (bitsP (statusP ack L x))
theorem bitsP_cons (v n : Nat) (t : List (Nat × Nat)) : bitsP ((v, n) :: t) = unval v n ++ bitsP t := rfl
theorem len_missP (x : Nat) (m : MissM) (more : Bool) : ((bitsP (missP x m more)).length : Int) = missBits x m := by
  unfold missP missBits
  rw [bitsP_cons, bitsP_cons, bitsP_cons, pbN_cast]
  simp only [List.length_append, length_unval]
  cases m.part
  · simp [bitsP]
    try omega
  · simp only [if_true, bitsP_cons, List.length_append, length_unval]; simp [bitsP]; omega
theorem len_missesP (x : Nat) (L : List MissM) : ((bitsP (missesP x L)).length : Int) = bitsS x L := by
  induction L with
  | nil => rfl
  | cons m t ih =>
    have e : bitsS (x : Int) (m :: t) = missBits x m + bitsS x t := by simp [bitsS]
    rw [missesP, bitsP_append, List.length_append, e, ← len_missP x m (decide (0 < t.length)), ← ih]
    omega
theorem len_statusP (ack : Int) (L : List MissM) (x : Nat) : ((bitsP (statusP ack L x)).length : Int) = 4 + x + 1 + bitsS x L := by
  unfold statusP headP
  rw [bitsP_append, List.length_append, ← len_missesP]
  simp only [bitsP_cons, List.length_append, length_unval]
  simp [bitsP]
  omega
theorem len_stBytes (ack : Int) (L : List MissM) (x : Nat) : ((stBytes ack L x).length : Int) = (4 + x + 1 + bitsS x L + 7) / 8 := by
  unfold stBytes
  rw [length_pack, packLen, ← len_statusP ack L x]
  omega
/-- what stands at a place of the bits -/
theorem at_seg {bs : List Nat} {i v n : Nat} {r : List Bool} (h : (bitsOf bs).drop i = unval v n ++ r) (hv : v < 2 ^ n) : val (seg bs i n) = v ∧ (bitsOf bs).drop (i + n) = r := by
  constructor
  · unfold seg
    rw [h, List.take_left' (length_unval v n), val_unval]
    exact Nat.mod_eq_of_lt hv
  · rw [← List.drop_drop, h, List.drop_left' (length_unval v n)]
theorem un_one (b : Bool) : unval b.toNat 1 = [b] := by cases b <;> rfl
theorem at_bit {bs : List Nat} {i : Nat} {b : Bool} {r : List Bool} (h : (bitsOf bs).drop i = unval b.toNat 1 ++ r) : bitAt bs i = b ∧ (bitsOf bs).drop (i + 1) = r := by
  constructor
  · rw [un_one] at h
    have h1 : ((bitsOf bs).drop i)[0]? = some b := by rw [h]; rfl
    rw [List.getElem?_drop, Nat.add_zero] at h1
    unfold bitAt
    rw [List.getD_eq_getElem?_getD, h1]
    rfl
  · rw [← List.drop_drop, h, List.drop_left' (length_unval _ 1)]
theorem at_fits {bs : List Nat} {i : Nat} {s r : List Bool} (h : (bitsOf bs).drop i = s ++ r) (hs : 0 < s.length) : i + s.length ≤ 8 * bs.length := by
  have h1 := congrArg List.length h
  rw [List.length_drop, length_bitsOf, List.length_append] at h1
  omega
theorem of_seg {bs : List Nat} {i n : Nat} (h : i + n ≤ 8 * bs.length) : (bitsOf bs).drop i = unval (val (seg bs i n)) n ++ (bitsOf bs).drop (i + n) := by
  have u := unval_val (seg bs i n)
  rw [length_seg h] at u
  rw [u]
  unfold seg
  rw [← List.drop_drop, List.take_append_drop]
theorem of_bit {bs : List Nat} {i : Nat} (h : i + 1 ≤ 8 * bs.length) : (bitsOf bs).drop i = unval (bitAt bs i).toNat 1 ++ (bitsOf bs).drop (i + 1) :=
  (of_seg h).trans (by rw [val_one (by omega)])
theorem seg_lt2 {hd : List Nat} {i n : Nat} (h : i + n ≤ 8 * hd.length) : val (seg hd i n) < 2 ^ n := by
  have := val_lt (seg hd i n)
  rwa [length_seg h] at this
/-- one miss of the bits from a place on -/
def rdMiss (bs : List Nat) (x i : Nat) : Option (MissM × Bool × Nat) :=
  if 8 * bs.length < i + x + 1 + 1 then none
  else if bitAt bs (i + x + 1) then
    (if 8 * bs.length < i + x + 1 + 1 + pbN x + pbN x then none
     else some (⟨((val (seg bs i x) : Nat) : Int), true, ((val (seg bs (i + x + 1 + 1) (pbN x)) : Nat) : Int), endF ((val (seg bs (i + x + 1 + 1 + pbN x) (pbN x)) : Nat) : Int) x⟩, bitAt bs (i + x), i + x + 1 + 1 + pbN x + pbN x))
  else some (⟨((val (seg bs i x) : Nat) : Int), false, 0, 0⟩, bitAt bs (i + x), i + x + 1 + 1)
theorem okn_nat {x : Nat} (hx : x = 10 ∨ x = 16) {s : Int} : okn (x : Int) s = true ↔ 0 ≤ s ∧ s.toNat < 2 ^ x := by
  unfold okn
  rw [decide_eq_true_eq]
  rcases hx with rfl | rfl
  · have e : sz ((10 : Nat) : Int) = 1024 := by decide
    rw [e]
    omega
  · have e : sz ((16 : Nat) : Int) = 65536 := by decide
    rw [e]
    omega
theorem miss_part {x : Nat} {m : MissM} (hp : m.part = true) (h : placedB m x = true) : 0 ≤ m.fr ∧ m.fr.toNat < 2 ^ pbN x ∧ 0 ≤ lastF m.to x ∧ (lastF m.to x).toNat < 2 ^ pbN x ∧ endF (lastF m.to x) x = m.to := by
  unfold placedB at h
  rw [hp] at h
  simp only [if_true] at h
  have h1 := onF_pow x
  have h2 := pow_pbN x
  unfold lastF endF
  generalize onF (x : Int) = o at *
  generalize 2 ^ pbN x = p at *
  by_cases h0 : m.to = 0
  · simp only [h0, if_true, Bool.and_eq_true, decide_eq_true_eq] at h ⊢
    refine ⟨by omega, by omega, by omega, by omega, trivial⟩
  · simp only [h0, if_false, Bool.and_eq_true, decide_eq_true_eq] at h ⊢
    refine ⟨by omega, by omega, by omega, by omega, ?_⟩
    rw [if_neg (by omega)]
    omega
theorem miss_whole {x : Int} {m : MissM} (hp : m.part = false) (h : placedB m x = true) : m.fr = 0 ∧ m.to = 0 := by
  unfold placedB at h
  rw [hp] at h
  simpa using h
theorem miss_at {bs : List Nat} {x i : Nat} {m : MissM} {more : Bool} {r : List Bool} (hx : x = 10 ∨ x = 16) (hm : missB x m = true) (h : (bitsOf bs).drop i = bitsP (missP x m more) ++ r) :
    ∃ j, rdMiss bs x i = some (m, more, j) ∧ (bitsOf bs).drop j = r := by
  unfold missB at hm
  rw [Bool.and_eq_true] at hm
  obtain ⟨hs0, hs1⟩ := (okn_nat hx).1 hm.1
  have hpl := hm.2
  obtain ⟨sn, part, fr, to⟩ := m
  unfold missP at h
  simp only [bitsP_cons, List.append_assoc] at h
  have hfit := at_fits h (by rw [length_unval]; omega)
  obtain ⟨e1, h1⟩ := at_seg h hs1
  have hfit1 := at_fits h1 (by rw [length_unval]; omega)
  obtain ⟨e2, h2⟩ := at_bit h1
  have hfit2 := at_fits h2 (by rw [length_unval]; omega)
  rw [length_unval] at hfit hfit1 hfit2
  obtain ⟨e3, h3⟩ := at_bit h2
  simp only at hs0 e1 e2 e3 h3
  cases part
  · obtain ⟨f0, t0⟩ := miss_whole rfl hpl
    simp only at f0 t0
    subst f0 t0
    refine ⟨_, ?_, h3⟩
    unfold rdMiss
    rw [if_neg (by omega), e3, if_neg (by decide), e1, e2, Int.toNat_of_nonneg hs0]
  · obtain ⟨f0, f1, l0, l1, l2⟩ := miss_part rfl hpl
    simp only [if_true, bitsP_cons, List.append_assoc] at h3 f0 f1 l0 l1 l2
    have hb := pbN_bd x
    have hfit3 := at_fits h3 (by rw [length_unval]; omega)
    obtain ⟨e4, h4⟩ := at_seg h3 f1
    have hfit4 := at_fits h4 (by rw [length_unval]; omega)
    obtain ⟨e5, h5⟩ := at_seg h4 l1
    rw [length_unval] at hfit3 hfit4
    refine ⟨_, ?_, h5⟩
    unfold rdMiss
    rw [if_neg (by omega), e3, if_pos rfl, if_neg (by omega), e1, e2, e4, e5, Int.toNat_of_nonneg hs0, Int.toNat_of_nonneg f0, Int.toNat_of_nonneg l0, l2]
theorem endF_back {x : Nat} {l : Nat} (h : l < 2 ^ pbN x) : (lastF (endF (l : Int) x) x).toNat = l := by
  have h1 := onF_pow x
  have h2 := pow_pbN x
  unfold lastF endF
  generalize onF (x : Int) = o at *
  generalize 2 ^ pbN x = p at *
  by_cases h0 : (l : Int) = o
  · rw [if_pos h0, if_pos rfl]; omega
  · rw [if_neg h0, if_neg (by omega)]; omega
theorem miss_of {bs : List Nat} {x i j : Nat} {m : MissM} {more : Bool} (hx : x = 10 ∨ x = 16) (h : rdMiss bs x i = some (m, more, j)) :
    okn (x : Int) m.sn = true ∧ (bitsOf bs).drop i = bitsP (missP x m more) ++ (bitsOf bs).drop j ∧ i ≤ j ∧ j ≤ 8 * bs.length := by
  unfold rdMiss at h
  split at h
  · cases h
  · rename_i hf
    have d1 := of_seg (bs := bs) (i := i) (n := x) (by omega)
    have d2 := of_bit (bs := bs) (i := i + x) (by omega)
    have d3 := of_bit (bs := bs) (i := i + x + 1) (by omega)
    have hsn : okn (x : Int) ((val (seg bs i x) : Nat) : Int) = true := (okn_nat hx).2 ⟨by omega, by rw [Int.toNat_natCast]; exact seg_lt2 (by omega)⟩
    split at h
    · rename_i hp
      split at h
      · cases h
      · rename_i hf2
        injection h with h
        injection h with h1 h2
        injection h2 with h2 h3
        subst h1 h2 h3
        have d4 := of_seg (bs := bs) (i := i + x + 1 + 1) (n := pbN x) (by omega)
        have d5 := of_seg (bs := bs) (i := i + x + 1 + 1 + pbN x) (n := pbN x) (by omega)
        have hl := endF_back (x := x) (seg_lt2 (hd := bs) (i := i + x + 1 + 1 + pbN x) (n := pbN x) (by omega))
        refine ⟨hsn, ?_, by omega, by omega⟩
        unfold missP
        simp only [if_true, bitsP_cons, Int.toNat_natCast, hl]
        rw [hp] at d3
        rw [d1, d2, d3, d4, d5]
        simp [bitsP]
    · rename_i hp
      injection h with h
      injection h with h1 h2
      injection h2 with h2 h3
      subst h1 h2 h3
      refine ⟨hsn, ?_, by omega, by omega⟩
      unfold missP
      have hp' : bitAt bs (i + x + 1) = false := by simpa using hp
      simp only [Bool.false_eq_true, if_false, bitsP_cons, Int.toNat_natCast]
      rw [hp'] at d3
      rw [d1, d2, d3]
      simp [bitsP]
/-- the misses of the bits from a place on: an error's number, the misses, the place behind them -/
def rdAll (bs : List Nat) (x : Nat) : Nat → List MissM → Nat → Bool → Int × List MissM × Nat
  | _, acc, i, false => (0, acc, i)
  | 0, _, _, true => (2, [], 0)
  | f + 1, acc, i, true =>
    match rdMiss bs x i with
    | none => (8, [], 0)
    | some (m, more, j) => if more && (f == 0) then (2, [], 0) else if placedB m x then rdAll bs x f (acc ++ [m]) j more else (3, [], 0)
theorem all_at {bs : List Nat} {x : Nat} (hx : x = 10 ∨ x = 16) : ∀ (L : List MissM) (f : Nat) (acc : List MissM) (i : Nat) (r : List Bool), L.length ≤ f → L.all (missB x) = true → (bitsOf bs).drop i = bitsP (missesP x L) ++ r →
    ∃ j, rdAll bs x f acc i (decide (0 < L.length)) = (0, acc ++ L, j) ∧ (bitsOf bs).drop j = r := by
  intro L
  induction L with
  | nil =>
    intro f acc i r _ _ h
    refine ⟨i, ?_, h⟩
    cases f <;> simp [rdAll]
  | cons m t ih =>
    intro f acc i r hf ha h
    obtain ⟨f, rfl⟩ : ∃ g, f = g + 1 := ⟨f - 1, by simp at hf; omega⟩
    rw [List.all_cons, Bool.and_eq_true] at ha
    rw [missesP, bitsP_append, List.append_assoc] at h
    obtain ⟨j, e, h1⟩ := miss_at hx ha.1 h
    have hlt : t.length ≤ f := by simp at hf; omega
    obtain ⟨j', e', h2⟩ := ih f (acc ++ [m]) j r hlt ha.2 h1
    refine ⟨j', ?_, h2⟩
    have hpl : placedB m x = true := by
      have := ha.1
      unfold missB at this
      rw [Bool.and_eq_true] at this
      exact this.2
    rw [show decide (0 < (m :: t).length) = true by simp, rdAll, e]
    have hno : (decide (0 < t.length) && (f == 0)) = false := by
      by_cases h0 : f = 0
      · have : t.length = 0 := by omega
        simp [this]
      · simp [h0]
    simp only [hno, hpl, Bool.false_eq_true, if_false, if_true]
    rw [e']
    simp
theorem all_of {bs : List Nat} {x : Nat} (hx : x = 10 ∨ x = 16) : ∀ (f : Nat) (acc : List MissM) (i : Nat) (more : Bool) (L' : List MissM) (j : Nat), rdAll bs x f acc i more = (0, L', j) → i ≤ 8 * bs.length →
    ∃ L, L' = acc ++ L ∧ L.all (missB x) = true ∧ (bitsOf bs).drop i = bitsP (missesP x L) ++ (bitsOf bs).drop j ∧ more = decide (0 < L.length) ∧ L.length ≤ f ∧ j ≤ 8 * bs.length := by
  intro f
  induction f with
  | zero =>
    intro acc i more L' j h hi
    cases more
    · simp [rdAll] at h
      obtain ⟨rfl, rfl⟩ := h
      exact ⟨[], by simp, rfl, rfl, rfl, by simp, hi⟩
    · simp [rdAll] at h
  | succ f ih =>
    intro acc i more L' j h hi
    cases more
    · simp [rdAll] at h
      obtain ⟨rfl, rfl⟩ := h
      exact ⟨[], by simp, rfl, rfl, rfl, by simp, hi⟩
    · rw [rdAll] at h
      cases hm : rdMiss bs x i with
      | none => rw [hm] at h; simp at h
      | some y =>
        obtain ⟨m, more', j'⟩ := y
        rw [hm] at h
        simp only at h
        split at h
        · simp at h
        · split at h
          · rename_i hpl
            obtain ⟨e1, e2, e3, e4⟩ := miss_of hx hm
            obtain ⟨L, l1, l2, l3, l4, l5, l6⟩ := ih _ _ _ _ _ h e4
            refine ⟨m :: L, by rw [l1]; simp, ?_, ?_, by simp, by simp; omega, l6⟩
            · rw [List.all_cons, l2, Bool.and_true]
              unfold missB
              rw [e1, hpl]
              rfl
            · rw [missesP, bitsP_append, e2, l3, l4, List.append_assoc]
          · simp at h
def restOk (bs : List Nat) (j : Nat) : Bool := decide (bs.length = up j) && (List.range (8 * up j)).all fun k => decide (k < j) || !bitAt bs k
theorem restOk_iff {bs : List Nat} {j : Nat} : restOk bs j = true ↔ bs.length = up j ∧ ∀ k, j ≤ k → k < 8 * up j → bitAt bs k = false := by
  unfold restOk
  rw [Bool.and_eq_true, decide_eq_true_eq, List.all_eq_true]
  refine and_congr Iff.rfl ⟨fun h k h1 h2 => ?_, fun h k hk => ?_⟩
  · have := h k (List.mem_range.2 h2)
    simp at this
    rcases this with h3 | h3
    · omega
    · exact h3
  · rw [List.mem_range] at hk
    by_cases h1 : k < j
    · simp [h1]
    · simp [h k (by omega) hk]
/-- what bytes are: an error's number, the Ack, the misses -/
def stRd (bs : List Nat) (x : Nat) : Int × Int × List MissM :=
  if okS x = false then (9, 0, [])
  else if bs.length = 0 then (8, 0, [])
  else if 128 ≤ bs.getD 0 0 then (4, 0, [])
  else if 16 ≤ bs.getD 0 0 then (3, 0, [])
  else if 8 * bs.length < 0 + 4 + x + 1 then (8, 0, [])
  else
    match rdAll bs x 32 [] (0 + 4 + x + 1) (bitAt bs (0 + 4 + x)) with
    | (c, L, j) => if c = 0 then (if restOk bs j = true then (0, ((val (seg bs (0 + 4) x) : Nat) : Int), L) else (3, 0, [])) else (c, 0, [])
theorem first_bits {b : Nat} {r : List Nat} (h : b < 16) : ∃ s, bitsOf (b :: r) = unval 0 4 ++ s := by
  have e : bitsOf (b :: r) = unval b 8 ++ bitsOf r := rfl
  have h1 := unval_split b 4 4
  rw [show b / 2 ^ 4 = 0 by omega] at h1
  rw [e, show (8 : Nat) = 4 + 4 from rfl, h1, List.append_assoc]
  exact ⟨_, rfl⟩
theorem rest_noughts {bs : List Nat} {j : Nat} (h1 : bs.length = up j) (h2 : ∀ k, j ≤ k → k < 8 * up j → bitAt bs k = false) : (bitsOf bs).drop j = List.replicate (8 * bs.length - j) false := by
  apply List.ext_getElem?
  intro k
  rw [List.getElem?_drop, List.getElem?_replicate]
  by_cases hk : k < 8 * bs.length - j
  · rw [if_pos hk]
    have h3 := h2 (j + k) (by omega) (by omega)
    unfold bitAt at h3
    have hl : j + k < (bitsOf bs).length := by rw [length_bitsOf]; omega
    rw [List.getD_eq_getElem?_getD, List.getElem?_eq_getElem hl] at h3
    rw [List.getElem?_eq_getElem hl]
    exact congrArg some h3
  · rw [if_neg hk, List.getElem?_eq_none (by rw [length_bitsOf]; omega)]
theorem rightB_parts {ack : Int} {L : List MissM} {x : Nat} (h : rightB ack L x = true) : (x = 10 ∨ x = 16) ∧ okS x = true ∧ okn (x : Int) ack = true ∧ L.length ≤ 32 ∧ L.all (missB x) = true := by
  unfold rightB at h
  simp only [Bool.and_eq_true, decide_eq_true_eq] at h
  have := okS_nat h.1.1.1
  exact ⟨by omega, h.1.1.1, h.1.1.2, h.1.2, h.2⟩
theorem st_back {ack : Int} {L : List MissM} {x : Nat} (h : rightB ack L x = true) : stRd (stBytes ack L x) x = (0, ack, L) := by
  obtain ⟨hx, hok, ha, hl, hall⟩ := rightB_parts h
  obtain ⟨ha0, ha1⟩ := (okn_nat hx).1 ha
  have hlen := len_statusP ack L x
  have hB : 0 ≤ bitsS (x : Int) L := (bitsS_bd hok L).1
  have hbp : bitsOf (stBytes ack L x) = bitsP (statusP ack L x) ++ List.replicate (8 * packLen (bitsP (statusP ack L x)).length - (bitsP (statusP ack L x)).length) false := bitsOf_pack _
  have hln : (stBytes ack L x).length = packLen (bitsP (statusP ack L x)).length := length_pack _
  have hrest := back_rest (bitsP (statusP ack L x))
  have hsm := pack_small (bitsP (statusP ack L x))
  rw [show pack (bitsP (statusP ack L x)) = stBytes ack L x from rfl] at hrest hsm
  have h0 : (bitsOf (stBytes ack L x)).drop 0 = unval 0 4 ++ (unval ack.toNat x ++ (unval (decide (0 < L.length)).toNat 1 ++ (bitsP (missesP x L) ++ List.replicate (8 * packLen (bitsP (statusP ack L x)).length - (bitsP (statusP ack L x)).length) false))) := by
    rw [List.drop_zero, hbp]
    unfold statusP headP
    rw [bitsP_append, bitsP_cons, bitsP_cons, bitsP_cons]
    simp [bitsP]
  have hj : ∀ j, (bitsOf (stBytes ack L x)).drop j = List.replicate (8 * packLen (bitsP (statusP ack L x)).length - (bitsP (statusP ack L x)).length) false → j ≤ 8 * (stBytes ack L x).length → j = (bitsP (statusP ack L x)).length := by
    intro j hj h8
    have e := congrArg List.length hj
    rw [List.length_drop, length_bitsOf, List.length_replicate, hln] at e
    rw [hln] at h8
    unfold packLen at e h8
    omega
  generalize stBytes ack L x = bs at *
  generalize bitsP (statusP ack L x) = bl at *
  obtain ⟨e1, h1⟩ := at_seg h0 (by decide)
  obtain ⟨e2, h2⟩ := at_seg h1 ha1
  have hf3 := at_fits h2 (by rw [length_unval]; omega)
  rw [length_unval] at hf3
  obtain ⟨e3, h3⟩ := at_bit h2
  obtain ⟨j, e4, h4⟩ := all_at hx L 32 [] (0 + 4 + x + 1) _ hl hall h3
  have hj8 : j ≤ 8 * bs.length := by
    obtain ⟨_, _, _, _, _, _, h9⟩ := all_of hx _ _ _ _ _ _ e4 hf3
    exact h9
  have ej := hj j h4 hj8
  have hb0 : bs.getD 0 0 < 16 := by
    cases bs with
    | nil => simp
    | cons b r =>
      have hb : b < 256 := hsm b (List.mem_cons_self ..)
      have e : bitsOf (b :: r) = unval b 8 ++ bitsOf r := rfl
      have h5 := unval_split b 4 4
      rw [List.drop_zero, e, show (8 : Nat) = 4 + 4 from rfl, h5, List.append_assoc] at h0
      have h6 := (List.append_inj h0 (by rw [length_unval, length_unval])).1
      have h7 := congrArg val h6
      rw [val_unval, val_unval] at h7
      simp at h7 ⊢
      omega
  have hne : bs.length ≠ 0 := by omega
  unfold stRd
  rw [if_neg (by rw [hok]; decide), if_neg hne, if_neg (by omega), if_neg (by omega), if_neg (by omega), e3, e4, e2]
  simp only [if_true, List.nil_append]
  rw [ej, if_pos (restOk_iff.2 ⟨by rw [hln]; rfl, hrest⟩), Int.toNat_of_nonneg ha0]
theorem st_write {bs : List Nat} {x : Nat} {ack : Int} {L : List MissM} (hb : ∀ b ∈ bs, b < 256) (h : stRd bs x = (0, ack, L)) : rightB ack L x = true ∧ stBytes ack L x = bs := by
  unfold stRd at h
  split at h
  · simp at h
  rename_i hok
  have hok : okS (x : Int) = true := by simpa using hok
  have hx : x = 10 ∨ x = 16 := by have := okS_nat hok; omega
  split at h
  · simp at h
  rename_i hne
  split at h
  · simp at h
  split at h
  · simp at h
  rename_i h16
  split at h
  · simp at h
  rename_i hsh
  cases hr : rdAll bs x 32 [] (0 + 4 + x + 1) (bitAt bs (0 + 4 + x)) with
  | mk c y =>
    obtain ⟨L', j⟩ := y
    rw [hr] at h
    simp only at h
    split at h
    · rename_i hc
      subst hc
      split at h
      · rename_i hrest
        have hrest := restOk_iff.1 hrest
        injection h with _ h
        injection h with h1 h2
        subst h1 h2
        obtain ⟨M, l1, l2, l3, l4, l5, l6⟩ := all_of hx _ _ _ _ _ _ hr (by omega)
        rw [List.nil_append] at l1
        have l1' := l1.symm
        subst l1'
        have hsn : okn (x : Int) ((val (seg bs (0 + 4) x) : Nat) : Int) = true := (okn_nat hx).2 ⟨by omega, by rw [Int.toNat_natCast]; exact seg_lt2 (by omega)⟩
        refine ⟨by unfold rightB; rw [hok, hsn, decide_eq_true l5, l2]; rfl, ?_⟩
        have d2 := of_seg (bs := bs) (i := 0 + 4) (n := x) (by omega)
        have d3 := of_bit (bs := bs) (i := 0 + 4 + x) (by omega)
        have hz := rest_noughts hrest.1 hrest.2
        have d1 : bitsOf bs = unval 0 4 ++ (bitsOf bs).drop (0 + 4) := by
          cases bs with
          | nil => simp at hne
          | cons b r =>
            obtain ⟨s, hs⟩ := first_bits (b := b) (r := r) (by simp at h16; omega)
            rw [hs, List.drop_left' (by rw [length_unval])]
        have hfull : bitsOf bs = bitsP (statusP ((val (seg bs (0 + 4) x) : Nat) : Int) M x) ++ List.replicate (8 * bs.length - j) false := by
          unfold statusP headP
          rw [bitsP_append, bitsP_cons, bitsP_cons, bitsP_cons, Int.toNat_natCast, ← l4]
          refine d1.trans ?_
          rw [d2, d3, l3, hz]
          simp [bitsP]
        have hlj := congrArg List.length hfull
        rw [length_bitsOf, List.length_append, List.length_replicate] at hlj
        have hpl : packLen (bitsP (statusP ((val (seg bs (0 + 4) x) : Nat) : Int) M x)).length = bs.length := by
          rw [show (bitsP (statusP ((val (seg bs (0 + 4) x) : Nat) : Int) M x)).length = j by omega, hrest.1]
          rfl
        unfold stBytes
        apply bitsOf_inj (pack_small _) hb
        rw [bitsOf_pack, hpl, hfull]
        congr 2
        omega
      · simp at h
    · rename_i hc
      injection h with h _
      exact absurd h hc
theorem st_len {ack : Int} {L : List MissM} {x : Nat} (h : rightB ack L x = true) : ((stBytes ack L x).length : Int) = statusF ack L x := by
  rw [len_stBytes]
  unfold statusF
  rw [if_pos h]
end Go.Proofs.Ytbdjgdkafbkdbaa
