/-
  status: the document's miss: may it be?. status: the document's Right. status: are lists of misses equal?. status: are statuses equal? the code's and the document's. status: what is wrong with bytes; one miss is read. status: numbers are put, one behind the other.
-/
import Derived.Test.YtbdjgdkafbkdbaaJPduKinds06
import Derived.Test.YtbdjgdkafbkdbaaJPduKinds07
import Derived.Test.YtbdjgdkafbkdbaaJPduKinds01
namespace Go.Proofs.Ytbdjgdkafbkdbaa
open Go.RowKit

theorem roff_any (x : Int) (w : World) : Calls Try.prog 110 #[.int .i64 x] w fun e w' => e = .returned (.int .i64 (pbF x)) ∧ w = w' := by
  by_cases h1 : x = 10
  · subst h1
    go_enter Try.func110, Try.ntmps110
    go_wp2
    go_ret
    exact ⟨rfl, rfl⟩
  · have h1' : (x == 10) = false := by simpa using h1
    have HX := Lib.hid (show pbF x = 16 by simp [pbF, h1])
    clear h1
    go_enter Try.func110, Try.ntmps110
    go_wp2
    go_ret
    exact ⟨by rw [HX.out]; rfl, rfl⟩
set_option maxHeartbeats 400000 in
theorem rplaces_any (x : Int) (w : World) : Calls Try.prog 109 #[.int .i64 x] w fun e w' => e = .returned (.int .i64 (onF x + 1)) ∧ w = w' := by
  have HO := Lib.hid (roff_any x w)
  by_cases h1 : x = 10
  · have HX := Lib.hid (show pbF x = 15 ∧ onF x = 32767 by simp [pbF, onF, h1])
    rw [HX.out.1] at HO
    rw [HX.out.2]
    have HZ := Lib.hid (rsize_any 14 w)
    rw [show sz 14 = 16384 by decide] at HZ
    clear h1
    go_enter Try.func109, Try.ntmps109
    go_wp2_with (first
      | (go_at_call 110; refine HO.out.mono ?_; rintro e w1 ⟨rfl, rfl⟩)
      | (go_at_call 124; refine HZ.out.mono ?_; rintro e w1 ⟨rfl, rfl⟩))
    go_ret
    exact ⟨rfl, rfl⟩
  · have HX := Lib.hid (show pbF x = 16 ∧ onF x = 65535 by simp [pbF, onF, h1])
    rw [HX.out.1] at HO
    rw [HX.out.2]
    have HZ := Lib.hid (rsize_any 15 w)
    rw [show sz 15 = 32768 by decide] at HZ
    clear h1
    go_enter Try.func109, Try.ntmps109
    go_wp2_with (first
      | (go_at_call 110; refine HO.out.mono ?_; rintro e w1 ⟨rfl, rfl⟩)
      | (go_at_call 124; refine HZ.out.mono ?_; rintro e w1 ⟨rfl, rfl⟩))
    go_ret
    exact ⟨rfl, rfl⟩
set_option maxHeartbeats 800000 in
theorem ismiss_i0 (sn fr to x : Int) (part : Bool) (w : World) (hi : okn x sn = false) : Calls Try.prog 105 #[.agg #[.int .i64 sn, .bool part, .int .i64 fr, .int .i64 to], .int .i64 x] w fun e w' => e = .returned (.bool false) ∧ Below w.heap.size w w' := by
  have HP := Lib.hid (fun W => rplaces_any x W)
  have HI := Lib.hid (fun W => ris_any x sn W)
  rw [hi] at HI
  have HB0 := Lib.hid (bl_alloc (Below.refl w.heap.size w) (.cells #[.int .i64 sn, .bool part, .int .i64 fr, .int .i64 to] 159))
  generalize onF x + 1 = o at *
  clear hi
  go_enter Try.func105, Try.ntmps105
  go_wp2_with (go_at_call 104; refine (HI.out _).mono ?_; rintro e w1 ⟨rfl, rfl⟩)
  skip
  go_ret
  exact ⟨rfl, HB0.out⟩
set_option maxHeartbeats 800000 in
theorem ismiss_i1 (sn fr to x : Int) (w : World) (hi : okn x sn = true) : Calls Try.prog 105 #[.agg #[.int .i64 sn, .bool false, .int .i64 fr, .int .i64 to], .int .i64 x] w fun e w' => e = .returned (.bool ((fr == 0) && (to == 0))) ∧ Below w.heap.size w w' := by
  have HI := Lib.hid (fun W => ris_any x sn W)
  rw [hi] at HI
  have HB0 := Lib.hid (bl_alloc (Below.refl w.heap.size w) (.cells #[.int .i64 sn, .bool false, .int .i64 fr, .int .i64 to] 159))
  clear hi
  cases h0 : (fr == 0)
  all_goals
    go_enter Try.func105, Try.ntmps105
    go_wp2_with (go_at_call 104; refine (HI.out _).mono ?_; rintro e w1 ⟨rfl, rfl⟩)
    go_ret
    exact ⟨rfl, HB0.out⟩
set_option maxHeartbeats 800000 in
theorem ismiss_i2 (sn fr to x : Int) (w : World) (hi : okn x sn = true) (g0 : decide (fr < 0) = true) : Calls Try.prog 105 #[.agg #[.int .i64 sn, .bool true, .int .i64 fr, .int .i64 to], .int .i64 x] w fun e w' => e = .returned (.bool false) ∧ Below w.heap.size w w' := by
  have HP := Lib.hid (fun W => rplaces_any x W)
  have HI := Lib.hid (fun W => ris_any x sn W)
  rw [hi] at HI
  have HB0 := Lib.hid (bl_alloc (Below.refl w.heap.size w) (.cells #[.int .i64 sn, .bool true, .int .i64 fr, .int .i64 to] 159))
  generalize onF x + 1 = o at *
  clear hi
  go_enter Try.func105, Try.ntmps105
  go_wp2_with (go_at_call 104; refine (HI.out _).mono ?_; rintro e w1 ⟨rfl, rfl⟩)
  go_quiet ((go_at_call 109; exact Calls.quiet_of_same ((HP.out _).mono fun e w' h => ⟨h.1, h.2.symm⟩)))
  go_wp2
  go_ret
  first | exact ⟨rfl, below_drewN HB0.out _⟩ | exact ⟨rfl, below_drewN (below_drewN HB0.out _) _⟩ | exact ⟨rfl, bl_drew (below_drewN HB0.out _)⟩
set_option maxHeartbeats 800000 in
theorem ismiss_i3 (sn fr to x : Int) (w : World) (hi : okn x sn = true) (g0 : decide (fr < 0) = false) (g1 : decide (onF x + 1 ≤ fr) = true) : Calls Try.prog 105 #[.agg #[.int .i64 sn, .bool true, .int .i64 fr, .int .i64 to], .int .i64 x] w fun e w' => e = .returned (.bool false) ∧ Below w.heap.size w w' := by
  have HP := Lib.hid (fun W => rplaces_any x W)
  have HI := Lib.hid (fun W => ris_any x sn W)
  rw [hi] at HI
  have HB0 := Lib.hid (bl_alloc (Below.refl w.heap.size w) (.cells #[.int .i64 sn, .bool true, .int .i64 fr, .int .i64 to] 159))
  generalize onF x + 1 = o at *
  clear hi
  go_enter Try.func105, Try.ntmps105
  go_wp2_with (go_at_call 104; refine (HI.out _).mono ?_; rintro e w1 ⟨rfl, rfl⟩)
  go_quiet ((go_at_call 109; exact Calls.quiet_of_same ((HP.out _).mono fun e w' h => ⟨h.1, h.2.symm⟩)))
  go_wp2
  go_ret
  first | exact ⟨rfl, below_drewN HB0.out _⟩ | exact ⟨rfl, below_drewN (below_drewN HB0.out _) _⟩ | exact ⟨rfl, bl_drew (below_drewN HB0.out _)⟩
set_option maxHeartbeats 800000 in
theorem ismiss_i4 (sn fr to x : Int) (w : World) (hi : okn x sn = true) (g0 : decide (fr < 0) = false) (g1 : decide (onF x + 1 ≤ fr) = false) (g2 : (to == 0) = true) : Calls Try.prog 105 #[.agg #[.int .i64 sn, .bool true, .int .i64 fr, .int .i64 to], .int .i64 x] w fun e w' => e = .returned (.bool true) ∧ Below w.heap.size w w' := by
  have HP := Lib.hid (fun W => rplaces_any x W)
  have HI := Lib.hid (fun W => ris_any x sn W)
  rw [hi] at HI
  have HB0 := Lib.hid (bl_alloc (Below.refl w.heap.size w) (.cells #[.int .i64 sn, .bool true, .int .i64 fr, .int .i64 to] 159))
  generalize onF x + 1 = o at *
  clear hi
  go_enter Try.func105, Try.ntmps105
  go_wp2_with (go_at_call 104; refine (HI.out _).mono ?_; rintro e w1 ⟨rfl, rfl⟩)
  go_quiet ((go_at_call 109; exact Calls.quiet_of_same ((HP.out _).mono fun e w' h => ⟨h.1, h.2.symm⟩)))
  go_wp2
  go_quiet ((go_at_call 109; exact Calls.quiet_of_same ((HP.out _).mono fun e w' h => ⟨h.1, h.2.symm⟩)))
  go_wp2
  go_ret
  first | exact ⟨rfl, below_drewN HB0.out _⟩ | exact ⟨rfl, below_drewN (below_drewN HB0.out _) _⟩ | exact ⟨rfl, bl_drew (below_drewN HB0.out _)⟩
set_option maxHeartbeats 800000 in
theorem ismiss_i5 (sn fr to x : Int) (w : World) (hi : okn x sn = true) (g0 : decide (fr < 0) = false) (g1 : decide (onF x + 1 ≤ fr) = false) (g2 : (to == 0) = false) (g3 : decide (fr < to) = false) : Calls Try.prog 105 #[.agg #[.int .i64 sn, .bool true, .int .i64 fr, .int .i64 to], .int .i64 x] w fun e w' => e = .returned (.bool false) ∧ Below w.heap.size w w' := by
  have HP := Lib.hid (fun W => rplaces_any x W)
  have HI := Lib.hid (fun W => ris_any x sn W)
  rw [hi] at HI
  have HB0 := Lib.hid (bl_alloc (Below.refl w.heap.size w) (.cells #[.int .i64 sn, .bool true, .int .i64 fr, .int .i64 to] 159))
  generalize onF x + 1 = o at *
  clear hi
  go_enter Try.func105, Try.ntmps105
  go_wp2_with (go_at_call 104; refine (HI.out _).mono ?_; rintro e w1 ⟨rfl, rfl⟩)
  go_quiet ((go_at_call 109; exact Calls.quiet_of_same ((HP.out _).mono fun e w' h => ⟨h.1, h.2.symm⟩)))
  go_wp2
  go_quiet ((go_at_call 109; exact Calls.quiet_of_same ((HP.out _).mono fun e w' h => ⟨h.1, h.2.symm⟩)))
  go_wp2
  go_ret
  first | exact ⟨rfl, below_drewN HB0.out _⟩ | exact ⟨rfl, below_drewN (below_drewN HB0.out _) _⟩ | exact ⟨rfl, bl_drew (below_drewN HB0.out _)⟩
set_option maxHeartbeats 800000 in
theorem ismiss_i6 (sn fr to x : Int) (w : World) (hi : okn x sn = true) (g0 : decide (fr < 0) = false) (g1 : decide (onF x + 1 ≤ fr) = false) (g2 : (to == 0) = false) (g3 : decide (fr < to) = true) (g4 : decide (to < onF x + 1) = true) : Calls Try.prog 105 #[.agg #[.int .i64 sn, .bool true, .int .i64 fr, .int .i64 to], .int .i64 x] w fun e w' => e = .returned (.bool true) ∧ Below w.heap.size w w' := by
  have HP := Lib.hid (fun W => rplaces_any x W)
  have HI := Lib.hid (fun W => ris_any x sn W)
  rw [hi] at HI
  have HB0 := Lib.hid (bl_alloc (Below.refl w.heap.size w) (.cells #[.int .i64 sn, .bool true, .int .i64 fr, .int .i64 to] 159))
  generalize onF x + 1 = o at *
  clear hi
  go_enter Try.func105, Try.ntmps105
  go_wp2_with (go_at_call 104; refine (HI.out _).mono ?_; rintro e w1 ⟨rfl, rfl⟩)
  go_quiet ((go_at_call 109; exact Calls.quiet_of_same ((HP.out _).mono fun e w' h => ⟨h.1, h.2.symm⟩)))
  go_wp2
  have d2 : ((w.alloc (.cells #[.int .i64 sn, .bool true, .int .i64 fr, .int .i64 to] 159)).drewN nq).drew.cell? ⟨w.heap.size, 2, none⟩ = some (.int .i64 fr) ∧ ((w.alloc (.cells #[.int .i64 sn, .bool true, .int .i64 fr, .int .i64 to] 159)).drewN nq).drew.cell? ⟨w.heap.size, 3, none⟩ = some (.int .i64 to) := by simp
  go_region_held3 (fun w' => w'.cell? ⟨w.heap.size, 2, none⟩ = some (.int .i64 fr) ∧ w'.cell? ⟨w.heap.size, 3, none⟩ = some (.int .i64 to)) (first | assumption | go_keep) ((go_at_call 109; refine (HP.out _).mono ?_; rintro e w7 ⟨rfl, rfl⟩))
  go_wp2
  go_ret
  first | exact ⟨rfl, below_drewN HB0.out _⟩ | exact ⟨rfl, below_drewN (below_drewN HB0.out _) _⟩ | exact ⟨rfl, bl_drew (below_drewN HB0.out _)⟩
set_option maxHeartbeats 800000 in
theorem ismiss_i7 (sn fr to x : Int) (w : World) (hi : okn x sn = true) (g0 : decide (fr < 0) = false) (g1 : decide (onF x + 1 ≤ fr) = false) (g2 : (to == 0) = false) (g3 : decide (fr < to) = true) (g4 : decide (to < onF x + 1) = false) : Calls Try.prog 105 #[.agg #[.int .i64 sn, .bool true, .int .i64 fr, .int .i64 to], .int .i64 x] w fun e w' => e = .returned (.bool false) ∧ Below w.heap.size w w' := by
  have HP := Lib.hid (fun W => rplaces_any x W)
  have HI := Lib.hid (fun W => ris_any x sn W)
  rw [hi] at HI
  have HB0 := Lib.hid (bl_alloc (Below.refl w.heap.size w) (.cells #[.int .i64 sn, .bool true, .int .i64 fr, .int .i64 to] 159))
  generalize onF x + 1 = o at *
  clear hi
  go_enter Try.func105, Try.ntmps105
  go_wp2_with (go_at_call 104; refine (HI.out _).mono ?_; rintro e w1 ⟨rfl, rfl⟩)
  go_quiet ((go_at_call 109; exact Calls.quiet_of_same ((HP.out _).mono fun e w' h => ⟨h.1, h.2.symm⟩)))
  go_wp2
  have d2 : ((w.alloc (.cells #[.int .i64 sn, .bool true, .int .i64 fr, .int .i64 to] 159)).drewN nq).drew.cell? ⟨w.heap.size, 2, none⟩ = some (.int .i64 fr) ∧ ((w.alloc (.cells #[.int .i64 sn, .bool true, .int .i64 fr, .int .i64 to] 159)).drewN nq).drew.cell? ⟨w.heap.size, 3, none⟩ = some (.int .i64 to) := by simp
  go_region_held3 (fun w' => w'.cell? ⟨w.heap.size, 2, none⟩ = some (.int .i64 fr) ∧ w'.cell? ⟨w.heap.size, 3, none⟩ = some (.int .i64 to)) (first | assumption | go_keep) ((go_at_call 109; refine (HP.out _).mono ?_; rintro e w7 ⟨rfl, rfl⟩))
  go_wp2
  go_ret
  first | exact ⟨rfl, below_drewN HB0.out _⟩ | exact ⟨rfl, below_drewN (below_drewN HB0.out _) _⟩ | exact ⟨rfl, bl_drew (below_drewN HB0.out _)⟩
theorem ismiss_any (m : MissM) (x : Int) (w : World) : Calls Try.prog 105 #[m.v, .int .i64 x] w fun e w' => e = .returned (.bool (missB x m)) ∧ Below w.heap.size w w' := by
  obtain ⟨sn, part, fr, to⟩ := m
  unfold MissM.v
  cases hi : okn x sn
  · rw [show missB x ⟨sn, part, fr, to⟩ = false by simp [missB, hi]]
    exact ismiss_i0 sn fr to x part w hi
  · cases part
    · rw [show missB x ⟨sn, false, fr, to⟩ = ((fr == 0) && (to == 0)) by simp [missB, placedB, hi]]
      exact ismiss_i1 sn fr to x w hi
    · have e : missB x ⟨sn, true, fr, to⟩ = placedB ⟨sn, true, fr, to⟩ x := by simp [missB, hi]
      rw [e]
      cases g0 : decide (fr < 0)
      · cases g1 : decide (onF x + 1 ≤ fr)
        · have h0 := of_decide_eq_false g0
          have h1 := of_decide_eq_false g1
          cases g2 : (to == 0)
          · have hz : ¬ to = 0 := by simpa using g2
            cases g3 : decide (fr < to)
            · have h3 := of_decide_eq_false g3
              rw [show placedB ⟨sn, true, fr, to⟩ x = false by simp [placedB, hz]; omega]
              exact ismiss_i5 sn fr to x w hi g0 g1 g2 g3
            · have h3 := of_decide_eq_true g3
              cases g4 : decide (to < onF x + 1)
              · have h4 := of_decide_eq_false g4
                rw [show placedB ⟨sn, true, fr, to⟩ x = false by simp [placedB, hz]; omega]
                exact ismiss_i7 sn fr to x w hi g0 g1 g2 g3 g4
              · have h4 := of_decide_eq_true g4
                rw [show placedB ⟨sn, true, fr, to⟩ x = true by simp [placedB, hz]; omega]
                exact ismiss_i6 sn fr to x w hi g0 g1 g2 g3 g4
          · have hz : to = 0 := by simpa using g2
            rw [show placedB ⟨sn, true, fr, to⟩ x = true by simp [placedB, hz]; omega]
            exact ismiss_i4 sn fr to x w hi g0 g1 g2
        · have h0 := of_decide_eq_false g0
          have h1 := of_decide_eq_true g1
          rw [show placedB ⟨sn, true, fr, to⟩ x = false by simp only [placedB, if_true]; split <;> simp <;> omega]
          exact ismiss_i3 sn fr to x w hi g0 g1
      · have h0 := of_decide_eq_true g0
        rw [show placedB ⟨sn, true, fr, to⟩ x = false by simp only [placedB, if_true]; split <;> simp <;> omega]
        exact ismiss_i2 sn fr to x w hi g0
end Go.Proofs.Ytbdjgdkafbkdbaa
namespace Go.Proofs.Ytbdjgdkafbkdbaa
open Go.RowKit

set_option maxRecDepth 100000 in
set_option maxHeartbeats 1600000 in
theorem rsright_loop {A : Option Addr} {L : List MissM} (ack x : Int) (n cap : Nat) (w : World) (hL : L.length = n) (hn : n ≤ 32) (hs : MSrc w A L) (hx : okS x = true) (ha : okn x ack = true) :
    Calls Try.prog 54 #[.agg #[.int .i64 ack, .slice A n cap], .int .i64 x] w fun e w' => e = .returned (.bool (L.all (missB x))) ∧ Below w.heap.size w w' := by
  have HA := Lib.hid (fun W => ris_any x ack W)
  rw [ha] at HA
  have HS := Lib.hid hs
  have HL := Lib.hid hL
  have hn' : ¬ (32 : Int) < n := by omega
  have R0 := Lib.hid (Row.made w 84 #[.int .i64 ack, .slice A n cap])
  have HB0 := Lib.hid (bl_alloc (Below.refl w.heap.size w) (.cells #[.int .i64 ack, .slice A n cap] 84))
  have hxx : ((x != 10) = false) ∨ ((x != 10) = true ∧ (x != 16) = false) := by
    rcases okS_nat hx with rfl | rfl
    · exact .inl rfl
    · exact .inr ⟨rfl, rfl⟩
  clear hs hL hx ha
  rcases hxx with hx1 | ⟨hx1, hx2⟩
  all_goals
    go_enter Try.func54, Try.ntmps54
    go_wp2_with (go_at_call 104; refine (HA.out _).mono ?_; rintro e w2 ⟨rfl, rfl⟩)
    generalize hw0 : (w.alloc (.cells #[.int .i64 ack, .slice A n cap] 84)) = w0 at *
    go_loopw [5] (fun i wr => ∃ k : Nat, k ≤ n ∧ i = .int .i64 k ∧ Hid (L.all (missB x) = (L.drop k).all (missB x)) ∧ Hid (Below w0.heap.size w0 wr)) (fun i _ => n - (intOf i).toNat)
    case atStart => exact ⟨0, by omega, rfl, Lib.hid (by simp), Lib.hid (Below.refl _ _)⟩
    case round =>
      obtain ⟨k, hk, rfl, HK, HB⟩ := hrel
      have c1 := (R0.out.later HB.out).read (i := 1) rfl
      by_cases hlt : k < n
      · obtain ⟨ab, ao, rfl, hc⟩ := HS.out (by rw [HL.out]; omega)
        obtain ⟨⟨sn, part, fr, to⟩, hr⟩ : ∃ r, L[k]? = some r := ⟨_, List.getElem?_eq_getElem (by rw [HL.out]; exact hlt)⟩
        obtain ⟨e0, e1, e2, e3⟩ := hc k _ hr
        have HWR := Lib.hid (bl_step HB0.out HB.out)
        have f0 := cell_below HWR.out e0
        have f1 := cell_below HWR.out e1
        have f2 := cell_below HWR.out e2
        have f3 := cell_below HWR.out e3
        have HD := Lib.hid (show L.drop k = ⟨sn, part, fr, to⟩ :: L.drop (k + 1) by
          obtain ⟨h1, h2⟩ := List.getElem?_eq_some_iff.1 hr
          rw [List.drop_eq_getElem_cons h1, h2])
        have HP := Lib.hid (fun W => ismiss_any ⟨sn, part, fr, to⟩ x W)
        have hkI : (k : Int) < (n : Int) := by omega
        clear hc hr e0 e1 e2 e3
        simp only [MissM.v] at HP f0 f1 f2 f3
        cases hp : missB x ⟨sn, part, fr, to⟩
        · rw [hp] at HP
          go_wp2_with (go_at_call 105; refine (HP.out _).mono ?_; rintro e w5 ⟨rfl, hb5⟩)
          go_ret
          exact ⟨ret_bool (by rw [HK.out, HD.out]; simp [hp]), bl_step HWR.out hb5⟩
        · rw [hp] at HP
          go_wp2_with (go_at_call 105; refine (HP.out _).mono ?_; rintro e w5 ⟨rfl, hb5⟩)
          go_roundw
          case rel => exact ⟨k + 1, by omega, by go_num, Lib.hid (by rw [HK.out, HD.out]; simp [hp]), Lib.hid (bl_step HB.out hb5)⟩
          case measure => simp [intOf]; omega
      · have hkn : k = n := by omega
        subst hkn
        go_wp2
        go_ret
        exact ⟨ret_bool (by rw [HK.out, List.drop_of_length_le (by rw [HL.out]; exact Nat.le_refl _)]; rfl), bl_step HB0.out HB.out⟩
set_option maxRecDepth 100000 in
set_option maxHeartbeats 800000 in
theorem rsright_no0 {A : Option Addr} (ack x : Int) (n cap : Nat) (w : World) (hx : okS x = false) :
    Calls Try.prog 54 #[.agg #[.int .i64 ack, .slice A n cap], .int .i64 x] w fun e w' => e = .returned (.bool false) ∧ Below w.heap.size w w' := by
  obtain ⟨h1, h2⟩ := okS_not hx
  have h1' : (x != 10) = true := by simpa using h1
  have h2' : (x != 16) = true := by simpa using h2
  clear hx h1 h2
  go_enter Try.func54, Try.ntmps54
  go_wp2
  go_ret
  exact ⟨rfl, bl_alloc (Below.refl _ _) _⟩
set_option maxRecDepth 100000 in
set_option maxHeartbeats 800000 in
theorem rsright_no1 {A : Option Addr} (ack x : Int) (n cap : Nat) (w : World) (hx : okS x = true) (ha : okn x ack = false) :
    Calls Try.prog 54 #[.agg #[.int .i64 ack, .slice A n cap], .int .i64 x] w fun e w' => e = .returned (.bool false) ∧ Below w.heap.size w w' := by
  have HA := Lib.hid (fun W => ris_any x ack W)
  rw [ha] at HA
  have hxx : ((x != 10) = false) ∨ ((x != 10) = true ∧ (x != 16) = false) := by
    rcases okS_nat hx with rfl | rfl
    · exact .inl rfl
    · exact .inr ⟨rfl, rfl⟩
  clear hx ha
  rcases hxx with hx1 | ⟨hx1, hx2⟩
  all_goals
    go_enter Try.func54, Try.ntmps54
    go_wp2_with (go_at_call 104; refine (HA.out _).mono ?_; rintro e w2 ⟨rfl, rfl⟩)
    go_ret
    exact ⟨rfl, bl_alloc (Below.refl _ _) _⟩
set_option maxRecDepth 100000 in
set_option maxHeartbeats 800000 in
theorem rsright_no2 {A : Option Addr} (ack x : Int) (n cap : Nat) (w : World) (hx : okS x = true) (ha : okn x ack = true) (hn : 32 < n) (hn9 : n ≤ 9223372036854775807) :
    Calls Try.prog 54 #[.agg #[.int .i64 ack, .slice A n cap], .int .i64 x] w fun e w' => e = .returned (.bool false) ∧ Below w.heap.size w w' := by
  have HA := Lib.hid (fun W => ris_any x ack W)
  rw [ha] at HA
  have hn' : (32 : Int) < n := by omega
  have hxx : ((x != 10) = false) ∨ ((x != 10) = true ∧ (x != 16) = false) := by
    rcases okS_nat hx with rfl | rfl
    · exact .inl rfl
    · exact .inr ⟨rfl, rfl⟩
  clear hx ha
  rcases hxx with hx1 | ⟨hx1, hx2⟩
  all_goals
    go_enter Try.func54, Try.ntmps54
    go_wp2_with (go_at_call 104; refine (HA.out _).mono ?_; rintro e w2 ⟨rfl, rfl⟩)
    go_ret
    exact ⟨rfl, bl_alloc (Below.refl _ _) _⟩
theorem rsright_any {A : Option Addr} {L : List MissM} (ack x : Int) (n cap : Nat) (w : World) (hL : L.length = n) (hn : n ≤ 9223372036854775807) (hs : MSrc w A L) :
    Calls Try.prog 54 #[.agg #[.int .i64 ack, .slice A n cap], .int .i64 x] w fun e w' => e = .returned (.bool (rightB ack L x)) ∧ Below w.heap.size w w' := by
  unfold rightB
  cases hx : okS x
  · exact rsright_no0 ack x n cap w hx
  · cases ha : okn x ack
    · exact rsright_no1 ack x n cap w hx ha
    · rw [hL]
      by_cases h : n ≤ 32
      · rw [decide_eq_true h]
        exact rsright_loop ack x n cap w hL h hs hx ha
      · rw [decide_eq_false h]
        exact rsright_no2 ack x n cap w hx ha (by omega) hn
end Go.Proofs.Ytbdjgdkafbkdbaa
namespace Go.Proofs.Ytbdjgdkafbkdbaa
open Go.RowKit

def eqM (a b : MissM) : Bool := (a.sn == b.sn) && (a.part == b.part) && (a.fr == b.fr) && (a.to == b.to)
theorem eqM_iff (a b : MissM) : eqM a b = true ↔ a = b := by
  obtain ⟨a1, a2, a3, a4⟩ := a
  obtain ⟨b1, b2, b3, b4⟩ := b
  simp [eqM, and_assoc]
def eqMs : List MissM → List MissM → Bool
  | [], [] => true
  | a :: l, b :: m => eqM a b && eqMs l m
  | _, _ => false
set_option maxRecDepth 100000 in
set_option maxHeartbeats 1600000 in
theorem sequal_loop {A B : Option Addr} {L M : List MissM} (n c d : Nat) (w : World) (hL : L.length = n) (hM : M.length = n) (hn : n ≤ 9223372036854775807) (hs : MSrc w A L) (ht : MSrc w B M) :
    Calls Try.prog 107 #[.slice A n c, .slice B n d] w fun e w' => e = .returned (.bool (eqMs L M)) ∧ Below w.heap.size w w' := by
  have HS := Lib.hid hs
  have HT := Lib.hid ht
  have HL := Lib.hid hL
  have HM := Lib.hid hM
  clear hs ht hL hM
  go_enter Try.func107, Try.ntmps107
  go_wp2
  go_loopw [13] (fun i wr => ∃ k : Nat, k ≤ n ∧ i = .int .i64 k ∧ Hid (eqMs L M = eqMs (L.drop k) (M.drop k)) ∧ Hid (Below w.heap.size w wr)) (fun i _ => n - (intOf i).toNat)
  case atStart => exact ⟨0, by omega, rfl, Lib.hid (by simp), Lib.hid (Below.refl _ _)⟩
  case round =>
    obtain ⟨k, hk, rfl, HK, HB⟩ := hrel
    by_cases hlt : k < n
    · obtain ⟨ab, ao, rfl, hc⟩ := HS.out (by rw [HL.out]; omega)
      obtain ⟨bb, bo, rfl, hd⟩ := HT.out (by rw [HM.out]; omega)
      obtain ⟨⟨sn, part, fr, to⟩, hr⟩ : ∃ r, L[k]? = some r := ⟨_, List.getElem?_eq_getElem (by rw [HL.out]; exact hlt)⟩
      obtain ⟨⟨sn', part', fr', to'⟩, hr'⟩ : ∃ r, M[k]? = some r := ⟨_, List.getElem?_eq_getElem (by rw [HM.out]; exact hlt)⟩
      obtain ⟨e0, e1, e2, e3⟩ := hc k _ hr
      obtain ⟨e4, e5, e6, e7⟩ := hd k _ hr'
      have f0 := cell_below HB.out e0
      have f1 := cell_below HB.out e1
      have f2 := cell_below HB.out e2
      have f3 := cell_below HB.out e3
      have f4 := cell_below HB.out e4
      have f5 := cell_below HB.out e5
      have f6 := cell_below HB.out e6
      have f7 := cell_below HB.out e7
      have HD := Lib.hid (show L.drop k = ⟨sn, part, fr, to⟩ :: L.drop (k + 1) by
        obtain ⟨h1, h2⟩ := List.getElem?_eq_some_iff.1 hr
        rw [List.drop_eq_getElem_cons h1, h2])
      have HE := Lib.hid (show M.drop k = ⟨sn', part', fr', to'⟩ :: M.drop (k + 1) by
        obtain ⟨h1, h2⟩ := List.getElem?_eq_some_iff.1 hr'
        rw [List.drop_eq_getElem_cons h1, h2])
      have hkI : (k : Int) < (n : Int) := by omega
      have hk0 : (0 : Int) ≤ (k : Int) := by omega
      clear hc hd hr hr' e0 e1 e2 e3 e4 e5 e6 e7
      simp only at f0 f1 f2 f3 f4 f5 f6 f7
      by_cases hq : eqM ⟨sn, part, fr, to⟩ ⟨sn', part', fr', to'⟩ = true
      · have h := (eqM_iff _ _).1 hq
        injection h with h1 h2 h3 h4
        subst h1 h2 h3 h4
        go_wp2_with fail
        go_quiet (fail)
        go_wp2
        exact ⟨⟨k + 1, by omega, by go_num, Lib.hid (by rw [HK.out, HD.out, HE.out]; simp [eqMs, eqM]), Lib.hid (below_drewN HB.out _)⟩, by simp [intOf]; omega⟩
      · have hq' : eqM ⟨sn, part, fr, to⟩ ⟨sn', part', fr', to'⟩ = false := by simpa using hq
        have HZ := Lib.hid (show eqMs L M = false by rw [HK.out, HD.out, HE.out]; simp [eqMs, hq'])
        have hcase : (sn ≠ sn') ∨ (sn = sn' ∧ part ≠ part') ∨ (sn = sn' ∧ part = part' ∧ fr ≠ fr') ∨ (sn = sn' ∧ part = part' ∧ fr = fr' ∧ to ≠ to') := by
          by_cases h1 : sn = sn'
          · by_cases h2 : part = part'
            · by_cases h3 : fr = fr'
              · by_cases h4 : to = to'
                · exact absurd ((eqM_iff _ _).2 (by rw [h1, h2, h3, h4])) hq
                · exact .inr (.inr (.inr ⟨h1, h2, h3, h4⟩))
              · exact .inr (.inr (.inl ⟨h1, h2, h3⟩))
            · exact .inr (.inl ⟨h1, h2⟩)
          · exact .inl h1
        clear hq hq' HK HD HE
        rcases hcase with h1 | ⟨rfl, h2⟩ | ⟨rfl, rfl, h3⟩ | ⟨rfl, rfl, rfl, h4⟩
        all_goals
          go_wp2_with fail
          go_quiet (fail)
          go_wp2
          go_ret
          exact ⟨ret_bool HZ.out.symm, below_drewN HB.out _⟩
    · have hkn : k = n := by omega
      subst hkn
      go_wp2
      go_ret
      exact ⟨ret_bool (by rw [HK.out, List.drop_of_length_le (by rw [HL.out]; exact Nat.le_refl _), List.drop_of_length_le (by rw [HM.out]; exact Nat.le_refl _)]; rfl), HB.out⟩
set_option maxRecDepth 100000 in
set_option maxHeartbeats 800000 in
theorem sequal_no {A B : Option Addr} (n m c d : Nat) (w : World) (h : n ≠ m) :
    Calls Try.prog 107 #[.slice A n c, .slice B m d] w fun e w' => e = .returned (.bool false) ∧ Below w.heap.size w w' := by
  have h' : ¬ ((n : Int) = (m : Int)) := by omega
  have h2 : ((n : Int) != (m : Int)) = true := by simpa using h'
  clear h
  go_enter Try.func107, Try.ntmps107
  go_wp2
  go_ret
  exact ⟨rfl, Below.refl _ _⟩
theorem eqMs_len {L M : List MissM} (h : L.length ≠ M.length) : eqMs L M = false := by
  induction L generalizing M with
  | nil =>
    cases M with
    | nil => exact absurd rfl h
    | cons => rfl
  | cons a t ih =>
    cases M with
    | nil => rfl
    | cons b u =>
      have := ih (M := u) (by simpa using h)
      simp [eqMs, this]
theorem sequal_any {A B : Option Addr} {L M : List MissM} (n m c d : Nat) (w : World) (hL : L.length = n) (hM : M.length = m) (hn : n ≤ 9223372036854775807) (hs : MSrc w A L) (ht : MSrc w B M) :
    Calls Try.prog 107 #[.slice A n c, .slice B m d] w fun e w' => e = .returned (.bool (eqMs L M)) ∧ Below w.heap.size w w' := by
  by_cases h : n = m
  · subst h
    exact sequal_loop n c d w hL hM hn hs ht
  · rw [eqMs_len (by omega)]
    exact sequal_no n m c d w h
end Go.Proofs.Ytbdjgdkafbkdbaa
namespace Go.Proofs.Ytbdjgdkafbkdbaa
open Go.RowKit

theorem eqM_case {sn sn' : Int} {part part' : Bool} {fr fr' to to' : Int} (hq : ¬ eqM ⟨sn, part, fr, to⟩ ⟨sn', part', fr', to'⟩ = true) : (sn ≠ sn') ∨ (sn = sn' ∧ part ≠ part') ∨ (sn = sn' ∧ part = part' ∧ fr ≠ fr') ∨ (sn = sn' ∧ part = part' ∧ fr = fr' ∧ to ≠ to') := by
  by_cases h1 : sn = sn'
  · by_cases h2 : part = part'
    · by_cases h3 : fr = fr'
      · by_cases h4 : to = to'
        · exact absurd ((eqM_iff _ _).2 (by rw [h1, h2, h3, h4])) hq
        · exact .inr (.inr (.inr ⟨h1, h2, h3, h4⟩))
      · exact .inr (.inr (.inl ⟨h1, h2, h3⟩))
    · exact .inr (.inl ⟨h1, h2⟩)
  · exact .inl h1
def eqS (a : Int) (L : List MissM) (b : Int) (M : List MissM) : Bool := (a == b) && eqMs L M
set_option maxRecDepth 100000 in
set_option maxHeartbeats 1600000 in
theorem ssame_any {A B : Option Addr} {L M : List MissM} (a b : Int) (n m c d : Nat) (w : World) (hL : L.length = n) (hM : M.length = m) (hn : n ≤ 9223372036854775807) (hs : MSrc w A L) (ht : MSrc w B M) :
    Calls Try.prog 57 #[.agg #[.int .i64 a, .slice A n c], .agg #[.int .i64 b, .slice B m d]] w fun e w' => e = .returned (.bool (eqS a L b M)) ∧ Below w.heap.size w w' := by
  have HQ := Lib.hid (fun W hb => sequal_any n m c d W hL hM hn (hs.later (v := W) hb) (ht.later hb))
  have HB0 := Lib.hid (bl_alloc (bl_alloc (Below.refl w.heap.size w) (.cells #[.int .i64 a, .slice A n c] 81)) (.cells #[.int .i64 b, .slice B m d] 81))
  clear hs ht hL hM
  unfold eqS
  cases h : (a == b)
  · go_enter Try.func57, Try.ntmps57
    go_wp2_with fail
    go_ret
    exact ⟨rfl, HB0.out⟩
  · rw [Bool.true_and]
    go_enter Try.func57, Try.ntmps57
    go_wp2_with (go_at_call 107; refine (HQ.out _ HB0.out).mono ?_; rintro e w2 ⟨rfl, hb2⟩)
    go_ret
    exact ⟨rfl, bl_step HB0.out hb2⟩
set_option maxRecDepth 100000 in
set_option maxHeartbeats 800000 in
theorem rssame_a {A B : Option Addr} (a b : Int) (n m c d : Nat) (w : World) (h : a ≠ b) :
    Calls Try.prog 58 #[.agg #[.int .i64 a, .slice A n c], .agg #[.int .i64 b, .slice B m d]] w fun e w' => e = .returned (.bool false) ∧ Below w.heap.size w w' := by
  have h2 : (a != b) = true := by simpa using h
  go_enter Try.func58, Try.ntmps58
  go_wp2
  go_ret
  exact ⟨rfl, bl_alloc (bl_alloc (Below.refl w.heap.size w) _) _⟩
set_option maxRecDepth 100000 in
set_option maxHeartbeats 800000 in
theorem rssame_n {A B : Option Addr} (a : Int) (n m c d : Nat) (w : World) (h : n ≠ m) :
    Calls Try.prog 58 #[.agg #[.int .i64 a, .slice A n c], .agg #[.int .i64 a, .slice B m d]] w fun e w' => e = .returned (.bool false) ∧ Below w.heap.size w w' := by
  have h' : ¬ ((n : Int) = (m : Int)) := by omega
  have h2 : ((n : Int) != (m : Int)) = true := by simpa using h'
  clear h
  go_enter Try.func58, Try.ntmps58
  go_wp2
  go_ret
  exact ⟨rfl, bl_alloc (bl_alloc (Below.refl w.heap.size w) _) _⟩
set_option maxRecDepth 100000 in
set_option maxHeartbeats 1600000 in
theorem rssame_loop {A B : Option Addr} {L M : List MissM} (a : Int) (n c d : Nat) (w : World) (hL : L.length = n) (hM : M.length = n) (hn : n ≤ 9223372036854775807) (hs : MSrc w A L) (ht : MSrc w B M) :
    Calls Try.prog 58 #[.agg #[.int .i64 a, .slice A n c], .agg #[.int .i64 a, .slice B n d]] w fun e w' => e = .returned (.bool (eqMs L M)) ∧ Below w.heap.size w w' := by
  have HS := Lib.hid hs
  have HT := Lib.hid ht
  have HL := Lib.hid hL
  have HM := Lib.hid hM
  have HB0 := Lib.hid (bl_alloc (bl_alloc (Below.refl w.heap.size w) (.cells #[.int .i64 a, .slice A n c] 84)) (.cells #[.int .i64 a, .slice B n d] 84))
  have R0 := Lib.hid ((Row.made w 84 #[.int .i64 a, .slice A n c]).more (.cells #[.int .i64 a, .slice B n d] 84))
  have R1 := Lib.hid (row_second (w := w) (o := .cells #[.int .i64 a, .slice A n c] 84) (t := 84) (cs := #[.int .i64 a, .slice B n d]) (Below.refl _ _))
  clear hs ht hL hM
  go_enter Try.func58, Try.ntmps58
  go_wp2
  generalize hw0 : ((w.alloc (.cells #[.int .i64 a, .slice A n c] 84)).alloc (.cells #[.int .i64 a, .slice B n d] 84)) = w0 at *
  go_loopw [5] (fun i wr => ∃ k : Nat, k ≤ n ∧ i = .int .i64 k ∧ Hid (eqMs L M = eqMs (L.drop k) (M.drop k)) ∧ Hid (Below w0.heap.size w0 wr)) (fun i _ => n - (intOf i).toNat)
  case atStart => exact ⟨0, by omega, rfl, Lib.hid (by simp), Lib.hid (Below.refl _ _)⟩
  case round =>
    obtain ⟨k, hk, rfl, HK, HB⟩ := hrel
    have c0 := (R0.out.later HB.out).read (i := 1) rfl
    have c1 := (R1.out.later HB.out).read (i := 1) rfl
    have HWR := Lib.hid (bl_step HB0.out HB.out)
    by_cases hlt : k < n
    · obtain ⟨ab, ao, rfl, hc⟩ := HS.out (by rw [HL.out]; omega)
      obtain ⟨bb, bo, rfl, hd⟩ := HT.out (by rw [HM.out]; omega)
      obtain ⟨⟨sn, part, fr, to⟩, hr⟩ : ∃ r, L[k]? = some r := ⟨_, List.getElem?_eq_getElem (by rw [HL.out]; exact hlt)⟩
      obtain ⟨⟨sn', part', fr', to'⟩, hr'⟩ : ∃ r, M[k]? = some r := ⟨_, List.getElem?_eq_getElem (by rw [HM.out]; exact hlt)⟩
      obtain ⟨e0, e1, e2, e3⟩ := hc k _ hr
      obtain ⟨e4, e5, e6, e7⟩ := hd k _ hr'
      have f0 := cell_below HWR.out e0
      have f1 := cell_below HWR.out e1
      have f2 := cell_below HWR.out e2
      have f3 := cell_below HWR.out e3
      have f4 := cell_below HWR.out e4
      have f5 := cell_below HWR.out e5
      have f6 := cell_below HWR.out e6
      have f7 := cell_below HWR.out e7
      have HD := Lib.hid (show L.drop k = ⟨sn, part, fr, to⟩ :: L.drop (k + 1) by
        obtain ⟨h1, h2⟩ := List.getElem?_eq_some_iff.1 hr
        rw [List.drop_eq_getElem_cons h1, h2])
      have HE := Lib.hid (show M.drop k = ⟨sn', part', fr', to'⟩ :: M.drop (k + 1) by
        obtain ⟨h1, h2⟩ := List.getElem?_eq_some_iff.1 hr'
        rw [List.drop_eq_getElem_cons h1, h2])
      have hkI : (k : Int) < (n : Int) := by omega
      have hk0 : (0 : Int) ≤ (k : Int) := by omega
      clear hc hd hr hr' e0 e1 e2 e3 e4 e5 e6 e7
      simp only at f0 f1 f2 f3 f4 f5 f6 f7
      by_cases hq : eqM ⟨sn, part, fr, to⟩ ⟨sn', part', fr', to'⟩ = true
      · have h := (eqM_iff _ _).1 hq
        injection h with h1 h2 h3 h4
        subst h1 h2 h3 h4
        go_wp2_with fail
        go_quiet (fail)
        go_wp2
        exact ⟨⟨k + 1, by omega, by go_num, Lib.hid (by rw [HK.out, HD.out, HE.out]; simp [eqMs, eqM]), Lib.hid (below_drewN HB.out _)⟩, by simp [intOf]; omega⟩
      · have hq' : eqM ⟨sn, part, fr, to⟩ ⟨sn', part', fr', to'⟩ = false := by simpa using hq
        have HZ := Lib.hid (show eqMs L M = false by rw [HK.out, HD.out, HE.out]; simp [eqMs, hq'])
        have hcase : (sn ≠ sn') ∨ (sn = sn' ∧ part ≠ part') ∨ (sn = sn' ∧ part = part' ∧ fr ≠ fr') ∨ (sn = sn' ∧ part = part' ∧ fr = fr' ∧ to ≠ to') := eqM_case hq
        clear hq hq' HK HD HE
        rcases hcase with h1 | ⟨rfl, h2⟩ | ⟨rfl, rfl, h3⟩ | ⟨rfl, rfl, rfl, h4⟩
        all_goals
          go_wp2_with fail
          go_quiet (fail)
          go_wp2
          go_ret
          exact ⟨ret_bool HZ.out.symm, below_drewN HWR.out _⟩
    · have hkn : k = n := by omega
      subst hkn
      go_wp2
      go_ret
      exact ⟨ret_bool (by rw [HK.out, List.drop_of_length_le (by rw [HL.out]; exact Nat.le_refl _), List.drop_of_length_le (by rw [HM.out]; exact Nat.le_refl _)]; rfl), HWR.out⟩
theorem rssame_any {A B : Option Addr} {L M : List MissM} (a b : Int) (n m c d : Nat) (w : World) (hL : L.length = n) (hM : M.length = m) (hn : n ≤ 9223372036854775807) (hs : MSrc w A L) (ht : MSrc w B M) :
    Calls Try.prog 58 #[.agg #[.int .i64 a, .slice A n c], .agg #[.int .i64 b, .slice B m d]] w fun e w' => e = .returned (.bool (eqS a L b M)) ∧ Below w.heap.size w w' := by
  unfold eqS
  by_cases h : a = b
  · subst h
    rw [show (a == a) = true by simp, Bool.true_and]
    by_cases h2 : n = m
    · subst h2
      exact rssame_loop a n c d w hL hM hn hs ht
    · rw [eqMs_len (by omega)]
      exact rssame_n a n m c d w h2
  · rw [show (a == b) = false by simpa using h]
    exact rssame_a a b n m c d w h
end Go.Proofs.Ytbdjgdkafbkdbaa
namespace Go.Proofs.Ytbdjgdkafbkdbaa
open Go.RowKit

def faultS (bs : List Nat) (x : Int) : Int := if okS x = false then 9 else if bs.length = 0 then 8 else if 128 ≤ bs.getD 0 0 then 4 else if 16 ≤ bs.getD 0 0 then 3 else 0
set_option maxRecDepth 100000 in
set_option maxHeartbeats 1600000 in
theorem sfault_any {A : Option Addr} {bs : List Nat} (x : Int) (n cap : Nat) (w : World) (hn : bs.length = n) (hs : Src w A (bts bs)) (hb : ∀ b ∈ bs, b < 256) :
    Calls Try.prog 112 #[.slice A n cap, .int .i64 x] w fun e w' => e = .returned (.int .i64 (faultS bs x)) ∧ w = w' := by
  have HM := Lib.hid (fun W => smay_any x W)
  cases hx : okS x
  · have HF := Lib.hid (show faultS bs x = 9 by unfold faultS; rw [if_pos hx])
    rw [hx] at HM
    clear hx hs hb hn
    go_enter Try.func112, Try.ntmps112
    go_wp2_with (go_at_call 96; refine (HM.out _).mono ?_; rintro e w1 ⟨rfl, rfl⟩)
    go_ret
    exact ⟨by rw [HF.out]; rfl, rfl⟩
  · rw [hx] at HM
    cases bs with
    | nil =>
      have HF := Lib.hid (show faultS [] x = 8 by unfold faultS; rw [hx]; rfl)
      simp only [List.length_nil] at hn
      subst hn
      clear hx hs hb
      go_enter Try.func112, Try.ntmps112
      go_wp2_with (go_at_call 96; refine (HM.out _).mono ?_; rintro e w1 ⟨rfl, rfl⟩)
      go_ret
      exact ⟨by rw [HF.out]; rfl, rfl⟩
    | cons b r =>
      have hb0 : b < 256 := hb b (List.mem_cons_self ..)
      obtain ⟨ad, rfl, hc⟩ := hs (by simp [bts])
      have c0 : w.cell? (ad.add 0) = some (.int .u8 b) := hc 0 _ rfl
      have hn0 : 0 < n := by simp at hn; omega
      have hne : (n == 0) = false := by simp; omega
      have hneI : ((n : Int) == 0) = false := by simp; omega
      have HFF := Lib.hid (show faultS (b :: r) x = if 128 ≤ b then 4 else if 16 ≤ b then 3 else 0 by unfold faultS; rw [hx]; simp)
      have e0 : ad.add 0 = ad := by simp [Addr.add]
      rw [e0] at c0
      clear hx hc hb hn e0
      by_cases h1 : 128 ≤ b
      · have g1 : ((b : Int) / 2 ^ 7 == 1) = true := by simp; omega
        rw [if_pos h1] at HFF
        go_enter Try.func112, Try.ntmps112
        go_wp2_with (go_at_call 96; refine (HM.out _).mono ?_; rintro e w1 ⟨rfl, rfl⟩)
        go_ret
        exact ⟨by rw [HFF.out]; rfl, rfl⟩
      · have g1 : ((b : Int) / 2 ^ 7 == 1) = false := by simp; omega
        rw [if_neg h1] at HFF
        by_cases h2 : 16 ≤ b
        · have g2 : ((b : Int) / 2 ^ 4 != 0) = true := by simp; omega
          rw [if_pos h2] at HFF
          go_enter Try.func112, Try.ntmps112
          go_wp2_with (go_at_call 96; refine (HM.out _).mono ?_; rintro e w1 ⟨rfl, rfl⟩)
          go_ret
          exact ⟨by rw [HFF.out]; rfl, rfl⟩
        · have g2 : ((b : Int) / 2 ^ 4 != 0) = false := by simp; omega
          rw [if_neg h2] at HFF
          go_enter Try.func112, Try.ntmps112
          go_wp2_with (go_at_call 96; refine (HM.out _).mono ?_; rintro e w1 ⟨rfl, rfl⟩)
          go_ret
          exact ⟨by rw [HFF.out]; rfl, rfl⟩
end Go.Proofs.Ytbdjgdkafbkdbaa
namespace Go.Proofs.Ytbdjgdkafbkdbaa
open Go.RowKit

/-- below B nothing has changed, and rows of other types than a writer's stay -/
def KeepW (B : Nat) (w v : World) : Prop := Below B w v ∧ w.heap.size ≤ v.heap.size ∧ ∀ (g : Nat) (t : TypeId) (cs : Array Value), t ≠ 5 → t ≠ 213 → Row w g t cs → Row v g t cs
section
variable {B : Nat} {w v u : World}
theorem KeepW.refl (B : Nat) (w : World) : KeepW B w w := ⟨Below.refl _ _, Nat.le_refl _, fun _ _ _ _ _ h => h⟩
theorem KeepW.trans (h : KeepW B w v) (k : KeepW B v u) : KeepW B w u := ⟨h.1.trans k.1, Nat.le_trans h.2.1 k.2.1, fun g t cs h1 h2 hr => k.2.2 g t cs h1 h2 (h.2.2 g t cs h1 h2 hr)⟩
theorem KeepW.of_below (h : Below w.heap.size w v) (hB : B ≤ w.heap.size) : KeepW B w v := ⟨h.mono hB, h.size, fun _ _ _ _ _ hr => hr.later h⟩
theorem KeepW.alloc (h : KeepW B w v) (hB : B ≤ w.heap.size) (o : Obj) : KeepW B w (v.alloc o) := h.trans (KeepW.of_below (bl_alloc (Below.refl _ _) o) (Nat.le_trans hB h.2.1))
theorem KeepW.row (h : KeepW B w v) {g : Nat} {t : TypeId} {cs : Array Value} (hr : Row w g t cs) (h1 : t ≠ 5) (h2 : t ≠ 213) : Row v g t cs := h.2.2 g t cs h1 h2 hr
end
theorem wrote_keep {B : Nat} {w v : World} {p : Nat} {sv : Value} {bl : List Bool} (hr : WRep B w p sv bl) (h : Only (fun k => k = p ∨ sv.ownBlock = some k) w v) : KeepW B w v := by
  refine ⟨wrote_below hr h, h.size, fun g t cs h1 h2 hg => hg.only h fun hS => ?_⟩
  rcases hS with hS | hS
  · exact hg.apart hr.2.1 h2 hS
  · exact own_apart hr.2.2 hg (Ne.symm h1) hS
def intsV (L : List Nat) : List Value := L.map fun v : Nat => .int .i64 v
theorem intsV_at {L : List Nat} {k v : Nat} (h : L[k]? = some v) : (intsV L).toArray[k]? = some (.int .i64 v) := by simp [intsV, h]
def putsN (L : List Nat) (n : Nat) : List (Nat × Nat) := L.map fun v => (v, n)
theorem putsN_take {L : List Nat} {k v n : Nat} (h : L[k]? = some v) : putsN (L.take (k + 1)) n = putsN (L.take k) n ++ [(v, n)] := by
  obtain ⟨h1, h2⟩ := List.getElem?_eq_some_iff.1 h
  unfold putsN
  rw [List.take_succ_eq_append_getElem h1, List.map_append, h2]
  rfl
theorem len_putsN (L : List Nat) (n : Nat) : (bitsP (putsN L n)).length = L.length * n := by
  induction L with
  | nil => simp [putsN, bitsP]
  | cons a t ih =>
    have e : bitsP (putsN (a :: t) n) = unval a n ++ bitsP (putsN t n) := rfl
    rw [e, List.length_append, length_unval, ih, List.length_cons, Nat.add_mul]
    omega
set_option maxRecDepth 100000 in
set_option maxHeartbeats 1600000 in
theorem sput_any {B p g : Nat} {kp : List (Nat × Nat)} {L : List Nat} (n ln cap : Nat) (w : World) (hr : ∃ sv, WRep B w p sv (bitsP kp)) (hg : Row w g 3 (intsV L).toArray) (hL : L.length = ln) (hln : ln ≤ 3) (hn : n ≤ 16) (hv : ∀ v ∈ L, v < 2 ^ n) (hl : (bitsP kp).length ≤ 60000) :
    Calls Try.prog 98 #[.pointer (some ⟨p, 0, none⟩), .int .i64 n, .slice (some ⟨g, 0, none⟩) ln cap] w fun e w' => e = .returned (.tuple #[]) ∧ (∃ sv, WRep B w' p sv (bitsP (kp ++ putsN L n))) ∧ KeepW B w w' := by
  have HR := Lib.hid hr
  have HG := Lib.hid hg
  have HL := Lib.hid hL
  have HV := Lib.hid hv
  have HLL := Lib.hid hl
  clear hr hg hL hv hl
  go_enter Try.func98, Try.ntmps98
  go_wp2
  go_loopw [10] (fun i wr => ∃ k : Nat, k ≤ ln ∧ i = .int .i64 k ∧ Hid ((∃ sv, WRep B wr p sv (bitsP (kp ++ putsN (L.take k) n))) ∧ KeepW B w wr)) (fun i _ => ln - (intOf i).toNat)
  case atStart => exact ⟨0, by omega, rfl, Lib.hid ⟨by simpa [putsN] using HR.out, KeepW.refl _ _⟩⟩
  case round =>
    obtain ⟨k, hk, rfl, HK⟩ := hrel
    by_cases hlt : k < ln
    · obtain ⟨v, hx⟩ : ∃ r, L[k]? = some r := ⟨_, List.getElem?_eq_getElem (by rw [HL.out]; exact hlt)⟩
      have RG := HK.out.2.row HG.out (by decide) (by decide)
      have c0 : wr.cell? ⟨g, k, none⟩ = some (.int .i64 v) := RG.read (intsV_at hx)
      have hv1 : v < 2 ^ n := HV.out v (List.mem_of_getElem? hx)
      have hv2 : v < 65536 := Nat.lt_of_lt_of_le hv1 (Nat.pow_le_pow_right (by decide) hn)
      obtain ⟨⟨sv, hw⟩, hkp⟩ := HK.out
      have hfit : (bitsP (kp ++ putsN (L.take k) n)).length + n ≤ 65536 := by
        have e : (L.take k).length = k := by rw [List.length_take, HL.out]; omega
        rw [bitsP_append, List.length_append, len_putsN, e]
        have h1 := HLL.out
        have h2 : k * n ≤ 3 * 16 := Nat.mul_le_mul (by omega) hn
        omega
      have HP := Lib.hid (put_any v n wr hw (by omega) hv1 hfit (by omega))
      have HW := Lib.hid hw
      have HKP := Lib.hid hkp
      have HX := Lib.hid (putsN_take (n := n) hx)
      have hwr : IntKind.u64.wrap (v : Int) = (v : Int) := by rw [IntKind.wrap_u64]; omega
      have hkI : (k : Int) < (ln : Int) := by omega
      clear hx RG hw hkp hfit hv1
      go_wp2_with (go_at_call 145; refine HP.out.mono ?_; rintro e w1 ⟨rfl, sv', h1, h2, h3⟩)
      go_roundw
      case rel => exact ⟨k + 1, by omega, by go_num, Lib.hid ⟨⟨sv', by rw [HX.out, ← List.append_assoc, bitsP_snoc]; exact h1⟩, HKP.out.trans (wrote_keep HW.out h3)⟩⟩
      case measure => simp [intOf]; omega
    · have hkn : k = ln := by omega
      subst hkn
      go_wp2
      refine bodyPost_end (results_none rfl _ _ _) rfl ?_
      have h := HK.out
      rw [List.take_of_length_le (by rw [HL.out]; exact Nat.le_refl _)] at h
      exact ⟨rfl, h⟩
end Go.Proofs.Ytbdjgdkafbkdbaa
