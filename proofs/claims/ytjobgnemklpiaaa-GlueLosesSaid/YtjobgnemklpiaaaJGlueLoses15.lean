/-
  status: its small calls: mayBe, placeBits, ones, bit, last, end. status: a miss: its value; may its From and To be?. status: which statuses may be. status: how many bytes a status has.
-/
import Derived.Test.YtjobgnemklpiaaaJGlueLoses01
import Derived.Test.YtjobgnemklpiaaaJGlueLoses02
import Derived.Test.YtjobgnemklpiaaaJGlueLoses12
import Derived.Test.YtjobgnemklpiaaaJGlueLoses05
namespace Go.Proofs.Ytjobgnemklpiaaa
open Go.RowKit

def okS (w : Int) : Bool := (w == 10) || (w == 16)
theorem okS_nat {w : Int} (h : okS w = true) : w = 10 ∨ w = 16 := by simpa [okS] using h
theorem okS_not {w : Int} (h : okS w = false) : w ≠ 10 ∧ w ≠ 16 := by simpa [okS] using h
/-- how many bits a place has -/
def pbF (w : Int) : Int := if w = 10 then 15 else 16
/-- a place whose bits are all ones -/
def onF (w : Int) : Int := if w = 10 then 32767 else 65535
set_option maxHeartbeats 400000 in
theorem smay_any (x : Int) (w : World) : Calls Try.prog 146 #[.int .i64 x] w fun e w' => e = .returned (.bool (okS x)) ∧ w = w' := by
  by_cases h1 : x = 10
  · subst h1
    go_enter Try.func146, Try.ntmps146
    go_wp2
    go_ret
    exact ⟨rfl, rfl⟩
  · by_cases h2 : x = 16
    · subst h2
      go_enter Try.func146, Try.ntmps146
      go_wp2
      go_ret
      exact ⟨rfl, rfl⟩
    · have h1' : (x == 10) = false := by simpa using h1
      have h2' : (x == 16) = false := by simpa using h2
      have HX := Lib.hid (show okS x = false by simp [okS, h1, h2])
      clear h1 h2
      go_enter Try.func146, Try.ntmps146
      go_wp2
      go_ret
      exact ⟨by rw [HX.out]; rfl, rfl⟩
set_option maxHeartbeats 400000 in
theorem splace_any (x : Int) (w : World) : Calls Try.prog 108 #[.int .i64 x] w fun e w' => e = .returned (.int .i64 (pbF x)) ∧ w = w' := by
  by_cases h1 : x = 10
  · subst h1
    go_enter Try.func108, Try.ntmps108
    go_wp2
    go_ret
    exact ⟨rfl, rfl⟩
  · have h1' : (x == 10) = false := by simpa using h1
    have HX := Lib.hid (show pbF x = 16 by simp [pbF, h1])
    clear h1
    go_enter Try.func108, Try.ntmps108
    go_wp2
    go_ret
    exact ⟨by rw [HX.out]; rfl, rfl⟩
set_option maxHeartbeats 400000 in
theorem sones_any (x : Int) (w : World) : Calls Try.prog 188 #[.int .i64 x] w fun e w' => e = .returned (.int .i64 (onF x)) ∧ w = w' := by
  have HP := Lib.hid (splace_any x w)
  by_cases h1 : x = 10
  · have HX := Lib.hid (show pbF x = 15 ∧ onF x = 32767 by simp [pbF, onF, h1])
    rw [HX.out.1] at HP
    rw [HX.out.2]
    clear h1
    go_enter Try.func188, Try.ntmps188
    go_wp2_with (go_at_call 108; refine HP.out.mono ?_; rintro e w1 ⟨rfl, rfl⟩)
    go_ret
    exact ⟨rfl, rfl⟩
  · have HX := Lib.hid (show pbF x = 16 ∧ onF x = 65535 by simp [pbF, onF, h1])
    rw [HX.out.1] at HP
    rw [HX.out.2]
    clear h1
    go_enter Try.func188, Try.ntmps188
    go_wp2_with (go_at_call 108; refine HP.out.mono ?_; rintro e w1 ⟨rfl, rfl⟩)
    go_ret
    exact ⟨rfl, rfl⟩
theorem sbit_any (b : Bool) (w : World) : Calls Try.prog 151 #[.bool b] w fun e w' => e = .returned (.int .i64 b.toNat) ∧ w = w' := by
  cases b
  · go_enter Try.func151, Try.ntmps151
    go_wp2
    go_ret
    exact ⟨rfl, rfl⟩
  · go_enter Try.func151, Try.ntmps151
    go_wp2
    go_ret
    exact ⟨rfl, rfl⟩
/-- the number that stands for a part's end -/
def lastF (to w : Int) : Int := if to = 0 then onF w else to - 1
/-- the end for which a number stands -/
def endF (l w : Int) : Int := if l = onF w then 0 else l + 1
set_option maxHeartbeats 400000 in
theorem slast_any (to x : Int) (w : World) (h0 : 0 ≤ to) (h1 : to ≤ 65535) : Calls Try.prog 189 #[.int .i64 to, .int .i64 x] w fun e w' => e = .returned (.int .i64 (lastF to x)) ∧ w = w' := by
  have HP := Lib.hid (sones_any x w)
  by_cases ht : to = 0
  · have HX := Lib.hid (show lastF to x = onF x by simp [lastF, ht])
    subst ht
    go_enter Try.func189, Try.ntmps189
    go_wp2_with (go_at_call 188; refine HP.out.mono ?_; rintro e w1 ⟨rfl, rfl⟩)
    go_ret
    exact ⟨by rw [HX.out]; rfl, rfl⟩
  · have HX := Lib.hid (show lastF to x = to - 1 by simp [lastF, ht])
    have ht' : (to == 0) = false := by simpa using ht
    clear ht
    go_enter Try.func189, Try.ntmps189
    go_wp2_with fail
    go_ret
    exact ⟨by rw [HX.out]; rfl, rfl⟩
set_option maxHeartbeats 400000 in
theorem send_any (l x : Int) (w : World) (h0 : 0 ≤ l) (h1 : l ≤ 65535) : Calls Try.prog 190 #[.int .i64 l, .int .i64 x] w fun e w' => e = .returned (.int .i64 (endF l x)) ∧ w = w' := by
  have HP := Lib.hid (sones_any x w)
  by_cases ht : l = onF x
  · have HX := Lib.hid (show endF l x = 0 by simp [endF, ht])
    have ht' : (l == onF x) = true := by simpa using ht
    generalize onF x = o at *
    clear ht
    go_enter Try.func190, Try.ntmps190
    go_wp2_with (go_at_call 188; refine HP.out.mono ?_; rintro e w1 ⟨rfl, rfl⟩)
    go_ret
    exact ⟨by rw [HX.out]; rfl, rfl⟩
  · have HX := Lib.hid (show endF l x = l + 1 by simp [endF, ht])
    have ht' : (l == onF x) = false := by simpa using ht
    generalize onF x = o at *
    clear ht
    go_enter Try.func190, Try.ntmps190
    go_wp2_with (go_at_call 188; refine HP.out.mono ?_; rintro e w1 ⟨rfl, rfl⟩)
    go_ret
    exact ⟨by rw [HX.out]; rfl, rfl⟩
end Go.Proofs.Ytjobgnemklpiaaa
namespace Go.Proofs.Ytjobgnemklpiaaa
open Go.RowKit

structure MissM where
  sn : Int
  part : Bool
  fr : Int
  to : Int
def MissM.v (m : MissM) : Value := .agg #[.int .i64 m.sn, .bool m.part, .int .i64 m.fr, .int .i64 m.to]
def placedB (m : MissM) (w : Int) : Bool :=
  if m.part then (if m.to = 0 then decide (0 ≤ m.fr) && decide (m.fr ≤ onF w) else decide (0 ≤ m.fr) && decide (m.fr < m.to) && decide (m.to ≤ onF w)) else (m.fr == 0) && (m.to == 0)
set_option maxHeartbeats 400000 in
theorem splaced_no (sn fr to x : Int) (w : World) : Calls Try.prog 148 #[.agg #[.int .i64 sn, .bool false, .int .i64 fr, .int .i64 to], .int .i64 x] w fun e w' => e = .returned (.bool ((fr == 0) && (to == 0))) ∧ Below w.heap.size w w' := by
  go_enter Try.func148, Try.ntmps148
  go_wp2
  all_goals
    go_ret
    exact ⟨ret_bool (by simp [*]), bl_alloc (Below.refl _ _) _⟩
set_option maxHeartbeats 800000 in
theorem splaced_e0 (sn fr x : Int) (w : World) (g0 : decide (0 ≤ fr) = false) : Calls Try.prog 148 #[.agg #[.int .i64 sn, .bool true, .int .i64 fr, .int .i64 0], .int .i64 x] w fun e w' => e = .returned (.bool false) ∧ Below w.heap.size w w' := by
  have HP := Lib.hid (fun W => sones_any x W)
  have HB0 := Lib.hid (bl_alloc (Below.refl w.heap.size w) (.cells #[.int .i64 sn, .bool true, .int .i64 fr, .int .i64 0] 83))
  generalize onF x = o at *
  go_enter Try.func148, Try.ntmps148
  go_wp2_with fail
  go_quiet ((go_at_call 188; exact Calls.quiet_of_same ((HP.out _).mono fun e w' h => ⟨h.1, h.2.symm⟩)))
  go_wp2
  go_ret
  exact ⟨rfl, below_drewN HB0.out _⟩
set_option maxHeartbeats 800000 in
theorem splaced_e1 (sn fr x : Int) (w : World) (g0 : decide (0 ≤ fr) = true) (g1 : decide (fr ≤ onF x) = true) : Calls Try.prog 148 #[.agg #[.int .i64 sn, .bool true, .int .i64 fr, .int .i64 0], .int .i64 x] w fun e w' => e = .returned (.bool true) ∧ Below w.heap.size w w' := by
  have HP := Lib.hid (fun W => sones_any x W)
  have HB0 := Lib.hid (bl_alloc (Below.refl w.heap.size w) (.cells #[.int .i64 sn, .bool true, .int .i64 fr, .int .i64 0] 83))
  generalize onF x = o at *
  go_enter Try.func148, Try.ntmps148
  go_wp2_with fail
  go_quiet ((go_at_call 188; exact Calls.quiet_of_same ((HP.out _).mono fun e w' h => ⟨h.1, h.2.symm⟩)))
  go_wp2
  go_ret
  exact ⟨rfl, below_drewN HB0.out _⟩
set_option maxHeartbeats 800000 in
theorem splaced_e2 (sn fr x : Int) (w : World) (g0 : decide (0 ≤ fr) = true) (g1 : decide (fr ≤ onF x) = false) : Calls Try.prog 148 #[.agg #[.int .i64 sn, .bool true, .int .i64 fr, .int .i64 0], .int .i64 x] w fun e w' => e = .returned (.bool false) ∧ Below w.heap.size w w' := by
  have HP := Lib.hid (fun W => sones_any x W)
  have HB0 := Lib.hid (bl_alloc (Below.refl w.heap.size w) (.cells #[.int .i64 sn, .bool true, .int .i64 fr, .int .i64 0] 83))
  generalize onF x = o at *
  go_enter Try.func148, Try.ntmps148
  go_wp2_with fail
  go_quiet ((go_at_call 188; exact Calls.quiet_of_same ((HP.out _).mono fun e w' h => ⟨h.1, h.2.symm⟩)))
  go_wp2
  go_ret
  exact ⟨rfl, below_drewN HB0.out _⟩
set_option maxHeartbeats 800000 in
theorem splaced_m0 (sn fr to x : Int) (w : World) (hz : (to == 0) = false) (g0 : decide (0 ≤ fr) = false) : Calls Try.prog 148 #[.agg #[.int .i64 sn, .bool true, .int .i64 fr, .int .i64 to], .int .i64 x] w fun e w' => e = .returned (.bool false) ∧ Below w.heap.size w w' := by
  have HP := Lib.hid (fun W => sones_any x W)
  have HB0 := Lib.hid (bl_alloc (Below.refl w.heap.size w) (.cells #[.int .i64 sn, .bool true, .int .i64 fr, .int .i64 to] 83))
  generalize onF x = o at *
  go_enter Try.func148, Try.ntmps148
  go_wp2_with fail
  go_quiet ((go_at_call 188; exact Calls.quiet_of_same ((HP.out _).mono fun e w' h => ⟨h.1, h.2.symm⟩)))
  go_wp2
  go_ret
  exact ⟨rfl, below_drewN HB0.out _⟩
set_option maxHeartbeats 800000 in
theorem splaced_m1 (sn fr to x : Int) (w : World) (hz : (to == 0) = false) (g0 : decide (0 ≤ fr) = true) (g1 : decide (fr < to) = false) : Calls Try.prog 148 #[.agg #[.int .i64 sn, .bool true, .int .i64 fr, .int .i64 to], .int .i64 x] w fun e w' => e = .returned (.bool false) ∧ Below w.heap.size w w' := by
  have HP := Lib.hid (fun W => sones_any x W)
  have HB0 := Lib.hid (bl_alloc (Below.refl w.heap.size w) (.cells #[.int .i64 sn, .bool true, .int .i64 fr, .int .i64 to] 83))
  generalize onF x = o at *
  go_enter Try.func148, Try.ntmps148
  go_wp2_with fail
  go_quiet ((go_at_call 188; exact Calls.quiet_of_same ((HP.out _).mono fun e w' h => ⟨h.1, h.2.symm⟩)))
  go_wp2
  go_ret
  exact ⟨rfl, below_drewN HB0.out _⟩
set_option maxHeartbeats 800000 in
theorem splaced_m2 (sn fr to x : Int) (w : World) (hz : (to == 0) = false) (g0 : decide (0 ≤ fr) = true) (g1 : decide (fr < to) = true) (g2 : decide (to ≤ onF x) = true) : Calls Try.prog 148 #[.agg #[.int .i64 sn, .bool true, .int .i64 fr, .int .i64 to], .int .i64 x] w fun e w' => e = .returned (.bool true) ∧ Below w.heap.size w w' := by
  have HP := Lib.hid (fun W => sones_any x W)
  have HB0 := Lib.hid (bl_alloc (Below.refl w.heap.size w) (.cells #[.int .i64 sn, .bool true, .int .i64 fr, .int .i64 to] 83))
  generalize onF x = o at *
  go_enter Try.func148, Try.ntmps148
  go_wp2_with fail
  go_quiet ((go_at_call 188; exact Calls.quiet_of_same ((HP.out _).mono fun e w' h => ⟨h.1, h.2.symm⟩)))
  go_wp2
  go_ret
  exact ⟨rfl, below_drewN HB0.out _⟩
set_option maxHeartbeats 800000 in
theorem splaced_m3 (sn fr to x : Int) (w : World) (hz : (to == 0) = false) (g0 : decide (0 ≤ fr) = true) (g1 : decide (fr < to) = true) (g2 : decide (to ≤ onF x) = false) : Calls Try.prog 148 #[.agg #[.int .i64 sn, .bool true, .int .i64 fr, .int .i64 to], .int .i64 x] w fun e w' => e = .returned (.bool false) ∧ Below w.heap.size w w' := by
  have HP := Lib.hid (fun W => sones_any x W)
  have HB0 := Lib.hid (bl_alloc (Below.refl w.heap.size w) (.cells #[.int .i64 sn, .bool true, .int .i64 fr, .int .i64 to] 83))
  generalize onF x = o at *
  go_enter Try.func148, Try.ntmps148
  go_wp2_with fail
  go_quiet ((go_at_call 188; exact Calls.quiet_of_same ((HP.out _).mono fun e w' h => ⟨h.1, h.2.symm⟩)))
  go_wp2
  go_ret
  exact ⟨rfl, below_drewN HB0.out _⟩
theorem splaced_any (m : MissM) (x : Int) (w : World) : Calls Try.prog 148 #[m.v, .int .i64 x] w fun e w' => e = .returned (.bool (placedB m x)) ∧ Below w.heap.size w w' := by
  obtain ⟨sn, part, fr, to⟩ := m
  unfold MissM.v placedB
  cases part
  · exact splaced_no sn fr to x w
  · simp only [if_true]
    by_cases hz : to = 0
    · subst hz
      simp only [if_true]
      cases g0 : decide (0 ≤ fr)
      · exact splaced_e0 sn fr x w g0
      · cases g1 : decide (fr ≤ onF x)
        · exact splaced_e2 sn fr x w g0 g1
        · exact splaced_e1 sn fr x w g0 g1
    · rw [if_neg hz]
      have hz' : (to == 0) = false := by simpa using hz
      cases g0 : decide (0 ≤ fr)
      · exact splaced_m0 sn fr to x w hz' g0
      · cases g1 : decide (fr < to)
        · exact splaced_m1 sn fr to x w hz' g0 g1
        · cases g2 : decide (to ≤ onF x)
          · exact splaced_m3 sn fr to x w hz' g0 g1 g2
          · exact splaced_m2 sn fr to x w hz' g0 g1 g2
end Go.Proofs.Ytjobgnemklpiaaa
namespace Go.Proofs.Ytjobgnemklpiaaa
open Go.RowKit

def MSrc (W : World) (A : Option Addr) (L : List MissM) : Prop :=
  0 < L.length → ∃ b o, A = some ⟨b, o, none⟩ ∧ ∀ (k : Nat) (m : MissM), L[k]? = some m → W.cell? ⟨b, o + k * 4, none⟩ = some (.int .i64 m.sn) ∧ W.cell? ⟨b, o + k * 4 + 1, none⟩ = some (.bool m.part) ∧ W.cell? ⟨b, o + k * 4 + 2, none⟩ = some (.int .i64 m.fr) ∧ W.cell? ⟨b, o + k * 4 + 3, none⟩ = some (.int .i64 m.to)
theorem MSrc.later {w v : World} {A : Option Addr} {L : List MissM} (h : MSrc w A L) (hb : Below w.heap.size w v) : MSrc v A L := fun h0 => by
  obtain ⟨b, o, h1, h2⟩ := h h0
  exact ⟨b, o, h1, fun k m hm => by
    obtain ⟨a, b, c, d⟩ := h2 k m hm
    exact ⟨cell_below hb a, cell_below hb b, cell_below hb c, cell_below hb d⟩⟩
theorem row_second {w w2 : World} {o : Obj} {t : TypeId} {cs : Array Value} (hb : Below ((w.alloc o).alloc (.cells cs t)).heap.size ((w.alloc o).alloc (.cells cs t)) w2) : Row w2 (w.heap.size + 1) t cs := by
  have h := Row.made (w.alloc o) t cs
  rw [show (w.alloc o).heap.size = w.heap.size + 1 by simp] at h
  exact h.later hb
def missB (x : Int) (m : MissM) : Bool := okn x m.sn && placedB m x
def rightB (ack : Int) (L : List MissM) (x : Int) : Bool := okS x && okn x ack && decide (L.length ≤ 32) && L.all (missB x)
set_option maxRecDepth 100000 in
set_option maxHeartbeats 1600000 in
theorem sright_loop {A : Option Addr} {L : List MissM} (ack x : Int) (n cap : Nat) (w : World) (hL : L.length = n) (hn : n ≤ 32) (hs : MSrc w A L) (hx : okS x = true) (ha : okn x ack = true) :
    Calls Try.prog 107 #[.agg #[.int .i64 ack, .slice A n cap], .int .i64 x] w fun e w' => e = .returned (.bool (L.all (missB x))) ∧ Below w.heap.size w w' := by
  have HM := Lib.hid (fun W => smay_any x W)
  rw [hx] at HM
  have HA := Lib.hid (fun W => sqis_any x ack W)
  rw [ha] at HA
  have HS := Lib.hid hs
  have HL := Lib.hid hL
  have hn' : ¬ (32 : Int) < n := by omega
  clear hs hL hx ha
  go_enter Try.func107, Try.ntmps107
  go_wp2_with (first
    | (go_at_call 146; refine (HM.out _).mono ?_; rintro e w1 ⟨rfl, rfl⟩)
    | (go_at_call 147; refine (HA.out _).mono ?_; rintro e w2 ⟨rfl, hb2⟩; (have R2 := ((Row.made w 81 #[.int .i64 ack, .slice A n cap]).more (.cells #[.int .i64 x] 202)).later hb2; have c1 := R2.read (i := 1) rfl; have R3 := row_second hb2)))
  have HB2 := Lib.hid (show Below w.heap.size w w2 from bl_step (bl_alloc (bl_alloc (Below.refl _ _) _) _) hb2)
  have R2' := Lib.hid R2
  have R3' := Lib.hid R3
  clear R2 R3 hb2 c1
  go_loopw [29] (fun i wr => ∃ k : Nat, k ≤ n ∧ i = .int .i64 k ∧ Hid (L.all (missB x) = (L.drop k).all (missB x)) ∧ Hid (Below w2.heap.size w2 wr)) (fun i _ => n - (intOf i).toNat)
  case atStart => exact ⟨0, by omega, rfl, Lib.hid (by simp), Lib.hid (Below.refl _ _)⟩
  case round =>
    obtain ⟨k, hk, rfl, HK, HB⟩ := hrel
    by_cases hlt : k < n
    · obtain ⟨ab, ao, rfl, hc⟩ := HS.out (by rw [HL.out]; omega)
      obtain ⟨⟨sn, part, fr, to⟩, hr⟩ : ∃ r, L[k]? = some r := ⟨_, List.getElem?_eq_getElem (by rw [HL.out]; exact hlt)⟩
      obtain ⟨e0, e1, e2, e3⟩ := hc k _ hr
      have HWR := Lib.hid (bl_step HB2.out HB.out)
      have f0 := cell_below HWR.out e0
      have f1 := cell_below HWR.out e1
      have f2 := cell_below HWR.out e2
      have f3 := cell_below HWR.out e3
      have RX := Lib.hid (R3'.out.later HB.out)
      have cx := RX.out.read (i := 0) rfl
      have HD := Lib.hid (show L.drop k = ⟨sn, part, fr, to⟩ :: L.drop (k + 1) by
        obtain ⟨h1, h2⟩ := List.getElem?_eq_some_iff.1 hr
        rw [List.drop_eq_getElem_cons h1, h2])
      have HI := Lib.hid (fun W => sqis_any x sn W)
      have HP := Lib.hid (fun W => splaced_any ⟨sn, part, fr, to⟩ x W)
      have hkI : (k : Int) < (n : Int) := by omega
      clear hc hr e0 e1 e2 e3
      simp only [MissM.v] at HP f0 f1 f2 f3
      have cx1 := (RX.out.more (.cells #[.int .i64 sn, .bool part, .int .i64 fr, .int .i64 to] 83)).read (i := 0) rfl
      have RM := Lib.hid (Row.made wr 83 #[.int .i64 sn, .bool part, .int .i64 fr, .int .i64 to])
      have m0 := RM.out.read (i := 0) rfl
      have HWA := Lib.hid (bl_alloc HWR.out (.cells #[.int .i64 sn, .bool part, .int .i64 fr, .int .i64 to] 83))
      cases hi : okn x sn
      · rw [hi] at HI
        go_wp2_with (go_at_call 147; refine (HI.out _).mono ?_; rintro e w4 ⟨rfl, hb4⟩)
        go_ret
        exact ⟨ret_bool (by rw [HK.out, HD.out]; simp [missB, hi]), bl_step HWA.out hb4⟩
      · rw [hi] at HI
        cases hp : placedB ⟨sn, part, fr, to⟩ x
        · rw [hp] at HP
          go_wp2_with (first
            | (go_at_call 147; refine (HI.out _).mono ?_; rintro e w4 ⟨rfl, hb4⟩; (have R4 := RM.out.later hb4; have r0 := R4.read (i := 0) rfl; have r1 := R4.read (i := 1) rfl; have r2 := R4.read (i := 2) rfl; have r3 := R4.read (i := 3) rfl))
            | (go_at_call 148; refine (HP.out _).mono ?_; rintro e w5 ⟨rfl, hb5⟩))
          go_ret
          exact ⟨ret_bool (by rw [HK.out, HD.out]; simp [missB, hi, hp]), bl_step (bl_step HWA.out hb4) hb5⟩
        · rw [hp] at HP
          go_wp2_with (first
            | (go_at_call 147; refine (HI.out _).mono ?_; rintro e w4 ⟨rfl, hb4⟩; (have R4 := RM.out.later hb4; have r0 := R4.read (i := 0) rfl; have r1 := R4.read (i := 1) rfl; have r2 := R4.read (i := 2) rfl; have r3 := R4.read (i := 3) rfl))
            | (go_at_call 148; refine (HP.out _).mono ?_; rintro e w5 ⟨rfl, hb5⟩))
          go_roundw
          case rel => exact ⟨k + 1, by omega, by go_num, Lib.hid (by rw [HK.out, HD.out]; simp [missB, hi, hp]), Lib.hid (bl_step (bl_step (bl_alloc HB.out _) hb4) hb5)⟩
          case measure => simp [intOf]; omega
    · have hkn : k = n := by omega
      subst hkn
      go_wp2
      go_ret
      exact ⟨ret_bool (by rw [HK.out, List.drop_of_length_le (by rw [HL.out]; exact Nat.le_refl _)]; rfl), bl_step HB2.out HB.out⟩
set_option maxRecDepth 100000 in
set_option maxHeartbeats 800000 in
theorem sright_no0 {A : Option Addr} (ack x : Int) (n cap : Nat) (w : World) (hx : okS x = false) :
    Calls Try.prog 107 #[.agg #[.int .i64 ack, .slice A n cap], .int .i64 x] w fun e w' => e = .returned (.bool false) ∧ Below w.heap.size w w' := by
  have HM := Lib.hid (fun W => smay_any x W)
  rw [hx] at HM
  clear hx
  go_enter Try.func107, Try.ntmps107
  go_wp2_with (go_at_call 146; refine (HM.out _).mono ?_; rintro e w1 ⟨rfl, rfl⟩)
  go_ret
  exact ⟨rfl, bl_alloc (bl_alloc (Below.refl _ _) _) _⟩
set_option maxRecDepth 100000 in
set_option maxHeartbeats 800000 in
theorem sright_no1 {A : Option Addr} (ack x : Int) (n cap : Nat) (w : World) (hx : okS x = true) (ha : okn x ack = false) :
    Calls Try.prog 107 #[.agg #[.int .i64 ack, .slice A n cap], .int .i64 x] w fun e w' => e = .returned (.bool false) ∧ Below w.heap.size w w' := by
  have HM := Lib.hid (fun W => smay_any x W)
  rw [hx] at HM
  have HA := Lib.hid (fun W => sqis_any x ack W)
  rw [ha] at HA
  clear hx ha
  go_enter Try.func107, Try.ntmps107
  go_wp2_with (first
    | (go_at_call 146; refine (HM.out _).mono ?_; rintro e w1 ⟨rfl, rfl⟩)
    | (go_at_call 147; refine (HA.out _).mono ?_; rintro e w2 ⟨rfl, hb2⟩))
  go_ret
  exact ⟨rfl, bl_step (bl_alloc (bl_alloc (Below.refl _ _) _) _) hb2⟩
set_option maxRecDepth 100000 in
set_option maxHeartbeats 800000 in
theorem sright_no2 {A : Option Addr} (ack x : Int) (n cap : Nat) (w : World) (hx : okS x = true) (ha : okn x ack = true) (hn : 32 < n) (hn9 : n ≤ 9223372036854775807) :
    Calls Try.prog 107 #[.agg #[.int .i64 ack, .slice A n cap], .int .i64 x] w fun e w' => e = .returned (.bool false) ∧ Below w.heap.size w w' := by
  have HM := Lib.hid (fun W => smay_any x W)
  rw [hx] at HM
  have HA := Lib.hid (fun W => sqis_any x ack W)
  rw [ha] at HA
  have hn' : (32 : Int) < n := by omega
  clear hx ha
  go_enter Try.func107, Try.ntmps107
  go_wp2_with (first
    | (go_at_call 146; refine (HM.out _).mono ?_; rintro e w1 ⟨rfl, rfl⟩)
    | (go_at_call 147; refine (HA.out _).mono ?_; rintro e w2 ⟨rfl, hb2⟩; (have R2 := ((Row.made w 81 #[.int .i64 ack, .slice A n cap]).more (.cells #[.int .i64 x] 202)).later hb2; have c1 := R2.read (i := 1) rfl)))
  go_ret
  exact ⟨rfl, bl_step (bl_alloc (bl_alloc (Below.refl _ _) _) _) hb2⟩
theorem sright_any {A : Option Addr} {L : List MissM} (ack x : Int) (n cap : Nat) (w : World) (hL : L.length = n) (hn : n ≤ 9223372036854775807) (hs : MSrc w A L) :
    Calls Try.prog 107 #[.agg #[.int .i64 ack, .slice A n cap], .int .i64 x] w fun e w' => e = .returned (.bool (rightB ack L x)) ∧ Below w.heap.size w w' := by
  unfold rightB
  cases hx : okS x
  · exact sright_no0 ack x n cap w hx
  · cases ha : okn x ack
    · exact sright_no1 ack x n cap w hx ha
    · rw [hL]
      by_cases h : n ≤ 32
      · rw [decide_eq_true h]
        exact sright_loop ack x n cap w hL h hs hx ha
      · rw [decide_eq_false h]
        exact sright_no2 ack x n cap w hx ha (by omega) hn
end Go.Proofs.Ytjobgnemklpiaaa
namespace Go.Proofs.Ytjobgnemklpiaaa
open Go.RowKit

def missBits (x : Int) (m : MissM) : Int := x + 2 + (if m.part then 2 * pbF x else 0)
def bitsS (x : Int) (L : List MissM) : Int := (L.map (missBits x)).sum
def statusF (ack : Int) (L : List MissM) (x : Int) : Int := if rightB ack L x then (4 + x + 1 + bitsS x L + 7) / 8 else 0
theorem missBits_bd {x : Int} (hx : okS x = true) (m : MissM) : 0 ≤ missBits x m ∧ missBits x m ≤ 50 := by
  unfold missBits pbF
  rcases okS_nat hx with rfl | rfl
  · cases m.part <;> simp
  · cases m.part <;> simp
theorem bitsS_take {x : Int} {L : List MissM} {k : Nat} {m : MissM} (h : L[k]? = some m) : bitsS x (L.take (k + 1)) = bitsS x (L.take k) + missBits x m := by
  obtain ⟨h1, h2⟩ := List.getElem?_eq_some_iff.1 h
  unfold bitsS
  rw [List.take_succ_eq_append_getElem h1, List.map_append, List.sum_append, h2]
  simp
theorem bitsS_bd {x : Int} (hx : okS x = true) (L : List MissM) : 0 ≤ bitsS x L ∧ bitsS x L ≤ 50 * L.length := by
  induction L with
  | nil => simp [bitsS]
  | cons m t ih =>
    have h := missBits_bd hx m
    have e : bitsS x (m :: t) = missBits x m + bitsS x t := by simp [bitsS]
    rw [e, List.length_cons]
    omega
set_option maxRecDepth 100000 in
set_option maxHeartbeats 1600000 in
theorem ssize_no {A : Option Addr} {L : List MissM} (ack x : Int) (n cap : Nat) (w : World) (hL : L.length = n) (hn : n ≤ 9223372036854775807) (hs : MSrc w A L) (hr : rightB ack L x = false) :
    Calls Try.prog 51 #[.agg #[.int .i64 ack, .slice A n cap], .int .i64 x] w fun e w' => e = .returned (.int .i64 0) ∧ Below w.heap.size w w' := by
  have HR := Lib.hid (fun W hb => sright_any ack x n cap W hL hn (hs.later (v := W) hb))
  rw [hr] at HR
  clear hs hL hr
  go_enter Try.func51, Try.ntmps51
  go_wp2_with (go_at_call 107; refine (HR.out _ (bl_alloc (Below.refl _ _) _)).mono ?_; rintro e w1 ⟨rfl, hb1⟩)
  go_ret
  exact ⟨rfl, bl_step (bl_alloc (Below.refl _ _) _) hb1⟩
set_option maxRecDepth 100000 in
set_option maxHeartbeats 1600000 in
theorem ssize_yes {A : Option Addr} {L : List MissM} (ack x : Int) (n cap : Nat) (w : World) (hL : L.length = n) (hn : n ≤ 32) (hs : MSrc w A L) (hr : rightB ack L x = true) (hx : okS x = true) :
    Calls Try.prog 51 #[.agg #[.int .i64 ack, .slice A n cap], .int .i64 x] w fun e w' => e = .returned (.int .i64 ((4 + x + 1 + bitsS x L + 7) / 8)) ∧ Below w.heap.size w w' := by
  have HR := Lib.hid (fun W hb => sright_any ack x n cap W hL (by omega) (hs.later (v := W) hb))
  rw [hr] at HR
  have HPB := Lib.hid (fun W => splace_any x W)
  have HS := Lib.hid hs
  have HL := Lib.hid hL
  have HX := Lib.hid hx
  have hxb : x = 10 ∨ x = 16 := okS_nat hx
  have hx0 : 10 ≤ x := by omega
  have hx1 : x ≤ 16 := by omega
  have HPV := Lib.hid (show 15 ≤ pbF x ∧ pbF x ≤ 16 by unfold pbF; split <;> omega)
  have hpb := HPV.out
  have HMB := Lib.hid (fun (m : MissM) (p : Int) (hp : pbF x = p) => show missBits x m = x + 2 + (if m.part then 2 * p else 0) by rw [← hp]; rfl)
  clear hs hL hr hx hxb
  generalize hpe : pbF x = p at *
  go_enter Try.func51, Try.ntmps51
  go_wp2_with (go_at_call 107; refine (HR.out _ (bl_alloc (Below.refl _ _) _)).mono ?_; rintro e w2 ⟨rfl, hb2⟩; (have R2 := (Row.made w 81 #[.int .i64 ack, .slice A n cap]).later hb2; have c1 := R2.read (i := 1) rfl))
  have HB2 := Lib.hid (show Below w.heap.size w w2 from bl_step (bl_alloc (Below.refl _ _) _) hb2)
  clear R2 hb2 c1
  go_loopw [5, 18] (fun s i wr => ∃ (k : Nat) (q : Int), k ≤ n ∧ i = .int .i64 k ∧ s = .int .i64 q ∧ 0 ≤ q ∧ q ≤ 21 + 50 * k ∧ Hid (q = 4 + x + 1 + bitsS x (L.take k)) ∧ Hid (Below w2.heap.size w2 wr)) (fun _ i _ => n - (intOf i).toNat)
  case atStart => exact ⟨0, 4 + x + 1, by omega, rfl, rfl, by omega, by omega, Lib.hid (by simp [bitsS]), Lib.hid (Below.refl _ _)⟩
  case round =>
    obtain ⟨k, q, hk, rfl, rfl, hq0, hq1, HQ, HB⟩ := hrel
    by_cases hlt : k < n
    · obtain ⟨ab, ao, rfl, hc⟩ := HS.out (by rw [HL.out]; omega)
      obtain ⟨⟨sn, part, fr, to⟩, hr⟩ : ∃ r, L[k]? = some r := ⟨_, List.getElem?_eq_getElem (by rw [HL.out]; exact hlt)⟩
      obtain ⟨e0, e1, e2, e3⟩ := hc k _ hr
      have HWR := Lib.hid (bl_step HB2.out HB.out)
      have f0 := cell_below HWR.out e0
      have f1 := cell_below HWR.out e1
      have f2 := cell_below HWR.out e2
      have f3 := cell_below HWR.out e3
      have HT := Lib.hid ((bitsS_take (x := x) hr).trans (by rw [HMB.out _ p rfl]))
      have hkI : (k : Int) < (n : Int) := by omega
      clear hc hr e0 e1 e2 e3
      simp only at f0 f1 f2 f3
      have RM := Lib.hid (Row.made wr 83 #[.int .i64 sn, .bool part, .int .i64 fr, .int .i64 to])
      have m1 := RM.out.read (i := 1) rfl
      cases part
      · go_wp2
        go_roundw
        case rel => exact ⟨k + 1, q + (x + 2), by omega, by go_num, by go_num, by omega, by omega, Lib.hid (by rw [HT.out, HQ.out]; simp; omega), Lib.hid (bl_alloc HB.out _)⟩
        case measure => simp [intOf]; omega
      · go_wp2_with (go_at_call 108; refine (HPB.out _).mono ?_; rintro e w4 ⟨rfl, rfl⟩)
        go_roundw
        case rel => exact ⟨k + 1, q + (x + 2) + 2 * p, by omega, by go_num, by go_num, by omega, by omega, Lib.hid (by rw [HT.out, HQ.out]; simp; omega), Lib.hid (bl_alloc HB.out _)⟩
        case measure => simp [intOf]; omega
    · have hkn : k = n := by omega
      subst hkn
      go_wp2
      go_ret
      refine ⟨?_, bl_step HB2.out HB.out⟩
      have e := HQ.out
      rw [List.take_of_length_le (by rw [HL.out]; exact Nat.le_refl _)] at e
      rw [← e]
      rfl
theorem ssize_any {A : Option Addr} {L : List MissM} (ack x : Int) (n cap : Nat) (w : World) (hL : L.length = n) (hn : n ≤ 9223372036854775807) (hs : MSrc w A L) :
    Calls Try.prog 51 #[.agg #[.int .i64 ack, .slice A n cap], .int .i64 x] w fun e w' => e = .returned (.int .i64 (statusF ack L x)) ∧ Below w.heap.size w w' := by
  unfold statusF
  cases hr : rightB ack L x
  · exact ssize_no ack x n cap w hL hn hs hr
  · rw [if_pos rfl]
    have h := hr
    unfold rightB at h
    simp only [Bool.and_eq_true, decide_eq_true_eq] at h
    exact ssize_yes ack x n cap w hL (by omega) hs hr h.1.1.1
end Go.Proofs.Ytjobgnemklpiaaa
