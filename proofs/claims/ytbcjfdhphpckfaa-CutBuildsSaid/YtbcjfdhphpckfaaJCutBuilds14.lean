/-
  status: a miss: its value; may its From and To be?. status: which statuses may be. status: how many bytes a status has. status: a status as bits, there and back: plain lists. status: numbers are got, one behind the other; what tells that bytes are a status. status: the document's miss: may it be?. status: the document's Right. status: are lists of misses equal?. status: are statuses equal? the code's and the document's.
-/
import Derived.Test.YtbcjfdhphpckfaaJCutBuilds13
import Derived.Test.YtbcjfdhphpckfaaJCutBuilds09
import Derived.Test.YtbcjfdhphpckfaaJCutBuilds06
import Derived.Test.YtbcjfdhphpckfaaJCutBuilds07
import Derived.Deep.RegionHeld3
namespace Go.Proofs.Ytbcjfdhphpckfaa
open Go.RowKit

structure MissM where
  sn : Int
  part : Bool
  fr : Int
  to : Int
def MissM.v (m : MissM) : Value := .agg #[.int .i64 m.sn, .bool m.part, .int .i64 m.fr, .int .i64 m.to]
def placedB (m : MissM) (w : Int) : Bool :=
  if m.part then (if m.to = 0 then decide (0 ≤ m.fr) && decide (m.fr ≤ onF w) else decide (0 ≤ m.fr) && decide (m.fr < m.to) && decide (m.to ≤ onF w)) else (m.fr == 0) && (m.to == 0)
set_option maxHeartbeats 400000 in
theorem splaced_no (sn fr to x : Int) (w : World) : Calls Try.prog 238 #[.agg #[.int .i64 sn, .bool false, .int .i64 fr, .int .i64 to], .int .i64 x] w fun e w' => e = .returned (.bool ((fr == 0) && (to == 0))) ∧ Below w.heap.size w w' := by
  go_enter Try.func238, Try.ntmps238
  go_wp2
  all_goals
    go_ret
    exact ⟨ret_bool (by simp [*]), bl_alloc (Below.refl _ _) _⟩
set_option maxHeartbeats 800000 in
theorem splaced_e0 (sn fr x : Int) (w : World) (g0 : decide (0 ≤ fr) = false) : Calls Try.prog 238 #[.agg #[.int .i64 sn, .bool true, .int .i64 fr, .int .i64 0], .int .i64 x] w fun e w' => e = .returned (.bool false) ∧ Below w.heap.size w w' := by
  have HP := Lib.hid (fun W => sones_any x W)
  have HB0 := Lib.hid (bl_alloc (Below.refl w.heap.size w) (.cells #[.int .i64 sn, .bool true, .int .i64 fr, .int .i64 0] 311))
  generalize onF x = o at *
  go_enter Try.func238, Try.ntmps238
  go_wp2_with fail
  go_quiet ((go_at_call 270; exact Calls.quiet_of_same ((HP.out _).mono fun e w' h => ⟨h.1, h.2.symm⟩)))
  go_wp2
  go_ret
  exact ⟨rfl, below_drewN HB0.out _⟩
set_option maxHeartbeats 800000 in
theorem splaced_e1 (sn fr x : Int) (w : World) (g0 : decide (0 ≤ fr) = true) (g1 : decide (fr ≤ onF x) = true) : Calls Try.prog 238 #[.agg #[.int .i64 sn, .bool true, .int .i64 fr, .int .i64 0], .int .i64 x] w fun e w' => e = .returned (.bool true) ∧ Below w.heap.size w w' := by
  have HP := Lib.hid (fun W => sones_any x W)
  have HB0 := Lib.hid (bl_alloc (Below.refl w.heap.size w) (.cells #[.int .i64 sn, .bool true, .int .i64 fr, .int .i64 0] 311))
  generalize onF x = o at *
  go_enter Try.func238, Try.ntmps238
  go_wp2_with fail
  go_quiet ((go_at_call 270; exact Calls.quiet_of_same ((HP.out _).mono fun e w' h => ⟨h.1, h.2.symm⟩)))
  go_wp2
  go_ret
  exact ⟨rfl, below_drewN HB0.out _⟩
set_option maxHeartbeats 800000 in
theorem splaced_e2 (sn fr x : Int) (w : World) (g0 : decide (0 ≤ fr) = true) (g1 : decide (fr ≤ onF x) = false) : Calls Try.prog 238 #[.agg #[.int .i64 sn, .bool true, .int .i64 fr, .int .i64 0], .int .i64 x] w fun e w' => e = .returned (.bool false) ∧ Below w.heap.size w w' := by
  have HP := Lib.hid (fun W => sones_any x W)
  have HB0 := Lib.hid (bl_alloc (Below.refl w.heap.size w) (.cells #[.int .i64 sn, .bool true, .int .i64 fr, .int .i64 0] 311))
  generalize onF x = o at *
  go_enter Try.func238, Try.ntmps238
  go_wp2_with fail
  go_quiet ((go_at_call 270; exact Calls.quiet_of_same ((HP.out _).mono fun e w' h => ⟨h.1, h.2.symm⟩)))
  go_wp2
  go_ret
  exact ⟨rfl, below_drewN HB0.out _⟩
set_option maxHeartbeats 800000 in
theorem splaced_m0 (sn fr to x : Int) (w : World) (hz : (to == 0) = false) (g0 : decide (0 ≤ fr) = false) : Calls Try.prog 238 #[.agg #[.int .i64 sn, .bool true, .int .i64 fr, .int .i64 to], .int .i64 x] w fun e w' => e = .returned (.bool false) ∧ Below w.heap.size w w' := by
  have HP := Lib.hid (fun W => sones_any x W)
  have HB0 := Lib.hid (bl_alloc (Below.refl w.heap.size w) (.cells #[.int .i64 sn, .bool true, .int .i64 fr, .int .i64 to] 311))
  generalize onF x = o at *
  go_enter Try.func238, Try.ntmps238
  go_wp2_with fail
  go_quiet ((go_at_call 270; exact Calls.quiet_of_same ((HP.out _).mono fun e w' h => ⟨h.1, h.2.symm⟩)))
  go_wp2
  go_ret
  exact ⟨rfl, below_drewN HB0.out _⟩
set_option maxHeartbeats 800000 in
theorem splaced_m1 (sn fr to x : Int) (w : World) (hz : (to == 0) = false) (g0 : decide (0 ≤ fr) = true) (g1 : decide (fr < to) = false) : Calls Try.prog 238 #[.agg #[.int .i64 sn, .bool true, .int .i64 fr, .int .i64 to], .int .i64 x] w fun e w' => e = .returned (.bool false) ∧ Below w.heap.size w w' := by
  have HP := Lib.hid (fun W => sones_any x W)
  have HB0 := Lib.hid (bl_alloc (Below.refl w.heap.size w) (.cells #[.int .i64 sn, .bool true, .int .i64 fr, .int .i64 to] 311))
  generalize onF x = o at *
  go_enter Try.func238, Try.ntmps238
  go_wp2_with fail
  go_quiet ((go_at_call 270; exact Calls.quiet_of_same ((HP.out _).mono fun e w' h => ⟨h.1, h.2.symm⟩)))
  go_wp2
  go_ret
  exact ⟨rfl, below_drewN HB0.out _⟩
set_option maxHeartbeats 800000 in
theorem splaced_m2 (sn fr to x : Int) (w : World) (hz : (to == 0) = false) (g0 : decide (0 ≤ fr) = true) (g1 : decide (fr < to) = true) (g2 : decide (to ≤ onF x) = true) : Calls Try.prog 238 #[.agg #[.int .i64 sn, .bool true, .int .i64 fr, .int .i64 to], .int .i64 x] w fun e w' => e = .returned (.bool true) ∧ Below w.heap.size w w' := by
  have HP := Lib.hid (fun W => sones_any x W)
  have HB0 := Lib.hid (bl_alloc (Below.refl w.heap.size w) (.cells #[.int .i64 sn, .bool true, .int .i64 fr, .int .i64 to] 311))
  generalize onF x = o at *
  go_enter Try.func238, Try.ntmps238
  go_wp2_with fail
  go_quiet ((go_at_call 270; exact Calls.quiet_of_same ((HP.out _).mono fun e w' h => ⟨h.1, h.2.symm⟩)))
  go_wp2
  go_ret
  exact ⟨rfl, below_drewN HB0.out _⟩
set_option maxHeartbeats 800000 in
theorem splaced_m3 (sn fr to x : Int) (w : World) (hz : (to == 0) = false) (g0 : decide (0 ≤ fr) = true) (g1 : decide (fr < to) = true) (g2 : decide (to ≤ onF x) = false) : Calls Try.prog 238 #[.agg #[.int .i64 sn, .bool true, .int .i64 fr, .int .i64 to], .int .i64 x] w fun e w' => e = .returned (.bool false) ∧ Below w.heap.size w w' := by
  have HP := Lib.hid (fun W => sones_any x W)
  have HB0 := Lib.hid (bl_alloc (Below.refl w.heap.size w) (.cells #[.int .i64 sn, .bool true, .int .i64 fr, .int .i64 to] 311))
  generalize onF x = o at *
  go_enter Try.func238, Try.ntmps238
  go_wp2_with fail
  go_quiet ((go_at_call 270; exact Calls.quiet_of_same ((HP.out _).mono fun e w' h => ⟨h.1, h.2.symm⟩)))
  go_wp2
  go_ret
  exact ⟨rfl, below_drewN HB0.out _⟩
theorem splaced_any (m : MissM) (x : Int) (w : World) : Calls Try.prog 238 #[m.v, .int .i64 x] w fun e w' => e = .returned (.bool (placedB m x)) ∧ Below w.heap.size w w' := by
  obtain ⟨sn, part, fr, to⟩ := m
  unfold MissM.v placedB
  cases part
  · exact splaced_no sn fr to x w
  · simp only [if_true]
    by_cases hz : to = 0
    · subst hz
      simp only [if_true]
      cases g0 : decide (0 ≤ fr)
      · exact splaced_e0 sn fr x w g0
      · cases g1 : decide (fr ≤ onF x)
        · exact splaced_e2 sn fr x w g0 g1
        · exact splaced_e1 sn fr x w g0 g1
    · rw [if_neg hz]
      have hz' : (to == 0) = false := by simpa using hz
      cases g0 : decide (0 ≤ fr)
      · exact splaced_m0 sn fr to x w hz' g0
      · cases g1 : decide (fr < to)
        · exact splaced_m1 sn fr to x w hz' g0 g1
        · cases g2 : decide (to ≤ onF x)
          · exact splaced_m3 sn fr to x w hz' g0 g1 g2
          · exact splaced_m2 sn fr to x w hz' g0 g1 g2
end Go.Proofs.Ytbcjfdhphpckfaa
namespace Go.Proofs.Ytbcjfdhphpckfaa
open Go.RowKit

def MSrc (W : World) (A : Option Addr) (L : List MissM) : Prop :=
  0 < L.length → ∃ b o, A = some ⟨b, o, none⟩ ∧ ∀ (k : Nat) (m : MissM), L[k]? = some m → W.cell? ⟨b, o + k * 4, none⟩ = some (.int .i64 m.sn) ∧ W.cell? ⟨b, o + k * 4 + 1, none⟩ = some (.bool m.part) ∧ W.cell? ⟨b, o + k * 4 + 2, none⟩ = some (.int .i64 m.fr) ∧ W.cell? ⟨b, o + k * 4 + 3, none⟩ = some (.int .i64 m.to)
theorem MSrc.later {w v : World} {A : Option Addr} {L : List MissM} (h : MSrc w A L) (hb : Below w.heap.size w v) : MSrc v A L := fun h0 => by
  obtain ⟨b, o, h1, h2⟩ := h h0
  exact ⟨b, o, h1, fun k m hm => by
    obtain ⟨a, b, c, d⟩ := h2 k m hm
    exact ⟨cell_below hb a, cell_below hb b, cell_below hb c, cell_below hb d⟩⟩
theorem row_second {w w2 : World} {o : Obj} {t : TypeId} {cs : Array Value} (hb : Below ((w.alloc o).alloc (.cells cs t)).heap.size ((w.alloc o).alloc (.cells cs t)) w2) : Row w2 (w.heap.size + 1) t cs := by
  have h := Row.made (w.alloc o) t cs
  rw [show (w.alloc o).heap.size = w.heap.size + 1 by simp] at h
  exact h.later hb
def missB (x : Int) (m : MissM) : Bool := okn x m.sn && placedB m x
def rightB (ack : Int) (L : List MissM) (x : Int) : Bool := okS x && okn x ack && decide (L.length ≤ 32) && L.all (missB x)
end Go.Proofs.Ytbcjfdhphpckfaa
namespace Go.Proofs.Ytbcjfdhphpckfaa
open Go.RowKit

def missBits (x : Int) (m : MissM) : Int := x + 2 + (if m.part then 2 * pbF x else 0)
def bitsS (x : Int) (L : List MissM) : Int := (L.map (missBits x)).sum
def statusF (ack : Int) (L : List MissM) (x : Int) : Int := if rightB ack L x then (4 + x + 1 + bitsS x L + 7) / 8 else 0
theorem missBits_bd {x : Int} (hx : okS x = true) (m : MissM) : 0 ≤ missBits x m ∧ missBits x m ≤ 50 := by
  unfold missBits pbF
  rcases okS_nat hx with rfl | rfl
  · cases m.part <;> simp
  · cases m.part <;> simp
theorem bitsS_take {x : Int} {L : List MissM} {k : Nat} {m : MissM} (h : L[k]? = some m) : bitsS x (L.take (k + 1)) = bitsS x (L.take k) + missBits x m := by
  obtain ⟨h1, h2⟩ := List.getElem?_eq_some_iff.1 h
  unfold bitsS
  rw [List.take_succ_eq_append_getElem h1, List.map_append, List.sum_append, h2]
  simp
theorem bitsS_bd {x : Int} (hx : okS x = true) (L : List MissM) : 0 ≤ bitsS x L ∧ bitsS x L ≤ 50 * L.length := by
  induction L with
  | nil => simp [bitsS]
  | cons m t ih =>
    have h := missBits_bd hx m
    have e : bitsS x (m :: t) = missBits x m + bitsS x t := by simp [bitsS]
    rw [e, List.length_cons]
    omega
end Go.Proofs.Ytbcjfdhphpckfaa
namespace Go.Proofs.Ytbcjfdhphpckfaa
open Go.RowKit

def pbN (x : Nat) : Nat := if x = 10 then 15 else 16
theorem pbN_cast (x : Nat) : pbF (x : Int) = (pbN x : Int) := by
  unfold pbF pbN
  by_cases h : x = 10
  · rw [if_pos (by omega), if_pos h]; rfl
  · rw [if_neg (by omega), if_neg h]; rfl
theorem onF_pow (x : Nat) : onF (x : Int) = ((2 ^ pbN x - 1 : Nat) : Int) := by
  unfold onF pbN
  by_cases h : x = 10
  · rw [if_pos (by omega), if_pos h]; rfl
  · rw [if_neg (by omega), if_neg h]; rfl
theorem pbN_bd (x : Nat) : 15 ≤ pbN x ∧ pbN x ≤ 16 := by unfold pbN; split <;> omega
theorem pow_pbN (x : Nat) : 0 < 2 ^ pbN x ∧ 2 ^ pbN x ≤ 65536 := ⟨Nat.two_pow_pos _, Nat.pow_le_pow_right (by decide) (pbN_bd x).2⟩
/-- the numbers that are put for a miss -/
def missP (x : Nat) (m : MissM) (more : Bool) : List (Nat × Nat) :=
  (m.sn.toNat, x) :: (more.toNat, 1) :: (m.part.toNat, 1) :: (if m.part then [(m.fr.toNat, pbN x), ((lastF m.to x).toNat, pbN x)] else [])
def missesP (x : Nat) : List MissM → List (Nat × Nat)
  | [] => []
  | m :: t => missP x m (decide (0 < t.length)) ++ missesP x t
def headP (ack : Int) (n : Nat) (x : Nat) : List (Nat × Nat) := [(0, 4), (ack.toNat, x), ((decide (0 < n)).toNat, 1)]
def statusP (ack : Int) (L : List MissM) (x : Nat) : List (Nat × Nat) := headP ack L.length x ++ missesP x L
def stBytes (ack : Int) (L : List MissM) (x : Nat) : List Nat := pack (bitsP (statusP ack L x))
theorem bitsP_cons (v n : Nat) (t : List (Nat × Nat)) : bitsP ((v, n) :: t) = unval v n ++ bitsP t := rfl
theorem len_missP (x : Nat) (m : MissM) (more : Bool) : ((bitsP (missP x m more)).length : Int) = missBits x m := by
  unfold missP missBits
  rw [bitsP_cons, bitsP_cons, bitsP_cons, pbN_cast]
  simp only [List.length_append, length_unval]
  cases m.part
  · simp [bitsP]
    try omega
  · simp only [if_true, bitsP_cons, List.length_append, length_unval]; simp [bitsP]; omega
theorem len_missesP (x : Nat) (L : List MissM) : ((bitsP (missesP x L)).length : Int) = bitsS x L := by
  induction L with
  | nil => rfl
  | cons m t ih =>
    have e : bitsS (x : Int) (m :: t) = missBits x m + bitsS x t := by simp [bitsS]
    rw [missesP, bitsP_append, List.length_append, e, ← len_missP x m (decide (0 < t.length)), ← ih]
    omega
theorem len_statusP (ack : Int) (L : List MissM) (x : Nat) : ((bitsP (statusP ack L x)).length : Int) = 4 + x + 1 + bitsS x L := by
  unfold statusP headP
  rw [bitsP_append, List.length_append, ← len_missesP]
  simp only [bitsP_cons, List.length_append, length_unval]
  simp [bitsP]
  omega
theorem len_stBytes (ack : Int) (L : List MissM) (x : Nat) : ((stBytes ack L x).length : Int) = (4 + x + 1 + bitsS x L + 7) / 8 := by
  unfold stBytes
  rw [length_pack, packLen, ← len_statusP ack L x]
  omega
/-- what stands at a place of the bits -/
theorem at_seg {bs : List Nat} {i v n : Nat} {r : List Bool} (h : (bitsOf bs).drop i = unval v n ++ r) (hv : v < 2 ^ n) : val (seg bs i n) = v ∧ (bitsOf bs).drop (i + n) = r := by
  constructor
  · unfold seg
    rw [h, List.take_left' (length_unval v n), val_unval]
    exact Nat.mod_eq_of_lt hv
  · rw [← List.drop_drop, h, List.drop_left' (length_unval v n)]
theorem un_one (b : Bool) : unval b.toNat 1 = [b] := by cases b <;> rfl
theorem at_bit {bs : List Nat} {i : Nat} {b : Bool} {r : List Bool} (h : (bitsOf bs).drop i = unval b.toNat 1 ++ r) : bitAt bs i = b ∧ (bitsOf bs).drop (i + 1) = r := by
  constructor
  · rw [un_one] at h
    have h1 : ((bitsOf bs).drop i)[0]? = some b := by rw [h]; rfl
    rw [List.getElem?_drop, Nat.add_zero] at h1
    unfold bitAt
    rw [List.getD_eq_getElem?_getD, h1]
    rfl
  · rw [← List.drop_drop, h, List.drop_left' (length_unval _ 1)]
theorem at_fits {bs : List Nat} {i : Nat} {s r : List Bool} (h : (bitsOf bs).drop i = s ++ r) (hs : 0 < s.length) : i + s.length ≤ 8 * bs.length := by
  have h1 := congrArg List.length h
  rw [List.length_drop, length_bitsOf, List.length_append] at h1
  omega
theorem of_seg {bs : List Nat} {i n : Nat} (h : i + n ≤ 8 * bs.length) : (bitsOf bs).drop i = unval (val (seg bs i n)) n ++ (bitsOf bs).drop (i + n) := by
  have u := unval_val (seg bs i n)
  rw [length_seg h] at u
  rw [u]
  unfold seg
  rw [← List.drop_drop, List.take_append_drop]
theorem of_bit {bs : List Nat} {i : Nat} (h : i + 1 ≤ 8 * bs.length) : (bitsOf bs).drop i = unval (bitAt bs i).toNat 1 ++ (bitsOf bs).drop (i + 1) :=
  (of_seg h).trans (by rw [val_one (by omega)])
theorem seg_lt2 {hd : List Nat} {i n : Nat} (h : i + n ≤ 8 * hd.length) : val (seg hd i n) < 2 ^ n := by
  have := val_lt (seg hd i n)
  rwa [length_seg h] at this
/-- one miss of the bits from a place on -/
def rdMiss (bs : List Nat) (x i : Nat) : Option (MissM × Bool × Nat) :=
  if 8 * bs.length < i + x + 1 + 1 then none
  else if bitAt bs (i + x + 1) then
    (if 8 * bs.length < i + x + 1 + 1 + pbN x + pbN x then none
     else some (⟨((val (seg bs i x) : Nat) : Int), true, ((val (seg bs (i + x + 1 + 1) (pbN x)) : Nat) : Int), endF ((val (seg bs (i + x + 1 + 1 + pbN x) (pbN x)) : Nat) : Int) x⟩, bitAt bs (i + x), i + x + 1 + 1 + pbN x + pbN x))
  else some (⟨((val (seg bs i x) : Nat) : Int), false, 0, 0⟩, bitAt bs (i + x), i + x + 1 + 1)
theorem okn_nat {x : Nat} (hx : x = 10 ∨ x = 16) {s : Int} : okn (x : Int) s = true ↔ 0 ≤ s ∧ s.toNat < 2 ^ x := by
  unfold okn
  rw [decide_eq_true_eq]
  rcases hx with rfl | rfl
  · have e : sz ((10 : Nat) : Int) = 1024 := by decide
    rw [e]
    omega
  · have e : sz ((16 : Nat) : Int) = 65536 := by decide
    rw [e]
    omega
theorem miss_part {x : Nat} {m : MissM} (hp : m.part = true) (h : placedB m x = true) : 0 ≤ m.fr ∧ m.fr.toNat < 2 ^ pbN x ∧ 0 ≤ lastF m.to x ∧ (lastF m.to x).toNat < 2 ^ pbN x ∧ endF (lastF m.to x) x = m.to := by
  unfold placedB at h
  rw [hp] at h
  simp only [if_true] at h
  have h1 := onF_pow x
  have h2 := pow_pbN x
  unfold lastF endF
  generalize onF (x : Int) = o at *
  generalize 2 ^ pbN x = p at *
  by_cases h0 : m.to = 0
  · simp only [h0, if_true, Bool.and_eq_true, decide_eq_true_eq] at h ⊢
    refine ⟨by omega, by omega, by omega, by omega, trivial⟩
  · simp only [h0, if_false, Bool.and_eq_true, decide_eq_true_eq] at h ⊢
    refine ⟨by omega, by omega, by omega, by omega, ?_⟩
    rw [if_neg (by omega)]
    omega
theorem miss_whole {x : Int} {m : MissM} (hp : m.part = false) (h : placedB m x = true) : m.fr = 0 ∧ m.to = 0 := by
  unfold placedB at h
  rw [hp] at h
  simpa using h
theorem miss_at {bs : List Nat} {x i : Nat} {m : MissM} {more : Bool} {r : List Bool} (hx : x = 10 ∨ x = 16) (hm : missB x m = true) (h : (bitsOf bs).drop i = bitsP (missP x m more) ++ r) :
    ∃ j, rdMiss bs x i = some (m, more, j) ∧ (bitsOf bs).drop j = r := by
  unfold missB at hm
  rw [Bool.and_eq_true] at hm
  obtain ⟨hs0, hs1⟩ := (okn_nat hx).1 hm.1
  have hpl := hm.2
  obtain ⟨sn, part, fr, to⟩ := m
  unfold missP at h
  simp only [bitsP_cons, List.append_assoc] at h
  have hfit := at_fits h (by rw [length_unval]; omega)
  obtain ⟨e1, h1⟩ := at_seg h hs1
  have hfit1 := at_fits h1 (by rw [length_unval]; omega)
  obtain ⟨e2, h2⟩ := at_bit h1
  have hfit2 := at_fits h2 (by rw [length_unval]; omega)
  rw [length_unval] at hfit hfit1 hfit2
  obtain ⟨e3, h3⟩ := at_bit h2
  simp only at hs0 e1 e2 e3 h3
  cases part
  · obtain ⟨f0, t0⟩ := miss_whole rfl hpl
    simp only at f0 t0
    subst f0 t0
    refine ⟨_, ?_, h3⟩
    unfold rdMiss
    rw [if_neg (by omega), e3, if_neg (by decide), e1, e2, Int.toNat_of_nonneg hs0]
  · obtain ⟨f0, f1, l0, l1, l2⟩ := miss_part rfl hpl
    simp only [if_true, bitsP_cons, List.append_assoc] at h3 f0 f1 l0 l1 l2
    have hb := pbN_bd x
    have hfit3 := at_fits h3 (by rw [length_unval]; omega)
    obtain ⟨e4, h4⟩ := at_seg h3 f1
    have hfit4 := at_fits h4 (by rw [length_unval]; omega)
    obtain ⟨e5, h5⟩ := at_seg h4 l1
    rw [length_unval] at hfit3 hfit4
    refine ⟨_, ?_, h5⟩
    unfold rdMiss
    rw [if_neg (by omega), e3, if_pos rfl, if_neg (by omega), e1, e2, e4, e5, Int.toNat_of_nonneg hs0, Int.toNat_of_nonneg f0, Int.toNat_of_nonneg l0, l2]
theorem endF_back {x : Nat} {l : Nat} (_h : l < 2 ^ pbN x) : (lastF (endF (l : Int) x) x).toNat = l := by
  have h1 := onF_pow x
  have h2 := pow_pbN x
  unfold lastF endF
  generalize onF (x : Int) = o at *
  generalize 2 ^ pbN x = p at *
  by_cases h0 : (l : Int) = o
  · rw [if_pos h0, if_pos rfl]; omega
  · rw [if_neg h0, if_neg (by omega)]; omega
theorem miss_of {bs : List Nat} {x i j : Nat} {m : MissM} {more : Bool} (hx : x = 10 ∨ x = 16) (h : rdMiss bs x i = some (m, more, j)) :
    okn (x : Int) m.sn = true ∧ (bitsOf bs).drop i = bitsP (missP x m more) ++ (bitsOf bs).drop j ∧ i ≤ j ∧ j ≤ 8 * bs.length := by
  unfold rdMiss at h
  split at h
  · cases h
  · rename_i hf
    have d1 := of_seg (bs := bs) (i := i) (n := x) (by omega)
    have d2 := of_bit (bs := bs) (i := i + x) (by omega)
    have d3 := of_bit (bs := bs) (i := i + x + 1) (by omega)
    have hsn : okn (x : Int) ((val (seg bs i x) : Nat) : Int) = true := (okn_nat hx).2 ⟨by omega, by rw [Int.toNat_natCast]; exact seg_lt2 (by omega)⟩
    split at h
    · rename_i hp
      split at h
      · cases h
      · rename_i hf2
        injection h with h
        injection h with h1 h2
        injection h2 with h2 h3
        subst h1 h2 h3
        have d4 := of_seg (bs := bs) (i := i + x + 1 + 1) (n := pbN x) (by omega)
        have d5 := of_seg (bs := bs) (i := i + x + 1 + 1 + pbN x) (n := pbN x) (by omega)
        have hl := endF_back (x := x) (seg_lt2 (hd := bs) (i := i + x + 1 + 1 + pbN x) (n := pbN x) (by omega))
        refine ⟨hsn, ?_, by omega, by omega⟩
        unfold missP
        simp only [if_true, bitsP_cons, Int.toNat_natCast, hl]
        rw [hp] at d3
        rw [d1, d2, d3, d4, d5]
        simp [bitsP]
    · rename_i hp
      injection h with h
      injection h with h1 h2
      injection h2 with h2 h3
      subst h1 h2 h3
      refine ⟨hsn, ?_, by omega, by omega⟩
      unfold missP
      have hp' : bitAt bs (i + x + 1) = false := by simpa using hp
      simp only [Bool.false_eq_true, if_false, bitsP_cons, Int.toNat_natCast]
      rw [hp'] at d3
      rw [d1, d2, d3]
      simp [bitsP]
/-- the misses of the bits from a place on: an error's number, the misses, the place behind them -/
def rdAll (bs : List Nat) (x : Nat) : Nat → List MissM → Nat → Bool → Int × List MissM × Nat
  | _, acc, i, false => (0, acc, i)
  | 0, _, _, true => (2, [], 0)
  | f + 1, acc, i, true =>
    match rdMiss bs x i with
    | none => (8, [], 0)
    | some (m, more, j) => if more && (f == 0) then (2, [], 0) else if placedB m x then rdAll bs x f (acc ++ [m]) j more else (3, [], 0)
theorem all_at {bs : List Nat} {x : Nat} (hx : x = 10 ∨ x = 16) : ∀ (L : List MissM) (f : Nat) (acc : List MissM) (i : Nat) (r : List Bool), L.length ≤ f → L.all (missB x) = true → (bitsOf bs).drop i = bitsP (missesP x L) ++ r →
    ∃ j, rdAll bs x f acc i (decide (0 < L.length)) = (0, acc ++ L, j) ∧ (bitsOf bs).drop j = r := by
  intro L
  induction L with
  | nil =>
    intro f acc i r _ _ h
    refine ⟨i, ?_, h⟩
    cases f <;> simp [rdAll]
  | cons m t ih =>
    intro f acc i r hf ha h
    obtain ⟨f, rfl⟩ : ∃ g, f = g + 1 := ⟨f - 1, by simp at hf; omega⟩
    rw [List.all_cons, Bool.and_eq_true] at ha
    rw [missesP, bitsP_append, List.append_assoc] at h
    obtain ⟨j, e, h1⟩ := miss_at hx ha.1 h
    have hlt : t.length ≤ f := by simp at hf; omega
    obtain ⟨j', e', h2⟩ := ih f (acc ++ [m]) j r hlt ha.2 h1
    refine ⟨j', ?_, h2⟩
    have hpl : placedB m x = true := by
      have := ha.1
      unfold missB at this
      rw [Bool.and_eq_true] at this
      exact this.2
    rw [show decide (0 < (m :: t).length) = true by simp, rdAll, e]
    have hno : (decide (0 < t.length) && (f == 0)) = false := by
      by_cases h0 : f = 0
      · have : t.length = 0 := by omega
        simp [this]
      · simp [h0]
    simp only [hno, hpl, Bool.false_eq_true, if_false, if_true]
    rw [e']
    simp
theorem all_of {bs : List Nat} {x : Nat} (hx : x = 10 ∨ x = 16) : ∀ (f : Nat) (acc : List MissM) (i : Nat) (more : Bool) (L' : List MissM) (j : Nat), rdAll bs x f acc i more = (0, L', j) → i ≤ 8 * bs.length →
    ∃ L, L' = acc ++ L ∧ L.all (missB x) = true ∧ (bitsOf bs).drop i = bitsP (missesP x L) ++ (bitsOf bs).drop j ∧ more = decide (0 < L.length) ∧ L.length ≤ f ∧ j ≤ 8 * bs.length := by
  intro f
  induction f with
  | zero =>
    intro acc i more L' j h hi
    cases more
    · simp [rdAll] at h
      obtain ⟨rfl, rfl⟩ := h
      exact ⟨[], by simp, rfl, rfl, rfl, by simp, hi⟩
    · simp [rdAll] at h
  | succ f ih =>
    intro acc i more L' j h hi
    cases more
    · simp [rdAll] at h
      obtain ⟨rfl, rfl⟩ := h
      exact ⟨[], by simp, rfl, rfl, rfl, by simp, hi⟩
    · rw [rdAll] at h
      cases hm : rdMiss bs x i with
      | none => rw [hm] at h; simp at h
      | some y =>
        obtain ⟨m, more', j'⟩ := y
        rw [hm] at h
        simp only at h
        split at h
        · simp at h
        · split at h
          · rename_i hpl
            obtain ⟨e1, e2, e3, e4⟩ := miss_of hx hm
            obtain ⟨L, l1, l2, l3, l4, l5, l6⟩ := ih _ _ _ _ _ h e4
            refine ⟨m :: L, by rw [l1]; simp, ?_, ?_, by simp, by simp; omega, l6⟩
            · rw [List.all_cons, l2, Bool.and_true]
              unfold missB
              rw [e1, hpl]
              rfl
            · rw [missesP, bitsP_append, e2, l3, l4, List.append_assoc]
          · simp at h
def restOk (bs : List Nat) (j : Nat) : Bool := decide (bs.length = up j) && (List.range (8 * up j)).all fun k => decide (k < j) || !bitAt bs k
theorem restOk_iff {bs : List Nat} {j : Nat} : restOk bs j = true ↔ bs.length = up j ∧ ∀ k, j ≤ k → k < 8 * up j → bitAt bs k = false := by
  unfold restOk
  rw [Bool.and_eq_true, decide_eq_true_eq, List.all_eq_true]
  refine and_congr Iff.rfl ⟨fun h k h1 h2 => ?_, fun h k hk => ?_⟩
  · have := h k (List.mem_range.2 h2)
    simp at this
    rcases this with h3 | h3
    · omega
    · exact h3
  · rw [List.mem_range] at hk
    by_cases h1 : k < j
    · simp [h1]
    · simp [h k (by omega) hk]
/-- what bytes are: an error's number, the Ack, the misses -/
def stRd (bs : List Nat) (x : Nat) : Int × Int × List MissM :=
  if okS x = false then (9, 0, [])
  else if bs.length = 0 then (8, 0, [])
  else if 128 ≤ bs.getD 0 0 then (4, 0, [])
  else if 16 ≤ bs.getD 0 0 then (3, 0, [])
  else if 8 * bs.length < 0 + 4 + x + 1 then (8, 0, [])
  else
    match rdAll bs x 32 [] (0 + 4 + x + 1) (bitAt bs (0 + 4 + x)) with
    | (c, L, j) => if c = 0 then (if restOk bs j = true then (0, ((val (seg bs (0 + 4) x) : Nat) : Int), L) else (3, 0, [])) else (c, 0, [])
theorem first_bits {b : Nat} {r : List Nat} (h : b < 16) : ∃ s, bitsOf (b :: r) = unval 0 4 ++ s := by
  have e : bitsOf (b :: r) = unval b 8 ++ bitsOf r := rfl
  have h1 := unval_split b 4 4
  rw [show b / 2 ^ 4 = 0 by omega] at h1
  rw [e, show (8 : Nat) = 4 + 4 from rfl, h1, List.append_assoc]
  exact ⟨_, rfl⟩
theorem rest_noughts {bs : List Nat} {j : Nat} (h1 : bs.length = up j) (h2 : ∀ k, j ≤ k → k < 8 * up j → bitAt bs k = false) : (bitsOf bs).drop j = List.replicate (8 * bs.length - j) false := by
  apply List.ext_getElem?
  intro k
  rw [List.getElem?_drop, List.getElem?_replicate]
  by_cases hk : k < 8 * bs.length - j
  · rw [if_pos hk]
    have h3 := h2 (j + k) (by omega) (by omega)
    unfold bitAt at h3
    have hl : j + k < (bitsOf bs).length := by rw [length_bitsOf]; omega
    rw [List.getD_eq_getElem?_getD, List.getElem?_eq_getElem hl] at h3
    rw [List.getElem?_eq_getElem hl]
    exact congrArg some h3
  · rw [if_neg hk, List.getElem?_eq_none (by rw [length_bitsOf]; omega)]
theorem rightB_parts {ack : Int} {L : List MissM} {x : Nat} (h : rightB ack L x = true) : (x = 10 ∨ x = 16) ∧ okS x = true ∧ okn (x : Int) ack = true ∧ L.length ≤ 32 ∧ L.all (missB x) = true := by
  unfold rightB at h
  simp only [Bool.and_eq_true, decide_eq_true_eq] at h
  have := okS_nat h.1.1.1
  exact ⟨by omega, h.1.1.1, h.1.1.2, h.1.2, h.2⟩
theorem st_back {ack : Int} {L : List MissM} {x : Nat} (h : rightB ack L x = true) : stRd (stBytes ack L x) x = (0, ack, L) := by
  obtain ⟨hx, hok, ha, hl, hall⟩ := rightB_parts h
  obtain ⟨ha0, ha1⟩ := (okn_nat hx).1 ha
  have hlen := len_statusP ack L x
  have hB : 0 ≤ bitsS (x : Int) L := (bitsS_bd hok L).1
  have hbp : bitsOf (stBytes ack L x) = bitsP (statusP ack L x) ++ List.replicate (8 * packLen (bitsP (statusP ack L x)).length - (bitsP (statusP ack L x)).length) false := bitsOf_pack _
  have hln : (stBytes ack L x).length = packLen (bitsP (statusP ack L x)).length := length_pack _
  have hrest := back_rest (bitsP (statusP ack L x))
  have hsm := pack_small (bitsP (statusP ack L x))
  rw [show pack (bitsP (statusP ack L x)) = stBytes ack L x from rfl] at hrest hsm
  have h0 : (bitsOf (stBytes ack L x)).drop 0 = unval 0 4 ++ (unval ack.toNat x ++ (unval (decide (0 < L.length)).toNat 1 ++ (bitsP (missesP x L) ++ List.replicate (8 * packLen (bitsP (statusP ack L x)).length - (bitsP (statusP ack L x)).length) false))) := by
    rw [List.drop_zero, hbp]
    unfold statusP headP
    rw [bitsP_append, bitsP_cons, bitsP_cons, bitsP_cons]
    simp [bitsP]
  have hj : ∀ j, (bitsOf (stBytes ack L x)).drop j = List.replicate (8 * packLen (bitsP (statusP ack L x)).length - (bitsP (statusP ack L x)).length) false → j ≤ 8 * (stBytes ack L x).length → j = (bitsP (statusP ack L x)).length := by
    intro j hj h8
    have e := congrArg List.length hj
    rw [List.length_drop, length_bitsOf, List.length_replicate, hln] at e
    rw [hln] at h8
    unfold packLen at e h8
    omega
  generalize stBytes ack L x = bs at *
  generalize bitsP (statusP ack L x) = bl at *
  obtain ⟨e1, h1⟩ := at_seg h0 (by decide)
  obtain ⟨e2, h2⟩ := at_seg h1 ha1
  have hf3 := at_fits h2 (by rw [length_unval]; omega)
  rw [length_unval] at hf3
  obtain ⟨e3, h3⟩ := at_bit h2
  obtain ⟨j, e4, h4⟩ := all_at hx L 32 [] (0 + 4 + x + 1) _ hl hall h3
  have hj8 : j ≤ 8 * bs.length := by
    obtain ⟨_, _, _, _, _, _, h9⟩ := all_of hx _ _ _ _ _ _ e4 hf3
    exact h9
  have ej := hj j h4 hj8
  have hb0 : bs.getD 0 0 < 16 := by
    cases bs with
    | nil => simp
    | cons b r =>
      have hb : b < 256 := hsm b (List.mem_cons_self ..)
      have e : bitsOf (b :: r) = unval b 8 ++ bitsOf r := rfl
      have h5 := unval_split b 4 4
      rw [List.drop_zero, e, show (8 : Nat) = 4 + 4 from rfl, h5, List.append_assoc] at h0
      have h6 := (List.append_inj h0 (by rw [length_unval, length_unval])).1
      have h7 := congrArg val h6
      rw [val_unval, val_unval] at h7
      simp at h7 ⊢
      omega
  have hne : bs.length ≠ 0 := by omega
  unfold stRd
  rw [if_neg (by rw [hok]; decide), if_neg hne, if_neg (by omega), if_neg (by omega), if_neg (by omega), e3, e4, e2]
  simp only [if_true, List.nil_append]
  rw [ej, if_pos (restOk_iff.2 ⟨by rw [hln]; rfl, hrest⟩), Int.toNat_of_nonneg ha0]
theorem st_write {bs : List Nat} {x : Nat} {ack : Int} {L : List MissM} (hb : ∀ b ∈ bs, b < 256) (h : stRd bs x = (0, ack, L)) : rightB ack L x = true ∧ stBytes ack L x = bs := by
  unfold stRd at h
  split at h
  · simp at h
  rename_i hok
  have hok : okS (x : Int) = true := by simpa using hok
  have hx : x = 10 ∨ x = 16 := by have := okS_nat hok; omega
  split at h
  · simp at h
  rename_i hne
  split at h
  · simp at h
  split at h
  · simp at h
  rename_i h16
  split at h
  · simp at h
  rename_i hsh
  cases hr : rdAll bs x 32 [] (0 + 4 + x + 1) (bitAt bs (0 + 4 + x)) with
  | mk c y =>
    obtain ⟨L', j⟩ := y
    rw [hr] at h
    simp only at h
    split at h
    · rename_i hc
      subst hc
      split at h
      · rename_i hrest
        have hrest := restOk_iff.1 hrest
        injection h with _ h
        injection h with h1 h2
        subst h1 h2
        obtain ⟨M, l1, l2, l3, l4, l5, l6⟩ := all_of hx _ _ _ _ _ _ hr (by omega)
        rw [List.nil_append] at l1
        have l1' := l1.symm
        subst l1'
        have hsn : okn (x : Int) ((val (seg bs (0 + 4) x) : Nat) : Int) = true := (okn_nat hx).2 ⟨by omega, by rw [Int.toNat_natCast]; exact seg_lt2 (by omega)⟩
        refine ⟨by unfold rightB; rw [hok, hsn, decide_eq_true l5, l2]; rfl, ?_⟩
        have d2 := of_seg (bs := bs) (i := 0 + 4) (n := x) (by omega)
        have d3 := of_bit (bs := bs) (i := 0 + 4 + x) (by omega)
        have hz := rest_noughts hrest.1 hrest.2
        have d1 : bitsOf bs = unval 0 4 ++ (bitsOf bs).drop (0 + 4) := by
          cases bs with
          | nil => simp at hne
          | cons b r =>
            obtain ⟨s, hs⟩ := first_bits (b := b) (r := r) (by simp at h16; omega)
            rw [hs, List.drop_left' (by rw [length_unval])]
        have hfull : bitsOf bs = bitsP (statusP ((val (seg bs (0 + 4) x) : Nat) : Int) M x) ++ List.replicate (8 * bs.length - j) false := by
          unfold statusP headP
          rw [bitsP_append, bitsP_cons, bitsP_cons, bitsP_cons, Int.toNat_natCast, ← l4]
          refine d1.trans ?_
          rw [d2, d3, l3, hz]
          simp [bitsP]
        have hlj := congrArg List.length hfull
        rw [length_bitsOf, List.length_append, List.length_replicate] at hlj
        have hpl : packLen (bitsP (statusP ((val (seg bs (0 + 4) x) : Nat) : Int) M x)).length = bs.length := by
          rw [show (bitsP (statusP ((val (seg bs (0 + 4) x) : Nat) : Int) M x)).length = j by omega, hrest.1]
          rfl
        unfold stBytes
        apply bitsOf_inj (pack_small _) hb
        rw [bitsOf_pack, hpl, hfull]
        congr 2
        omega
      · simp at h
    · rename_i hc
      injection h with h _
      exact absurd h hc
theorem st_len {ack : Int} {L : List MissM} {x : Nat} (h : rightB ack L x = true) : ((stBytes ack L x).length : Int) = statusF ack L x := by
  rw [len_stBytes]
  unfold statusF
  rw [if_pos h]
end Go.Proofs.Ytbcjfdhphpckfaa
namespace Go.Proofs.Ytbcjfdhphpckfaa
open Go.RowKit

def KeepR (B : Nat) (w v : World) : Prop := Below B w v ∧ w.heap.size ≤ v.heap.size ∧ ∀ (g : Nat) (t : TypeId) (cs : Array Value), t ≠ 327 → Row w g t cs → Row v g t cs
section
variable {B : Nat} {w v u : World}
theorem KeepR.refl (B : Nat) (w : World) : KeepR B w w := ⟨Below.refl _ _, Nat.le_refl _, fun _ _ _ _ h => h⟩
theorem KeepR.trans (h : KeepR B w v) (k : KeepR B v u) : KeepR B w u := ⟨h.1.trans k.1, Nat.le_trans h.2.1 k.2.1, fun g t cs h1 hr => k.2.2 g t cs h1 (h.2.2 g t cs h1 hr)⟩
theorem KeepR.of_below (h : Below w.heap.size w v) (hB : B ≤ w.heap.size) : KeepR B w v := ⟨h.mono hB, h.size, fun _ _ _ _ hr => hr.later h⟩
theorem KeepR.then_below (h : KeepR B w v) (hB : B ≤ w.heap.size) (k : Below v.heap.size v u) : KeepR B w u := h.trans (.of_below k (Nat.le_trans hB h.2.1))
theorem KeepR.alloc (h : KeepR B w v) (hB : B ≤ w.heap.size) (o : Obj) : KeepR B w (v.alloc o) := h.then_below hB (bl_alloc (Below.refl _ _) o)
theorem KeepR.row (h : KeepR B w v) {g : Nat} {t : TypeId} {cs : Array Value} (hr : Row w g t cs) (h1 : t ≠ 327) : Row v g t cs := h.2.2 g t cs h1 hr
end
theorem got_keep {B : Nat} {w v : World} {p g i : Nat} {bs : List Nat} (hr : RRep w p g bs i) (hp : B ≤ p) (h : Only (fun k => k = p) w v) : KeepR B w v :=
  ⟨get_below h hp (by have := hr.1.inside; omega), h.size, fun g' t cs h1 hg => hg.only h fun hS => hg.apart hr.1 h1 hS⟩
theorem KeepR.set_new {B : Nat} {w v : World} (h : KeepR B w v) {p : Addr} (hB : B ≤ w.heap.size) (hp : w.heap.size ≤ p.block) (x : Value) : KeepR B w (v.setCell p x) :=
  ⟨h.1.setCell (Nat.le_trans hB hp) x, by rw [show (v.setCell p x).heap.size = v.heap.size by simp [World.setCell]]; exact h.2.1, fun g t cs h1 hg => (h.2.2 g t cs h1 hg).elsewhere (by have := hg.inside; omega) x⟩
def intsR (L : List Nat) : List Value := L.map fun v : Nat => .int .i64 v
/-- numbers of so many bits each, one behind the other, from a place on -/
def segs (bs : List Nat) : Nat → List Nat → List Nat
  | _, [] => []
  | i, n :: r => val (seg bs i n) :: segs bs (i + n) r
theorem len_segs (bs : List Nat) : ∀ (W : List Nat) (i : Nat), (segs bs i W).length = W.length := by
  intro W
  induction W with
  | nil => intro i; rfl
  | cons n r ih => intro i; simp [segs, ih]
theorem segs_append (bs : List Nat) : ∀ (W V : List Nat) (i : Nat), segs bs i (W ++ V) = segs bs i W ++ segs bs (i + W.sum) V := by
  intro W
  induction W with
  | nil => intro V i; simp [segs]
  | cons n r ih => intro V i; simp [segs, ih, Nat.add_assoc]
def gcells (bs : List Nat) (i : Nat) (W : List Nat) (k : Nat) : List Value := intsR (segs bs i (W.take k)) ++ List.replicate (W.length - k) (.int .i64 0)
theorem gcells_step {bs W : List Nat} {i k n : Nat} (h : W[k]? = some n) : (gcells bs i W k).set k (.int .i64 (val (seg bs (i + (W.take k).sum) n) : Nat)) = gcells bs i W (k + 1) := by
  obtain ⟨h1, h2⟩ := List.getElem?_eq_some_iff.1 h
  have hl : (intsR (segs bs i (W.take k))).length = k := by unfold intsR; rw [List.length_map, len_segs, List.length_take]; omega
  unfold gcells
  rw [List.set_append_right _ _ (by omega), hl, Nat.sub_self, show W.length - k = (W.length - (k + 1)) + 1 by omega, List.replicate_succ, List.set_cons_zero, List.take_succ_eq_append_getElem h1, segs_append, h2]
  simp [intsR, segs]
theorem gcells_at (bs : List Nat) (i : Nat) {W : List Nat} {k : Nat} (h : k < W.length) : (gcells bs i W k).toArray[k]? = some (.int .i64 0) := by
  have hl : (intsR (segs bs i (W.take k))).length = k := by unfold intsR; rw [List.length_map, len_segs, List.length_take]; omega
  unfold gcells
  rw [List.getElem?_toArray, List.getElem?_append_right (by omega), hl, Nat.sub_self, List.getElem?_replicate, if_pos (by omega)]
theorem take_sum {W : List Nat} {k n : Nat} (h : W[k]? = some n) : (W.take (k + 1)).sum = (W.take k).sum + n := by
  obtain ⟨h1, h2⟩ := List.getElem?_eq_some_iff.1 h
  rw [List.take_succ_eq_append_getElem h1, List.sum_append, h2]
  simp
theorem take_sum_le (W : List Nat) (k : Nat) : (W.take k).sum ≤ W.sum := by
  have h := congrArg List.sum (List.take_append_drop k W)
  rw [List.sum_append] at h
  omega
theorem make_ints3 (n : Nat) (h : n ≤ 8192) (w : World) :
    (Instr.makeSlice 30 (.int .i64 (n : Int)) (.int .i64 (n : Int))).run Try.prog w = .ok (.slice (some ⟨w.heap.size, 0, none⟩) n n) (w.alloc (.cells (List.replicate n (Value.int .i64 0)).toArray 3)) := by
  obtain ⟨i, hi, hz, hs, hb⟩ := (info_parts Try.info3)
  have h := run_make (P := Try.prog) w 30 3 i _ Try.underlying30 hi hz .i64 .i64 n n (by omega) (Int.le_refl _) (by rw [hb]; omega) (by omega)
  have e : madeCells #[.int .i64 0] n = (List.replicate n (Value.int .i64 0)).toArray := by
    apply Array.toList_inj.1
    rw [toList_madeCells_one]
  rw [h, hs, Nat.mul_one, Int.toNat_natCast, ← e]
  rfl
theorem set_arr (l : List Value) (k : Nat) (v : Value) : l.toArray.setIfInBounds k v = (l.set k v).toArray := by simp
/-- numbers got -/
def GetAns (B : Nat) (w : World) (p gb : Nat) (bs : List Nat) (i : Nat) (W : List Nat) (e : Ending) (w' : World) : Prop :=
  (i + W.sum ≤ 8 * bs.length → ∃ g, e = .returned (.tuple #[.slice (some ⟨g, 0, none⟩) W.length W.length, .int .i64 0]) ∧ Row w' g 3 (intsR (segs bs i W)).toArray ∧ w.heap.size ≤ g ∧ RRep w' p gb bs (i + W.sum)) ∧
  (8 * bs.length < i + W.sum → e = .returned (.tuple #[.slice none 0 0, .int .i64 8])) ∧ KeepR B w w'
set_option maxRecDepth 100000 in
set_option maxHeartbeats 3200000 in
theorem sget_any {B p gb g : Nat} {bs : List Nat} {i : Nat} {W : List Nat} (n cap : Nat) (w : World) (hr : RRep w p gb bs i) (hp : B ≤ p) (hg : Row w g 3 (intsR W).toArray) (hW : W.length = n) (hn : n ≤ 3) (hw : ∀ x ∈ W, x ≤ 16) :
    Calls Try.prog 236 #[.pointer (some ⟨p, 0, none⟩), .slice (some ⟨g, 0, none⟩) n cap] w (GetAns B w p gb bs i W) := by
  have hmk := make_ints3 n (by omega) w
  have HR := Lib.hid hr
  have HG := Lib.hid hg
  have HW := Lib.hid hW
  have HWW := Lib.hid hw
  have HB := Lib.hid (show B ≤ w.heap.size by have := hr.1.inside; omega)
  have ROWL := Lib.hid (Row.made w 3 (List.replicate n (Value.int .i64 0)).toArray)
  clear hr hg hW hw
  go_enter Try.func236, Try.ntmps236
  go_wp2
  clear hmk
  go_loopw [16] (fun it wr => ∃ k : Nat, k ≤ n ∧ it = .int .i64 k ∧ Hid (RRep wr p gb bs (i + (W.take k).sum)) ∧ Hid (Row wr w.heap.size 3 (gcells bs i W k).toArray) ∧ Hid (KeepR B w wr)) (fun it _ => n - (intOf it).toNat)
  case atStart => exact ⟨0, by omega, rfl, Lib.hid (by simpa using HR.out.later (bl_alloc (Below.refl _ _) _)), Lib.hid (by simpa [gcells, segs, intsR, HW.out] using ROWL.out), Lib.hid ((KeepR.refl _ _).alloc HB.out _)⟩
  case round =>
    obtain ⟨k, hk, rfl, HRK, HROW, HKP⟩ := hrel
    by_cases hlt : k < n
    · obtain ⟨m, hx⟩ : ∃ r, W[k]? = some r := ⟨_, List.getElem?_eq_getElem (by rw [HW.out]; exact hlt)⟩
      have RG := HKP.out.row HG.out (by decide)
      have c0 : wr.cell? ⟨g, k, none⟩ = some (.int .i64 m) := RG.read (by simp [intsR, hx])
      have hm16 : m ≤ 16 := HWW.out m (List.mem_of_getElem? hx)
      have hkI : (k : Int) < (n : Int) := by omega
      have HTS := Lib.hid (take_sum hx)
      have HLE := Lib.hid (take_sum_le W (k + 1))
      rcases Nat.lt_or_ge (8 * bs.length) (i + (W.take k).sum + m) with hsh | hsh
      · have HGT := Lib.hid (get_short m wr HRK.out (by omega) (by have := HRK.out.2.2.1; omega))
        have HBAD := Lib.hid (show 8 * bs.length < i + W.sum by have h1 := HTS.out; have h2 := HLE.out; omega)
        clear hx RG hsh
        go_wp2_with (go_at_call 231; (with_reducible refine HGT.out.mono ?_); rintro e w1 ⟨rfl, hb1⟩)
        go_ret2
        exact ⟨fun h => absurd HBAD.out (by omega), fun _ => rfl, HKP.out.then_below HB.out hb1⟩
      · have hv : val (seg bs (i + (W.take k).sum) m) < 65536 := Nat.lt_of_lt_of_le (seg_lt2 hsh) (Nat.pow_le_pow_right (by decide) hm16)
        have HGT := Lib.hid (get_any m wr HRK.out (by omega) hsh)
        have HCS := Lib.hid (gcells_step (bs := bs) (i := i) hx)
        generalize val (seg bs (i + (W.take k).sum) m) = v at *
        have hwr : IntKind.i64.wrap (v : Int) = (v : Int) := by rw [IntKind.wrap_i64]; omega
        clear hx RG hsh
        go_wp2_with (go_at_call 231; (with_reducible refine HGT.out.mono ?_); rintro e w1 ⟨rfl, hr1, ho1⟩; (have HR1 := Lib.hid hr1; have KP1 := Lib.hid (got_keep (B := B) HRK.out hp ho1); clear hr1 ho1; have ROW1 := Lib.hid (KP1.out.row HROW.out (by decide)); have fz := ROW1.out.free k; have cz := ROW1.out.read (gcells_at bs i (by rw [HW.out]; exact hlt))))
        go_roundw
        case rel =>
          refine ⟨k + 1, by omega, by go_num, Lib.hid ?_, Lib.hid ?_, Lib.hid ?_⟩
          · have h := HR1.out
            rw [HTS.out, ← Nat.add_assoc]
            exact ⟨h.1.elsewhere (fun e => ROW1.out.apart h.1 (by decide) e.symm) _, h.2.1.elsewhere (fun e => ROW1.out.apart h.2.1 (by decide) e.symm) _, h.2.2⟩
          · have h := ROW1.out.written k (.int .i64 v)
            rw [set_arr, HCS.out] at h
            exact h
          · exact (HKP.out.trans KP1.out).set_new HB.out (Nat.le_refl _) _
        case measure => simp [intOf]; omega
    · have hkn : k = n := by omega
      subst hkn
      have HTK := Lib.hid (show W.take k = W from List.take_of_length_le (by rw [HW.out]; exact Nat.le_refl _))
      go_wp2
      go_ret2
      have h1 := HRK.out
      have h2 := HROW.out
      unfold gcells at h2
      rw [HTK.out] at h1 h2
      rw [HW.out, Nat.sub_self] at h2
      simp only [List.replicate_zero, List.append_nil] at h2
      refine ⟨fun _ => ⟨_, ?_, h2, Nat.le_refl _, h1⟩, fun h => absurd h1.2.2.1 (by omega), HKP.out⟩
      rw [HW.out]
      rfl
end Go.Proofs.Ytbcjfdhphpckfaa
namespace Go.Proofs.Ytbcjfdhphpckfaa
open Go.RowKit

end Go.Proofs.Ytbcjfdhphpckfaa
namespace Go.Proofs.Ytbcjfdhphpckfaa
open Go.RowKit

end Go.Proofs.Ytbcjfdhphpckfaa
namespace Go.Proofs.Ytbcjfdhphpckfaa
open Go.RowKit

def eqM (a b : MissM) : Bool := (a.sn == b.sn) && (a.part == b.part) && (a.fr == b.fr) && (a.to == b.to)
theorem eqM_iff (a b : MissM) : eqM a b = true ↔ a = b := by
  obtain ⟨a1, a2, a3, a4⟩ := a
  obtain ⟨b1, b2, b3, b4⟩ := b
  simp [eqM, and_assoc]
def eqMs : List MissM → List MissM → Bool
  | [], [] => true
  | a :: l, b :: m => eqM a b && eqMs l m
  | _, _ => false
theorem eqMs_len {L M : List MissM} (h : L.length ≠ M.length) : eqMs L M = false := by
  induction L generalizing M with
  | nil =>
    cases M with
    | nil => exact absurd rfl h
    | cons => rfl
  | cons a t ih =>
    cases M with
    | nil => rfl
    | cons b u =>
      have := ih (M := u) (by simpa using h)
      simp [eqMs, this]
end Go.Proofs.Ytbcjfdhphpckfaa
namespace Go.Proofs.Ytbcjfdhphpckfaa
open Go.RowKit

theorem eqM_case {sn sn' : Int} {part part' : Bool} {fr fr' to to' : Int} (hq : ¬ eqM ⟨sn, part, fr, to⟩ ⟨sn', part', fr', to'⟩ = true) : (sn ≠ sn') ∨ (sn = sn' ∧ part ≠ part') ∨ (sn = sn' ∧ part = part' ∧ fr ≠ fr') ∨ (sn = sn' ∧ part = part' ∧ fr = fr' ∧ to ≠ to') := by
  by_cases h1 : sn = sn'
  · by_cases h2 : part = part'
    · by_cases h3 : fr = fr'
      · by_cases h4 : to = to'
        · exact absurd ((eqM_iff _ _).2 (by rw [h1, h2, h3, h4])) hq
        · exact .inr (.inr (.inr ⟨h1, h2, h3, h4⟩))
      · exact .inr (.inr (.inl ⟨h1, h2, h3⟩))
    · exact .inr (.inl ⟨h1, h2⟩)
  · exact .inl h1
def eqS (a : Int) (L : List MissM) (b : Int) (M : List MissM) : Bool := (a == b) && eqMs L M
end Go.Proofs.Ytbcjfdhphpckfaa
