/-
  The bytes of points.
-/
import Derived.Test.YtieokmmejdngcaaOf
import Derived.StillTailTactics
namespace Go.Proofs.Ytieokmmejdngcaa
open Go.RowKit

def nb (n : Int) : Nat := if n < 0 then 1 else 0
theorem ngb_nb (n : Int) : ngb n = (nb n : Nat) := by unfold ngb nb; split <;> rfl
theorem nb_le (n : Int) : nb n ≤ 1 := by unfold nb; split <;> omega
def dig (p : Int × Int) : Nat := 2 * nb p.1 + nb p.2
theorem dig_lt (p : Int × Int) : dig p < 4 := by have := nb_le p.1; have := nb_le p.2; unfold dig; omega
/-- what r points make of the byte q -/
def pv (L : List (Int × Int)) (q : Nat) : Nat → Nat
  | 0 => 0
  | r + 1 => 4 * pv L q r + dig (L.getD (4 * q + r) (0, 0))
theorem pv_succ (L : List (Int × Int)) (q r : Nat) : pv L q (r + 1) = 4 * pv L q r + dig (L.getD (4 * q + r) (0, 0)) := rfl
theorem pv_lt (L : List (Int × Int)) (q r : Nat) : pv L q r < 4 ^ r := by
  induction r with
  | zero => simp [pv]
  | succ r ih =>
    have := dig_lt (L.getD (4 * q + r) (0, 0))
    rw [Nat.pow_succ]
    unfold pv
    omega
def backB (L : List (Int × Int)) : List Nat := (List.range (L.length / 4)).map fun q => pv L q 4
theorem length_backB (L : List (Int × Int)) : (backB L).length = L.length / 4 := by simp [backB]
theorem backB_lt (L : List (Int × Int)) : ∀ b ∈ backB L, b < 256 := by
  intro b hb
  obtain ⟨q, _, rfl⟩ := List.mem_map.1 hb
  exact pv_lt L q 4

theorem or_a : ((List.range 64).all fun v => (List.range 2).all fun x => (bits .or .u8 ((4 * v : Nat) : Int) ((2 * x : Nat) : Int) == ((4 * v + 2 * x : Nat) : Int))) = true := by decide +kernel
theorem or_b : ((List.range 128).all fun v => (List.range 2).all fun x => (bits .or .u8 ((2 * v : Nat) : Int) ((x : Nat) : Int) == ((2 * v + x : Nat) : Int))) = true := by decide +kernel
theorem or_one {v x : Nat} (hv : v < 64) (hx : x < 2) : bits .or .u8 ((4 * v : Nat) : Int) ((2 * x : Nat) : Int) = ((4 * v + 2 * x : Nat) : Int) := by
  have := List.all_eq_true.1 (List.all_eq_true.1 or_a v (List.mem_range.2 hv)) x (List.mem_range.2 hx)
  simpa using this
theorem or_two {v x : Nat} (hv : v < 128) (hx : x < 2) : bits .or .u8 ((2 * v : Nat) : Int) ((x : Nat) : Int) = ((2 * v + x : Nat) : Int) := by
  have := List.all_eq_true.1 (List.all_eq_true.1 or_b v (List.mem_range.2 hv)) x (List.mem_range.2 hx)
  simpa using this

def fourB (p : Int × Int) : Bool := decide (p.1 = sg p.1) && decide (p.2 = sg p.2)
theorem fourB_iff (p : Int × Int) : fourB p = true ↔ four p := by
  unfold fourB four pm sg
  rw [Bool.and_eq_true, decide_eq_true_iff, decide_eq_true_iff]
  constructor
  · rintro ⟨h1, h2⟩
    split at h1 <;> split at h2 <;> omega
  · rintro ⟨h1, h2⟩
    constructor <;> split <;> omega
def okB (L : List (Int × Int)) : Bool := L.length % 4 == 0 && L.all fourB

/-- behind j points -/
def Backed (L : List (Int × Int)) (j : Nat) (cs : Array Value) : Prop := cs.size = L.length / 4 ∧ ∀ q, q < L.length / 4 → cs[q]? = some (.int .u8 ((pv L q (min 4 (j - 4 * q)) : Nat) : Int))
theorem Backed.step {L : List (Int × Int)} {j : Nat} {cs : Array Value} (h : Backed L j cs) {p : Int × Int} (hp : L[j]? = some p) : Backed L (j + 1) (cs.setIfInBounds (j / 4) (.int .u8 ((4 * pv L (j / 4) (j % 4) + dig p : Nat) : Int))) := by
  obtain ⟨hl, _⟩ := List.getElem?_eq_some_iff.1 hp
  refine ⟨by rw [Array.size_setIfInBounds]; exact h.1, fun q hq => ?_⟩
  rw [Array.getElem?_setIfInBounds]
  by_cases hjq : j / 4 = q
  · subst hjq
    rw [if_pos rfl, if_pos (by rw [h.1]; omega)]
    have e : min 4 (j + 1 - 4 * (j / 4)) = j % 4 + 1 := by omega
    rw [e]
    have e2 : L.getD (4 * (j / 4) + j % 4) (0, 0) = p := by
      rw [show 4 * (j / 4) + j % 4 = j by omega, List.getD_eq_getElem?_getD, hp]
      rfl
    rw [pv_succ, e2]
  · rw [if_neg hjq, h.2 q hq]
    have : min 4 (j + 1 - 4 * q) = min 4 (j - 4 * q) := by omega
    rw [this]
theorem Backed.cell {L : List (Int × Int)} {j : Nat} {cs : Array Value} (h : Backed L j cs) (hj : j / 4 < L.length / 4) : cs[j / 4]? = some (.int .u8 ((pv L (j / 4) (j % 4) : Nat) : Int)) := by
  have := h.2 (j / 4) hj
  rw [this, show min 4 (j - 4 * (j / 4)) = j % 4 by omega]

/-- bytes of a call's own -/
def BRow (w : World) (v : Value) (l : List Nat) : Prop := ∃ A, v = .slice A l.length l.length ∧ BSrc w A l
def BackAns (L : List (Int × Int)) (w : World) (e : Ending) (w' : World) : Prop :=
  ((okB L = true ∧ ∃ v, e = .returned (.tuple #[v, .int .i64 0]) ∧ BRow w' v (backB L)) ∨ (okB L = false ∧ e = .returned (.tuple #[.slice none 0 0, .int .i64 3]))) ∧ Below w.heap.size w w'

set_option maxHeartbeats 1600000 in
theorem back_t (A : Option Addr) (L : List (Int × Int)) (c : Nat) (w : World) (hn : L.length ≤ 100000) (hsm : ∀ p ∈ L, sml p.1 ∧ sml p.2) (hs : PSrc w A L) :
    Calls Try.prog 32 #[.slice A L.length c] w (BackAns L w) := by
  have HS := Lib.hid hs
  have HM := Lib.hid hsm
  clear hs hsm
  by_cases h4 : L.length % 4 = 0
  · have hmk := fun W => make_bytes ((L.length : Int) / 4) (by omega) (by omega) W
    have e4 : ((L.length : Int) / 4).toNat = L.length / 4 := by omega
    simp only [e4] at hmk
    have g4 : ((L.length : Int) % 4 != 0) = false := by simp; omega
    have H4 := Lib.hid h4
    clear e4 h4
    go_enter Try.func32, Try.ntmps32
    go_wp2_with fail
    clear hmk g4
    have HR0 := Lib.hid (Row.made w 5 (madeCells #[.int .u8 0] (L.length / 4)))
    have HT0 := Lib.hid (show Backed L 0 (madeCells #[.int .u8 0] (L.length / 4)) from ⟨size_madeCells _ _, fun q hq => by
      rw [Nat.zero_sub, Nat.min_zero]
      have h1 : q < (madeCells #[Value.int .u8 0] (L.length / 4)).size := by rw [size_madeCells]; exact hq
      rw [Array.getElem?_eq_getElem h1]
      simp [madeCells, pv, Nat.mod_one]⟩)
    have HF0 := Lib.hid (show (L.take 0).all fourB = true from rfl)
    have HB0 := Lib.hid (bl_alloc (Below.refl w.heap.size w) (.cells (madeCells #[.int .u8 0] (L.length / 4)) 5))
    go_loopw [17] (fun i wr => ∃ (j : Nat) (cs : Array Value), j ≤ L.length ∧ i = .int .i64 j ∧ Hid (Row wr w.heap.size 5 cs) ∧ Hid (Backed L j cs) ∧ Hid ((L.take j).all fourB = true) ∧ Hid (Below w.heap.size w wr)) (fun i _ => L.length - (intOf i).toNat)
    case atStart => exact ⟨0, _, by omega, rfl, HR0, HT0, HF0, HB0⟩
    case round =>
      obtain ⟨j, cs, hj, rfl, HR, HT, HF, HBW⟩ := hrel
      clear HR0 HT0 HB0 HF0
      by_cases hlt : j < L.length
      · obtain ⟨p, hp⟩ : ∃ p, L[j]? = some p := ⟨_, List.getElem?_eq_getElem hlt⟩
        obtain ⟨g, rfl, hc⟩ := HS.out j p hp
        have d0 := kept_box HBW.out hc
        obtain ⟨hs1, hs2⟩ := HM.out p (List.mem_of_getElem? hp)
        have hj0 : (0 : Int) ≤ (j : Int) := by omega
        have hj1 : (j : Int) < (L.length : Int) := by omega
        have e1 := fl_eq hs1 (show sml (sg p.1) by unfold sg sml; split <;> omega)
        have e2 := fl_eq hs2 (show sml (sg p.2) by unfold sg sml; split <;> omega)
        have HN := Lib.hid (fun W => near_t p hs1 hs2 W)
        have HP := Lib.hid hp
        clear hc hp
        cases hf : fourB p
        · have hor : (FloatKind.f64.format.order (fl p.1) (fl (sg p.1)) == some .eq) = false ∨ (FloatKind.f64.format.order (fl p.1) (fl (sg p.1)) == some .eq) = true ∧ (FloatKind.f64.format.order (fl p.2) (fl (sg p.2)) == some .eq) = false := by
            rw [e1, e2]
            unfold fourB at hf
            revert hf
            cases decide (p.1 = sg p.1) <;> cases decide (p.2 = sg p.2) <;> simp
          have HA := Lib.hid (show BackAns L w (.returned (.tuple #[.slice none 0 0, .int .i64 3])) wr from ⟨.inr ⟨by
            unfold okB
            have : L.all fourB = false := by
              rw [List.all_eq_false]
              exact ⟨p, List.mem_of_getElem? HP.out, by rw [hf]; simp⟩
            rw [this, Bool.and_false], rfl⟩, HBW.out⟩)
          clear e1 e2
          obtain ⟨a, b⟩ := p
          simp only [cpx] at d0 HN
          simp only at hor
          rcases hor with e1 | ⟨e1, e2⟩
          · go_wp2_with fail
            refine (HN.out _).mono ?_
            rintro e w1 ⟨rfl, rfl⟩
            go_wp2
            go_ret2
            exact HA.out
          · go_wp2_with fail
            refine (HN.out _).mono ?_
            rintro e w1 ⟨rfl, rfl⟩
            go_wp2
            go_ret2
            exact HA.out
        · have h1 : decide (p.1 = sg p.1) = true := by unfold fourB at hf; rw [Bool.and_eq_true] at hf; exact hf.1
          have h2 : decide (p.2 = sg p.2) = true := by unfold fourB at hf; rw [Bool.and_eq_true] at hf; exact hf.2
          rw [h1] at e1
          rw [h2] at e2
          have HE := Lib.hid (And.intro e1 e2)
          clear h1 h2 e1 e2
          obtain ⟨a, b⟩ := p
          simp only [cpx] at d0 HN
          have e1 := HE.out.1
          have e2 := HE.out.2
          simp only at e1 e2
          go_wp2_with fail
          refine (HN.out _).mono ?_
          rintro e w1 ⟨rfl, rfl⟩
          go_wp2_with fail
          have hq : j / 4 < L.length / 4 := by have := H4.out; omega
          have hcell := HR.out.read (HT.out.cell hq)
          have hfz := HR.out.free (j / 4)
          have hv : pv L (j / 4) (j % 4) < 64 := Nat.lt_of_lt_of_le (pv_lt L (j / 4) (j % 4)) (Nat.pow_le_pow_right (n := 4) (by omega) (show j % 4 ≤ 3 by omega))
          have hq2 : (j : Int) / 4 < (L.length : Int) / 4 := by omega
          obtain ⟨V, hV0⟩ : ∃ V, pv L (j / 4) (j % 4) = V := ⟨_, rfl⟩
          have hV := Lib.hid hV0
          rw [hV0] at hcell hv
          clear hV0
          have t1 : (j : Int).tdiv 4 = (j : Int) / 4 := Int.tdiv_eq_ediv_of_nonneg hj0
          have t2 : IntKind.i64.wrap ((j : Int) / 4) = (j : Int) / 4 := IntWalk.i64_in _ (by omega)
          have t3 : (0 : Int) ≤ (j : Int) / 4 := by omega
          have t4 : (j : Int) / 4 < ((L.length / 4 : Nat) : Int) := by omega
          have t5 : ((j : Int) / 4).toNat = j / 4 := by omega
          have hcell2 : wr.drew.cell? ⟨w.heap.size, j / 4, none⟩ = some (.int .u8 V) := hcell
          have hfz2 : wr.drew.frozen? ⟨w.heap.size, j / 4, none⟩ = false := hfz
          have HR2 := Lib.hid (show Row wr.drew w.heap.size 5 cs from HR.out)
          have HB2 := Lib.hid (HBW.out.drew)
          have s1 : IntKind.u8.wrap ((V : Int) * 4) = ((4 * V : Nat) : Int) := by
            have : IntKind.u8.wrap ((V : Int) * 4) = ((V : Int) * 4) % 256 := by simp [IntKind.wrap, IntKind.bits, IntKind.signed]
            rw [this]; omega
          have s2 : IntKind.u8.wrap (ngb a * 2) = ((2 * nb a : Nat) : Int) := by
            have : IntKind.u8.wrap (ngb a * 2) = (ngb a * 2) % 256 := by simp [IntKind.wrap, IntKind.bits, IntKind.signed]
            rw [this, ngb_nb]; have := nb_le a; omega
          have s3 : bits .or .u8 ((4 * V : Nat) : Int) ((2 * nb a : Nat) : Int) = ((4 * V + 2 * nb a : Nat) : Int) := or_one hv (by have := nb_le a; omega)
          have s4 : bits .or .u8 ((4 * V + 2 * nb a : Nat) : Int) (ngb b) = ((4 * V + dig (a, b) : Nat) : Int) := by
            rw [ngb_nb, show 4 * V + 2 * nb a = 2 * (2 * V + nb a) by omega, or_two (by have := nb_le a; omega) (by have := nb_le b; omega)]
            show ((2 * (2 * V + nb a) + nb b : Nat) : Int) = ((4 * V + (2 * nb a + nb b) : Nat) : Int)
            omega
          obtain ⟨D, hD⟩ : ∃ D : Nat, D = 4 * V + dig (a, b) := ⟨_, rfl⟩
          rw [← hD] at s4
          push_cast at s1 s2 s3 s4
          have HT2 := Lib.hid (show Backed L (j + 1) (cs.setIfInBounds (j / 4) (.int .u8 (D : Int))) from by
            have := HT.out.step HP.out
            rw [hV.out, ← hD] at this
            exact this)
          have HF2 := Lib.hid (show (L.take (j + 1)).all fourB = true by
            rw [List.take_add_one, HP.out, List.all_append, HF.out]
            simp [hf])
          have HR3 := Lib.hid (HR2.out.written (j / 4) (.int .u8 (D : Int)))
          have HB3 := Lib.hid (HB2.out.setCell (Nat.le_refl _) (p := ⟨w.heap.size, j / 4, none⟩) (.int .u8 (D : Int)))
          clear d0 hcell hfz e1 e2 hD
          refine wp_region_still_tail 19 (by kernel_rfl) (by kernel_rfl) ?_
          change wpStill _ _ wr.drew (fun a' => wpList _ _ _ _ a' wr.drew) _ _
          generalize wr.drew = w2 at *
          simp only [List.take_succ_cons, List.take_zero, List.drop_succ_cons, List.drop_zero]
          repeat still_step
          still_call ((bit_t a hs1 _).mono fun _ _ h => ⟨h.1, h.2.symm⟩)
          repeat still_step
          still_call ((bit_t b hs2 _).mono fun _ _ h => ⟨h.1, h.2.symm⟩)
          repeat still_step
          refine wpStill_nil ?_
          go_wp2
          go_roundw
          case rel => exact ⟨j + 1, _, by omega, by go_num, HR3, HT2, HF2, HB3⟩
          case measure => simp [intOf]; omega
      · obtain rfl : j = L.length := by omega
        have hj1 : ¬ (L.length : Int) < (L.length : Int) := by omega
        have HA := Lib.hid (show BackAns L w (.returned (.tuple #[.slice (some ⟨w.heap.size, 0, none⟩) (L.length / 4) (L.length / 4), .int .i64 0])) wr from by
          refine ⟨.inl ⟨?_, _, rfl, _, by rw [length_backB], fun q b hq => ⟨_, 0, rfl, ?_⟩⟩, HBW.out⟩
          · unfold okB
            have h1 := HF.out
            rw [List.take_length] at h1
            rw [h1, H4.out]
            rfl
          · rw [Nat.zero_add]
            have hl : q < L.length / 4 := by
              obtain ⟨h1, _⟩ := List.getElem?_eq_some_iff.1 hq
              rw [length_backB] at h1
              exact h1
            refine HR.out.read ?_
            rw [HT.out.2 q hl, show min 4 (L.length - 4 * q) = 4 by omega]
            unfold backB at hq
            rw [List.getElem?_map, List.getElem?_range hl] at hq
            simp at hq
            rw [hq])
        clear HR HT HF
        go_wp2
        go_ret2
        exact HA.out
  · have g4 : ((L.length : Int) % 4 != 0) = true := by simp; omega
    have HA := Lib.hid (show BackAns L w (.returned (.tuple #[.slice none 0 0, .int .i64 3])) w from ⟨.inr ⟨by unfold okB; rw [show (L.length % 4 == 0) = false by simpa using h4]; rfl, rfl⟩, Below.refl _ _⟩)
    clear h4
    go_enter Try.func32, Try.ntmps32
    go_wp2
    go_ret2
    exact HA.out
end Go.Proofs.Ytieokmmejdngcaa
