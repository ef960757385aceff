/-
  At how many places points have another nearest one; points added.
-/
import Derived.Test.YtieokmmejdngcaaTrunc
import Derived.StillTailTactics
namespace Go.Proofs.Ytieokmmejdngcaa
open Go.RowKit

def nearP (p : Int × Int) : Int × Int := (sg p.1, sg p.2)
def difB (p q : Int × Int) : Bool := !(decide (sg p.1 = sg q.1) && decide (sg p.2 = sg q.2))
/-- at how many places, of the first k, both have another nearest one -/
def errF (L M : List (Int × Int)) : Nat → Nat
  | 0 => 0
  | k + 1 => errF L M k + (difB (L.getD k (0, 0)) (M.getD k (0, 0))).toNat
theorem errF_le (L M : List (Int × Int)) (k : Nat) : errF L M k ≤ k := by
  induction k with
  | zero => exact Nat.le_refl _
  | succ k ih =>
    have := Bool.toNat_le (difB (L.getD k (0, 0)) (M.getD k (0, 0)))
    unfold errF
    omega
theorem errF_succ {L M : List (Int × Int)} {k : Nat} {p q : Int × Int} (hp : L[k]? = some p) (hq : M[k]? = some q) : errF L M (k + 1) = errF L M k + (difB p q).toNat := by
  show errF L M k + _ = _
  rw [List.getD_eq_getElem?_getD, List.getD_eq_getElem?_getD, hp, hq]
  rfl
theorem sml_sg (n : Int) : sml (sg n) := by unfold sg sml; split <;> omega

theorem errors_ne (A A' : Option Addr) (n m c c' : Nat) (h : n ≠ m) (w : World) :
    Calls Try.prog 34 #[.slice A n c, .slice A' m c'] w fun e w' => e = .returned (.tuple #[.int .i64 0, .int .i64 1]) ∧ w = w' := by
  have g : ((n : Int) != (m : Int)) = true := by simp; omega
  clear h
  go_enter Try.func34, Try.ntmps34
  go_wp2
  go_ret2
  exact ⟨rfl, rfl⟩

def ErrAns (L M : List (Int × Int)) (w : World) (e : Ending) (w' : World) : Prop := e = .returned (.tuple #[.int .i64 (errF L M L.length), .int .i64 0]) ∧ Below w.heap.size w w'
set_option maxHeartbeats 1600000 in
theorem errors_t (A A' : Option Addr) (L M : List (Int × Int)) (c c' : Nat) (w : World) (hn : L.length ≤ 100000) (hl : M.length = L.length) (hsl : ∀ p ∈ L, sml p.1 ∧ sml p.2) (hsm : ∀ p ∈ M, sml p.1 ∧ sml p.2) (hs : PSrc w A L) (hs' : PSrc w A' M) :
    Calls Try.prog 34 #[.slice A L.length c, .slice A' M.length c'] w (ErrAns L M w) := by
  have HS := Lib.hid hs
  have HS' := Lib.hid hs'
  have HL := Lib.hid hsl
  have HM := Lib.hid hsm
  have HLen := Lib.hid hl
  rw [hl]
  clear hs hs' hsl hsm hl
  have HB0 := Lib.hid (Below.refl w.heap.size w)
  go_enter Try.func34, Try.ntmps34
  go_wp2_with fail
  go_loopw [6, 15] (fun s i wr => ∃ j : Nat, j ≤ L.length ∧ s = .int .i64 (errF L M j) ∧ i = .int .i64 j ∧ Hid (Below w.heap.size w wr)) (fun _ i _ => L.length - (intOf i).toNat)
  case atStart => exact ⟨0, by omega, rfl, rfl, HB0⟩
  case round =>
    obtain ⟨j, hj, rfl, rfl, HB⟩ := hrel
    clear HB0
    by_cases hlt : j < L.length
    · obtain ⟨p, hp⟩ : ∃ p, L[j]? = some p := ⟨_, List.getElem?_eq_getElem hlt⟩
      obtain ⟨q, hq⟩ : ∃ q, M[j]? = some q := ⟨_, List.getElem?_eq_getElem (by rw [HLen.out]; exact hlt)⟩
      obtain ⟨g, rfl, hc⟩ := HS.out j p hp
      obtain ⟨g', rfl, hc'⟩ := HS'.out j q hq
      have d0 : wr.drew.cell? ⟨g, j, none⟩ = some (cpx p) := kept_box HB.out.drew hc
      have d1 : wr.drew.cell? ⟨g', j, none⟩ = some (cpx q) := kept_box HB.out.drew hc'
      obtain ⟨h1, h2⟩ := HL.out p (List.mem_of_getElem? hp)
      obtain ⟨h3, h4⟩ := HM.out q (List.mem_of_getElem? hq)
      have hj0 : (0 : Int) ≤ (j : Int) := by omega
      have hj1 : (j : Int) < (L.length : Int) := by omega
      have HE := Lib.hid (errF_succ hp hq)
      have hle := errF_le L M j
      have e1 := fl_eq (sml_sg p.1) (sml_sg q.1)
      have e2 := fl_eq (sml_sg p.2) (sml_sg q.2)
      have HN1 := Lib.hid (near_t p h1 h2 wr.drew)
      have HN2 := Lib.hid (near_t q h3 h4 wr.drew)
      have HB2 := Lib.hid (HB.out.drew)
      generalize errF L M j = S at *
      clear hc hc' hp hq h1 h2 h3 h4
      have hd : difB p q = !(decide (sg p.1 = sg q.1) && decide (sg p.2 = sg q.2)) := rfl
      rw [← e1, ← e2] at hd
      have HD := Lib.hid hd
      clear hd e1 e2
      obtain ⟨a, b⟩ := p
      obtain ⟨a', b'⟩ := q
      simp only [cpx] at d0 d1 HN1 HN2
      simp only at HD
      cases f1 : (FloatKind.f64.format.order (fl (sg a)) (fl (sg a')) == some .eq) <;> cases f2 : (FloatKind.f64.format.order (fl (sg b)) (fl (sg b')) == some .eq)
      all_goals
        go_wp2_with fail
        refine wp_region_still_lit (by kernel_rfl) (by kernel_rfl) ?_
        change wpStill _ _ wr.drew (fun b => _) _ _
        generalize wr.drew = w2 at d0 d1 HN1 HN2 ⊢
        repeat still_step
        still_call (HN1.out.mono fun _ _ h => ⟨h.1, h.2.symm⟩)
        repeat still_step
        still_call (HN2.out.mono fun _ _ h => ⟨h.1, h.2.symm⟩)
        repeat still_step
        refine wpStill_nil ?_
        rw [f1, f2] at HD
        go_wp2
        go_roundw
        case rel => exact ⟨j + 1, by omega, by rw [HE.out, HD.out]; first | go_num | rfl, by go_num, HB2⟩
        case measure => simp [intOf]; omega
    · obtain rfl : j = L.length := by omega
      have hj1 : ¬ (L.length : Int) < (L.length : Int) := by omega
      have HA := Lib.hid (show ErrAns L M w (.returned (.tuple #[.int .i64 (errF L M L.length), .int .i64 0])) wr from ⟨rfl, HB.out⟩)
      go_wp2
      go_ret2
      exact HA.out

/-- points added, place by place -/
def mixF (L M : List (Int × Int)) : List (Int × Int) := (List.range L.length).map fun j => ((L.getD j (0, 0)).1 + (M.getD j (0, 0)).1, (L.getD j (0, 0)).2 + (M.getD j (0, 0)).2)
theorem length_mixF (L M : List (Int × Int)) : (mixF L M).length = L.length := by simp [mixF]
theorem mixF_at {L M : List (Int × Int)} {k : Nat} {p q : Int × Int} (hp : L[k]? = some p) (hq : M[k]? = some q) : (mixF L M)[k]? = some (p.1 + q.1, p.2 + q.2) := by
  obtain ⟨hl, _⟩ := List.getElem?_eq_some_iff.1 hp
  unfold mixF
  rw [List.getElem?_map, List.getElem?_range hl]
  simp [hp, hq]
theorem mix_ne (A A' : Option Addr) (n m c c' : Nat) (h : n ≠ m) (w : World) :
    Calls Try.prog 35 #[.slice A n c, .slice A' m c'] w fun e w' => e = .returned (.tuple #[.slice none 0 0, .int .i64 1]) ∧ w = w' := by
  have g : ((n : Int) != (m : Int)) = true := by simp; omega
  clear h
  go_enter Try.func35, Try.ntmps35
  go_wp2
  go_ret2
  exact ⟨rfl, rfl⟩
def Mixed (L M : List (Int × Int)) (k : Nat) (cs : Array Value) : Prop := cs.size = L.length ∧ Fill cs k fun j => ((mixF L M)[j]?).map cpx
def MixAns (L M : List (Int × Int)) (w : World) (e : Ending) (w' : World) : Prop := (∃ v, e = .returned (.tuple #[v, .int .i64 0]) ∧ PRow w' v (mixF L M)) ∧ Below w.heap.size w w'
theorem fl_sum {a b c d : Int} (ha : sml a) (hb : sml b) (hc : sml c) (hd : sml d) : cSumBits .add .f64 (fl a) (fl b) (fl c) (fl d) = some (fl (a + c), fl (b + d)) := by
  unfold cSumBits
  have h1 : floatBits .add .f64 (fl a) (fl c) = some (fl (a + c)) := F_add (sml_abs ha) (sml_abs hc) (by unfold sml at *; omega)
  have h2 : floatBits .add .f64 (fl b) (fl d) = some (fl (b + d)) := F_add (sml_abs hb) (sml_abs hd) (by unfold sml at *; omega)
  rw [h1, h2]
  rfl

set_option maxHeartbeats 1600000 in
theorem mix_t (A A' : Option Addr) (L M : List (Int × Int)) (c c' : Nat) (w : World) (hn : L.length ≤ 100000) (hl : M.length = L.length) (hsl : ∀ p ∈ L, sml p.1 ∧ sml p.2) (hsm : ∀ p ∈ M, sml p.1 ∧ sml p.2) (hs : PSrc w A L) (hs' : PSrc w A' M) :
    Calls Try.prog 35 #[.slice A L.length c, .slice A' M.length c'] w (MixAns L M w) := by
  have HS := Lib.hid hs
  have HS' := Lib.hid hs'
  have HL := Lib.hid hsl
  have HM := Lib.hid hsm
  have HLen := Lib.hid hl
  rw [hl]
  have hmk := fun W => make_pts (L.length : Int) (by omega) (by omega) W
  simp only [Int.toNat_natCast] at hmk
  clear hs hs' hsl hsm hl
  go_enter Try.func35, Try.ntmps35
  go_wp2_with fail
  clear hmk
  have HR0 := Lib.hid (Row.made w 55 (madeCells #[.complex .f64 0 0] L.length))
  have HT0 := Lib.hid (show Mixed L M 0 (madeCells #[.complex .f64 0 0] L.length) from ⟨size_madeCells _ _, fun j hj => by omega⟩)
  have HB0 := Lib.hid (bl_alloc (Below.refl w.heap.size w) (.cells (madeCells #[.complex .f64 0 0] L.length) 55))
  go_loopw [18] (fun i wr => ∃ (j : Nat) (cs : Array Value), j ≤ L.length ∧ i = .int .i64 j ∧ Hid (Row wr w.heap.size 55 cs) ∧ Hid (Mixed L M j cs) ∧ Hid (Below w.heap.size w wr)) (fun i _ => L.length - (intOf i).toNat)
  case atStart => exact ⟨0, _, by omega, rfl, HR0, HT0, HB0⟩
  case round =>
    obtain ⟨j, cs, hj, rfl, HR, HT, HB⟩ := hrel
    clear HR0 HT0 HB0
    by_cases hlt : j < L.length
    · obtain ⟨p, hp⟩ : ∃ p, L[j]? = some p := ⟨_, List.getElem?_eq_getElem hlt⟩
      obtain ⟨q, hq⟩ : ∃ q, M[j]? = some q := ⟨_, List.getElem?_eq_getElem (by rw [HLen.out]; exact hlt)⟩
      obtain ⟨g, rfl, hc⟩ := HS.out j p hp
      obtain ⟨g', rfl, hc'⟩ := HS'.out j q hq
      have d0 : wr.drew.cell? ⟨g, j, none⟩ = some (cpx p) := kept_box HB.out.drew hc
      have d1 : wr.drew.cell? ⟨g', j, none⟩ = some (cpx q) := kept_box HB.out.drew hc'
      obtain ⟨h1, h2⟩ := HL.out p (List.mem_of_getElem? hp)
      obtain ⟨h3, h4⟩ := HM.out q (List.mem_of_getElem? hq)
      have hold : wr.drew.cell? ⟨w.heap.size, j, none⟩ = some (cs[j]'(by rw [HT.out.1]; exact hlt)) := HR.out.read (Array.getElem?_eq_getElem (by rw [HT.out.1]; exact hlt))
      have hfz : wr.drew.frozen? ⟨w.heap.size, j, none⟩ = false := HR.out.free j
      have hj0 : (0 : Int) ≤ (j : Int) := by omega
      have hj1 : (j : Int) < (L.length : Int) := by omega
      have HR2 := Lib.hid ((show Row wr.drew w.heap.size 55 cs from HR.out).written j (cpx (p.1 + q.1, p.2 + q.2)))
      have HT2 := Lib.hid (show Mixed L M (j + 1) (cs.setIfInBounds j (cpx (p.1 + q.1, p.2 + q.2))) from ⟨by rw [Array.size_setIfInBounds]; exact HT.out.1, HT.out.2.step (by simp only [mixF_at hp hq, Option.map_some]) (by rw [HT.out.1]; exact hlt)⟩)
      have HB2 := Lib.hid (HB.out.drew.setCell (Nat.le_refl _) (p := ⟨w.heap.size, j, none⟩) (cpx (p.1 + q.1, p.2 + q.2)))
      have hop := fun t W => run_complex_sum (P := Try.prog) W .add (Or.inl rfl) t .f64 _ _ _ _ _ _ (fl_sum h1 h2 h3 h4)
      have hst := store_cpx (P := Try.prog) (fl (p.1 + q.1)) (fl (p.2 + q.2)) hold hfz
      clear hc hc' hp hq h1 h2 h3 h4
      obtain ⟨a, b⟩ := p
      obtain ⟨a', b'⟩ := q
      simp only [cpx] at d0 d1 HR2 HT2 HB2 hop hst
      go_wp2_with fail
      refine wp_region_still_tail 12 (by kernel_rfl) (by kernel_rfl) ?_
      change wpStill _ _ wr.drew (fun b => wpList _ _ _ _ b wr.drew) _ _
      generalize wr.drew = w2 at *
      simp only [List.take_succ_cons, List.take_zero, List.drop_succ_cons, List.drop_zero]
      repeat still_step
      refine wpStill_nil ?_
      go_wp2
      go_roundw
      case rel => exact ⟨j + 1, _, by omega, by go_num, HR2, HT2, HB2⟩
      case measure => simp [intOf]; omega
    · obtain rfl : j = L.length := by omega
      have hj1 : ¬ (L.length : Int) < (L.length : Int) := by omega
      have HA := Lib.hid (show MixAns L M w (.returned (.tuple #[.slice (some ⟨w.heap.size, 0, none⟩) L.length L.length, .int .i64 0])) wr from ⟨⟨_, rfl, _, by rw [length_mixF], PRow.of HR.out (by rw [length_mixF]; exact HT.out.2)⟩, HB.out⟩)
      clear HR HT
      go_wp2
      go_ret2
      exact HA.out
end Go.Proofs.Ytieokmmejdngcaa
