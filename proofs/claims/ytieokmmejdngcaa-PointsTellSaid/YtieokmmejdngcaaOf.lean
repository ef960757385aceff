/-
  The points of bytes.
-/
import Derived.Test.YtieokmmejdngcaaPList
namespace Go.Proofs.Ytieokmmejdngcaa
open Go.RowKit

def ptOf (b r : Nat) : Int × Int := (1 - 2 * ((b / 2 ^ (7 - 2 * r) % 2 : Nat) : Int), 1 - 2 * ((b / 2 ^ (6 - 2 * r) % 2 : Nat) : Int))
def ptsL (l : List Nat) : List (Int × Int) := (List.range (4 * l.length)).map fun i => ptOf (l.getD (i / 4) 0) (i % 4)
theorem length_ptsL (l : List Nat) : (ptsL l).length = 4 * l.length := by simp [ptsL]
theorem ptsL_at {l : List Nat} {i : Nat} {b : Nat} (h : l[i / 4]? = some b) : (ptsL l)[i]? = some (ptOf b (i % 4)) := by
  obtain ⟨hl, hb⟩ := List.getElem?_eq_some_iff.1 h
  unfold ptsL
  rw [List.getElem?_map, List.getElem?_range (by omega)]
  simp [h]
theorem ptOf_four (b r : Nat) : four (ptOf b r) := by
  unfold four pm ptOf
  simp only
  omega
theorem ptsL_four (l : List Nat) : ∀ p ∈ ptsL l, four p := by
  intro p hp
  unfold ptsL at hp
  obtain ⟨i, _, rfl⟩ := List.mem_map.1 hp
  exact ptOf_four _ _

theorem and1_u8 (n : Nat) : bits .and .u8 (n : Int) 1 = ((n % 2 : Nat) : Int) := by
  have h1 : (BitVec.ofInt 8 (n : Int) &&& BitVec.ofInt 8 1).toNat = n % 2 := by
    rw [BitVec.toNat_and, BitVec.toNat_ofInt]
    have e : (BitVec.ofInt 8 1).toNat = 2 ^ 1 - 1 := by decide
    rw [e, Nat.and_two_pow_sub_one_eq_mod]
    have e2 : ((2 ^ 8 : Nat) : Int) = 256 := by decide
    rw [e2]
    omega
  unfold bits
  show IntKind.u8.wrap (((BitVec.ofInt 8 (n : Int) &&& BitVec.ofInt 8 1).toNat : Nat) : Int) = _
  rw [h1]
  have e3 : IntKind.u8.wrap ((n % 2 : Nat) : Int) = ((n % 2 : Nat) : Int) % 256 := by simp [IntKind.wrap, IntKind.bits, IntKind.signed]
  rw [e3]
  omega
theorem ptOf_bits {b r : Nat} (hr : r < 4) :
    bits .and .u8 ((b : Int) / 2 ^ (6 - 2 * r) / 2) 1 = ((b / 2 ^ (7 - 2 * r) % 2 : Nat) : Int) ∧ bits .and .u8 ((b : Int) / 2 ^ (6 - 2 * r)) 1 = ((b / 2 ^ (6 - 2 * r) % 2 : Nat) : Int) := by
  have h1 : b / 2 ^ (6 - 2 * r) / 2 = b / 2 ^ (7 - 2 * r) := by
    rw [Nat.div_div_eq_div_mul, ← Nat.pow_succ, show (6 - 2 * r).succ = 7 - 2 * r by omega]
  constructor
  · have := and1_u8 (b / 2 ^ (6 - 2 * r) / 2)
    rw [h1] at this
    rw [← this, ← h1]
    push_cast
    rfl
  · have := and1_u8 (b / 2 ^ (6 - 2 * r))
    rw [← this]
    push_cast
    rfl

/-- where bytes lie -/
def BSrc (w : World) (A : Option Addr) (l : List Nat) : Prop := ∀ (i : Nat) (b : Nat), l[i]? = some b → ∃ g off, A = some ⟨g, off, none⟩ ∧ w.cell? ⟨g, off + i, none⟩ = some (.int .u8 b)
def Pointed (l : List Nat) (k : Nat) (cs : Array Value) : Prop := cs.size = 4 * l.length ∧ Fill cs k fun j => ((ptsL l)[j]?).map cpx

set_option maxHeartbeats 800000 in
theorem of_t (A : Option Addr) (l : List Nat) (c : Nat) (w : World) (hn : l.length ≤ 10000) (hb : ∀ b ∈ l, b < 256) (hs : BSrc w A l) :
    Calls Try.prog 24 #[.slice A l.length c] w fun e w' => (∃ v, e = .returned v ∧ PRow w' v (ptsL l)) ∧ Below w.heap.size w w' := by
  have HS := Lib.hid hs
  have HB := Lib.hid hb
  have hmk := fun W => make_pts (4 * (l.length : Int)) (by omega) (by omega) W
  have e4 : (4 * (l.length : Int)).toNat = 4 * l.length := by omega
  simp only [e4] at hmk
  clear hs hb e4
  go_enter Try.func24, Try.ntmps24
  go_wp2_with fail
  clear hmk
  have HR0 := Lib.hid (Row.made w 55 (madeCells #[.complex .f64 0 0] (4 * l.length)))
  have HT0 := Lib.hid (show Pointed l 0 (madeCells #[.complex .f64 0 0] (4 * l.length)) from ⟨size_madeCells _ _, fun j hj => by omega⟩)
  have HB0 := Lib.hid (bl_alloc (Below.refl w.heap.size w) (.cells (madeCells #[.complex .f64 0 0] (4 * l.length)) 55))
  go_loopw [12] (fun i wr => ∃ (j : Nat) (cs : Array Value), j ≤ 4 * l.length ∧ i = .int .i64 j ∧ Hid (Row wr w.heap.size 55 cs) ∧ Hid (Pointed l j cs) ∧ Hid (Below w.heap.size w wr)) (fun i _ => 4 * l.length - (intOf i).toNat)
  case atStart => exact ⟨0, _, by omega, rfl, HR0, HT0, HB0⟩
  case round =>
    obtain ⟨j, cs, hj, rfl, HR, HT, HBW⟩ := hrel
    clear HR0 HT0 HB0
    by_cases hlt : j < 4 * l.length
    · obtain ⟨b, hbl⟩ : ∃ b, l[j / 4]? = some b := ⟨_, List.getElem?_eq_getElem (by omega)⟩
      obtain ⟨g, off, rfl, hc⟩ := HS.out _ b hbl
      have d0 := kept_box HBW.out hc
      have hb8 := HB.out b (List.mem_of_getElem? hbl)
      have hold : wr.cell? ⟨w.heap.size, j, none⟩ = some (cs[j]'(by rw [HT.out.1]; exact hlt)) := HR.out.read (Array.getElem?_eq_getElem (by rw [HT.out.1]; exact hlt))
      have hfz := HR.out.free j
      have hj0 : (0 : Int) ≤ (j : Int) := by omega
      have hj1 : (j : Int) < 4 * (l.length : Int) := by omega
      have hj2 : (j : Int) / 4 < (l.length : Int) := by omega
      have hpt := ptsL_at hbl
      have hj4 : j % 4 < 4 := by omega
      obtain ⟨hA, hB⟩ := ptOf_bits (b := b) hj4
      have HR2 := Lib.hid (HR.out.written j (cpx (ptOf b (j % 4))))
      have HT2 := Lib.hid (show Pointed l (j + 1) (cs.setIfInBounds j (cpx (ptOf b (j % 4)))) from ⟨by rw [Array.size_setIfInBounds]; exact HT.out.1, HT.out.2.step (by simp only [hpt, Option.map_some]) (by rw [HT.out.1]; exact hlt)⟩)
      have HB2 := Lib.hid (HBW.out.setCell (Nat.le_refl _) (p := ⟨w.heap.size, j, none⟩) (cpx (ptOf b (j % 4))))
      simp only [cpx, ptOf] at HR2 HT2 HB2
      have hX : b / 2 ^ (7 - 2 * (j % 4)) % 2 = 0 ∨ b / 2 ^ (7 - 2 * (j % 4)) % 2 = 1 := by omega
      have hY : b / 2 ^ (6 - 2 * (j % 4)) % 2 = 0 ∨ b / 2 ^ (6 - 2 * (j % 4)) % 2 = 1 := by omega
      have HA := Lib.hid hA
      have HBB := Lib.hid hB
      generalize b / 2 ^ (7 - 2 * (j % 4)) % 2 = X at *
      generalize b / 2 ^ (6 - 2 * (j % 4)) % 2 = Y at *
      have hst := store_cpx (P := Try.prog) (fl (1 - 2 * (X : Int))) (fl (1 - 2 * (Y : Int))) hold hfz
      clear hc hbl hpt hA hB
      go_wp2_with fail
      rw [HA.out]
      refine (part_t (X : Int) (by omega) _).mono ?_
      rintro e w1 ⟨rfl, rfl⟩
      go_wp2_with fail
      rw [HBB.out]
      refine (part_t (Y : Int) (by omega) _).mono ?_
      rintro e w1 ⟨rfl, rfl⟩
      go_wp2
      go_roundw
      case rel => exact ⟨j + 1, _, by omega, by go_num, HR2, HT2, HB2⟩
      case measure => simp [intOf]; omega
    · obtain rfl : j = 4 * l.length := by omega
      have HF := Lib.hid (show PRow wr (.slice (some ⟨w.heap.size, 0, none⟩) (4 * l.length) (4 * l.length)) (ptsL l) from ⟨_, by rw [length_ptsL], PRow.of HR.out (by rw [length_ptsL]; exact HT.out.2)⟩)
      have hj1 : ¬ 4 * (l.length : Int) < 4 * (l.length : Int) := by omega
      clear HR HT
      go_wp2
      go_ret
      exact ⟨⟨_, rfl, HF.out⟩, HBW.out⟩
end Go.Proofs.Ytieokmmejdngcaa
