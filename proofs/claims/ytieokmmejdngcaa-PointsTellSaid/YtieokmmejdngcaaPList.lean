/-
  Lists of points; points turned.
-/
import Derived.Test.YtieokmmejdngcaaTurn
import Derived.Laws.MakeOwn
namespace Go.Proofs.Ytieokmmejdngcaa
open Go.RowKit

theorem Try.info55 : (Try.prog.info? 55).map (fun i => (i.zero, i.size, i.bytes)) = some (some (.complex .f64 0 0), 1, 16) := by kernel_rfl
theorem Try.info5 : (Try.prog.info? 5).map (fun i => (i.zero, i.size, i.bytes)) = some (some (.int .u8 0), 1, 1) := by kernel_rfl
theorem info_partsP {P : Program} {e : TypeId} {z : Value} {size bytes : Nat} (h : (P.info? e).map (fun i => (i.zero, i.size, i.bytes)) = some (some z, size, bytes)) : ∃ i, P.info? e = some i ∧ i.zero = some z ∧ i.size = size ∧ i.bytes = bytes := by
  obtain ⟨i, hi, h⟩ := Option.map_eq_some_iff.1 h
  injection h with h1 h2
  injection h2 with h2 h3
  exact ⟨i, hi, h1, h2, h3⟩
theorem Try.under46 : Try.prog.underlying 46 = some (.slice 55) := by kernel_rfl
theorem Try.under44 : Try.prog.underlying 44 = some (.slice 5) := by kernel_rfl

theorem make_pts (x : Int) (h0 : 0 ≤ x) (h1 : x ≤ 1000000) (w : World) :
    (Instr.makeSlice 46 (.int .i64 x) (.int .i64 x)).run Try.prog w = .ok (.slice (some ⟨w.heap.size, 0, none⟩) x.toNat x.toNat) (w.alloc (.cells (madeCells #[.complex .f64 0 0] x.toNat) 55)) := by
  obtain ⟨i, hi, hz, hs, hb⟩ := info_partsP Try.info55
  have h := run_make (P := Try.prog) w 46 55 i _ Try.under46 hi hz .i64 .i64 x x h0 (Int.le_refl _) (by rw [hb]; omega) (by omega)
  rw [h, hs, Nat.mul_one]
  rfl
theorem make_bytes (x : Int) (h0 : 0 ≤ x) (h1 : x ≤ 1000000) (w : World) :
    (Instr.makeSlice 44 (.int .i64 x) (.int .i64 x)).run Try.prog w = .ok (.slice (some ⟨w.heap.size, 0, none⟩) x.toNat x.toNat) (w.alloc (.cells (madeCells #[.int .u8 0] x.toNat) 5)) := by
  obtain ⟨i, hi, hz, hs, hb⟩ := info_partsP Try.info5
  have h := run_make (P := Try.prog) w 44 5 i _ Try.under44 hi hz .i64 .i64 x x h0 (Int.le_refl _) (by rw [hb]; omega) (by omega)
  rw [h, hs, Nat.mul_one]
  rfl

/-- where points lie -/
def PSrc (w : World) (A : Option Addr) (L : List (Int × Int)) : Prop := ∀ (i : Nat) (p : Int × Int), L[i]? = some p → ∃ g, A = some ⟨g, 0, none⟩ ∧ w.cell? ⟨g, i, none⟩ = some (cpx p)
theorem PSrc.later {w v : World} {A : Option Addr} {L : List (Int × Int)} (h : PSrc w A L) (hb : Below w.heap.size w v) : PSrc v A L := fun i p hp => by
  obtain ⟨g, h1, h2⟩ := h i p hp
  exact ⟨g, h1, kept_box hb h2⟩
/-- the first k cells of a block are these -/
def Fill (cs : Array Value) (k : Nat) (f : Nat → Option Value) : Prop := ∀ j, j < k → cs[j]? = f j
theorem Fill.step {cs : Array Value} {k : Nat} {f : Nat → Option Value} (h : Fill cs k f) {v : Value} (hv : f k = some v) (hk : k < cs.size) : Fill (cs.setIfInBounds k v) (k + 1) f := fun j hj => by
  rw [Array.getElem?_setIfInBounds]
  by_cases hjk : k = j
  · subst hjk
    rw [if_pos rfl, if_pos hk, hv]
  · rw [if_neg hjk]
    exact h j (by omega)
def PRow (w : World) (v : Value) (L : List (Int × Int)) : Prop := ∃ A, v = .slice A L.length L.length ∧ PSrc w A L
theorem PRow.of {w : World} {g : Nat} {cs : Array Value} {t : TypeId} {L : List (Int × Int)} (hr : Row w g t cs) (hf : Fill cs L.length fun j => (L[j]?).map cpx) : PSrc w (some ⟨g, 0, none⟩) L := fun i p hp => by
  refine ⟨g, rfl, hr.read ?_⟩
  have hl : i < L.length := by
    obtain ⟨h1, _⟩ := List.getElem?_eq_some_iff.1 hp
    exact h1
  have := hf i hl
  simp only [hp, Option.map_some] at this
  exact this

theorem and3 (k : Int) : bits .and .i64 k 3 = k % 4 := by
  have h : (BitVec.ofInt 64 k &&& BitVec.ofInt 64 3).toNat = (k % 4).toNat := by
    rw [BitVec.toNat_and, BitVec.toNat_ofInt]
    have e : (BitVec.ofInt 64 3).toNat = 2 ^ 2 - 1 := by decide
    rw [e, Nat.and_two_pow_sub_one_eq_mod]
    have e2 : ((2 ^ 64 : Nat) : Int) = 18446744073709551616 := by decide
    rw [e2]
    omega
  unfold bits
  show IntKind.i64.wrap (((BitVec.ofInt 64 k &&& BitVec.ofInt 64 3).toNat : Nat) : Int) = _
  rw [h]
  have : (((k % 4).toNat : Nat) : Int) = k % 4 := by omega
  rw [this]
  exact IntWalk.i64_in _ (by omega)

theorem store_cpx {P : Program} {w : World} {a : Addr} {v0 : Value} (re im : Nat) (hc : w.cell? a = some v0) (hf : w.frozen? a = false) : (store a (.complex .f64 re im)).run P w = .ok () (w.setCell a (.complex .f64 re im)) := by
  rw [run_store P w a _ _ rfl]
  simp [hc, hf]
theorem store_flt {P : Program} {w : World} {a : Addr} {v0 : Value} (x : Nat) (hc : w.cell? a = some v0) (hf : w.frozen? a = false) : (store a (.float .f64 x)).run P w = .ok () (w.setCell a (.float .f64 x)) := by
  rw [run_store P w a _ _ rfl]
  simp [hc, hf]

def Turned (L : List (Int × Int)) (q : Nat) (k : Nat) (cs : Array Value) : Prop := cs.size = L.length ∧ Fill cs k fun j => ((L.map (turnN q))[j]?).map cpx
set_option maxHeartbeats 800000 in
theorem turn_t (A : Option Addr) (L : List (Int × Int)) (c : Nat) (k : Int) (w : World) (hn : L.length ≤ 100000) (h4 : ∀ p ∈ L, four p) (hs : PSrc w A L) :
    Calls Try.prog 26 #[.slice A L.length c, .int .i64 k] w fun e w' => (∃ v, e = .returned v ∧ PRow w' v (L.map (turnN (k % 4).toNat))) ∧ Below w.heap.size w w' := by
  have HS := Lib.hid hs
  have H4 := Lib.hid h4
  have hmk := fun W => make_pts (L.length : Int) (by omega) (by omega) W
  simp only [Int.toNat_natCast] at hmk
  have ha := and3 k
  have hk0 : 0 ≤ k % 4 := by omega
  have hk4 : k % 4 < 4 := by omega
  generalize k % 4 = m at *
  obtain ⟨q, rfl⟩ : ∃ q : Nat, m = q := ⟨m.toNat, by omega⟩
  rw [Int.toNat_natCast]
  clear hs h4
  go_enter Try.func26, Try.ntmps26
  go_wp2_with fail
  clear ha hmk
  have HR0 := Lib.hid (Row.made w 55 (madeCells #[.complex .f64 0 0] L.length))
  have HT0 := Lib.hid (show Turned L q 0 (madeCells #[.complex .f64 0 0] L.length) from ⟨size_madeCells _ _, fun j hj => by omega⟩)
  have HB0 := Lib.hid (bl_alloc (Below.refl w.heap.size w) (.cells (madeCells #[.complex .f64 0 0] L.length) 55))
  go_loopw [16] (fun i wr => ∃ (j : Nat) (cs : Array Value), j ≤ L.length ∧ i = .int .i64 j ∧ Hid (Row wr w.heap.size 55 cs) ∧ Hid (Turned L q j cs) ∧ Hid (Below w.heap.size w wr)) (fun i _ => L.length - (intOf i).toNat)
  case atStart => exact ⟨0, _, by omega, rfl, HR0, HT0, HB0⟩
  case round =>
    obtain ⟨j, cs, hj, rfl, HR, HT, HB⟩ := hrel
    clear HR0 HT0 HB0
    by_cases hlt : j < L.length
    · obtain ⟨p, hp⟩ : ∃ p, L[j]? = some p := ⟨_, List.getElem?_eq_getElem hlt⟩
      obtain ⟨g, rfl, hc⟩ := HS.out j p hp
      have d0 := kept_box HB.out hc
      have h4 := Lib.hid (H4.out p (List.mem_of_getElem? hp))
      have hold : wr.cell? ⟨w.heap.size, j, none⟩ = some (cs[j]'(by rw [HT.out.1]; exact hlt)) := HR.out.read (Array.getElem?_eq_getElem (by rw [HT.out.1]; exact hlt))
      have hfz := HR.out.free j
      have HR2 := Lib.hid (HR.out.written j (cpx (turnN q p)))
      have HT2 := Lib.hid (show Turned L q (j + 1) (cs.setIfInBounds j (cpx (turnN q p))) from ⟨by rw [Array.size_setIfInBounds]; exact HT.out.1, HT.out.2.step (by simp only [List.getElem?_map, hp, Option.map_some]) (by rw [HT.out.1]; exact hlt)⟩)
      have HB2 := Lib.hid (HB.out.setCell (Nat.le_refl _) (p := ⟨w.heap.size, j, none⟩) (cpx (turnN q p)))
      have hj0 : (0 : Int) ≤ (j : Int) := by omega
      have hj1 : (j : Int) < (L.length : Int) := by omega
      have hts := fun W => turned_t p h4.out q (by omega) W
      clear hc hp
      generalize turnN q p = r at *
      obtain ⟨a, b⟩ := p
      obtain ⟨c1, c2⟩ := r
      simp only [cpx] at d0 HR2 HT2 HB2 hts
      have HTS := Lib.hid hts
      have hst := store_cpx (P := Try.prog) (fl c1) (fl c2) hold hfz
      clear hts
      go_wp2_with fail
      refine (HTS.out _).mono ?_
      rintro e w1 ⟨rfl, rfl⟩
      go_wp2
      go_roundw
      case rel => exact ⟨j + 1, _, by omega, by go_num, HR2, HT2, HB2⟩
      case measure => simp [intOf]; omega
    · obtain rfl : j = L.length := by omega
      have hj1 : ¬ (L.length : Int) < (L.length : Int) := by omega
      have HF := Lib.hid (show PRow wr (.slice (some ⟨w.heap.size, 0, none⟩) L.length L.length) (L.map (turnN q)) from ⟨_, by rw [List.length_map], PRow.of HR.out (by rw [List.length_map]; exact HT.out.2)⟩)
      clear HR HT
      go_wp2
      go_ret
      exact ⟨⟨_, rfl, HF.out⟩, HB.out⟩
end Go.Proofs.Ytieokmmejdngcaa
