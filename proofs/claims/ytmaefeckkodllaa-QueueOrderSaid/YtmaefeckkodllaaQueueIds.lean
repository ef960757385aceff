/-
  The numbers of a queue's texts; where one stands.
-/
import Derived.Test.YtmaefeckkodllaaQueueOps
import Derived.ScopeJumps
namespace Go.Proofs.Ytmaefeckkodllaa
open Go.RowKit

theorem Try.info67 : (Try.prog.info? 67).map (fun i => (i.zero, i.size, i.bytes)) = some (some (.int .u64 0), 1, 8) := by kernel_rfl
theorem info67_parts : ∃ i, Try.prog.info? 67 = some i ∧ i.zero = some (.int .u64 0) ∧ i.size = 1 ∧ i.bytes = 8 := info_parts Try.info67

def idv (ts : List Txt) : List Value := ts.map fun t => .int .u64 t.id
theorem length_idv (ts : List Txt) : (idv ts).length = ts.length := by simp [idv]
def zero64 (n : Nat) : List Value := List.replicate n (.int .u64 0)
theorem make_ids (n : Nat) (h : n ≤ 1000000) (w : World) :
    (Instr.makeSlice 74 (.int .i64 (n : Int)) (.int .i64 (n : Int))).run Try.prog w = .ok (.slice (some ⟨w.heap.size, 0, none⟩) n n) (w.alloc (.cells (zero64 n).toArray 67)) := by
  obtain ⟨i, hi, hz, hs, hb⟩ := info67_parts
  have h := run_make (P := Try.prog) w 74 67 i _ Try.underlying74 hi hz .i64 .i64 n n (by omega) (Int.le_refl _) (by rw [hb]; omega) (by omega)
  rw [h, hs, Nat.mul_one, Int.toNat_natCast]
  have e : madeCells #[.int .u64 0] n = (zero64 n).toArray := by
    apply Array.toList_inj.1
    rw [toList_madeCells_one]
    simp [zero64]
  rw [← e]
  rfl
/-- the numbers so far, noughts behind -/
def idPart (ts : List Txt) (k : Nat) : List Value := idv (ts.take k) ++ zero64 (ts.length - k)
theorem idPart_step {ts : List Txt} {k : Nat} {t : Txt} (h : ts[k]? = some t) : (idPart ts k).set k (.int .u64 t.id) = idPart ts (k + 1) := by
  have hk : k < ts.length := (List.getElem?_eq_some_iff.1 h).1
  unfold idPart
  rw [q_take_snoc h]
  have e1 : (idv (ts.take k)).length = k := by rw [length_idv]; simp; omega
  have e2 : ts.length - k = (ts.length - (k + 1)) + 1 := by omega
  rw [e2]
  unfold zero64
  rw [List.replicate_succ, List.set_append_right _ _ (by omega), e1, Nat.sub_self, List.set_cons_zero]
  simp [idv]
theorem idPart_end (ts : List Txt) : idPart ts ts.length = idv ts := by simp [idPart, zero64]

/-- numbers handed out -/
def IdsDone (ts : List Txt) (w : World) (e : Ending) (w' : World) : Prop := ∃ g, e = .returned (.slice (some ⟨g, 0, none⟩) ts.length ts.length) ∧ w.heap.size ≤ g ∧ Row w' g 67 (idv ts).toArray ∧ Below w.heap.size w w'

set_option maxRecDepth 100000 in
set_option maxHeartbeats 1600000 in
theorem ids_any {B p last : Nat} {room : Int} {ts : List Txt} {w : World} (h : QRep B w p room last ts) (hr : 0 < room) (hl : ts.length ≤ 100000) :
    Calls Try.prog 43 #[.pointer (some ⟨p, 0, none⟩)] w (IdsDone ts w) := by
  obtain ⟨hB, hB2, sv, hrow, hown, _⟩ := h
  have c2 : w.cell? ⟨p, 2, none⟩ = some sv := hrow.read rfl
  have hrow2 := hrow.more (.cells (zero64 ts.length).toArray 67)
  have c3 : (w.alloc (.cells (zero64 ts.length).toArray 67)).cell? ⟨p, 2, none⟩ = some sv := hrow2.read rfl
  have HROW := Lib.hid hrow
  have HOWN := Lib.hid hown
  have hmk := make_ids ts.length (by omega) w
  have hr0 := Row.made w 67 (zero64 ts.length).toArray
  have HR0 := Lib.hid (show Row (w.alloc (.cells (zero64 ts.length).toArray 67)) w.heap.size 67 (idPart ts 0).toArray from by simpa [idPart, idv] using hr0)
  have HB0 := Lib.hid (bl_alloc (Below.refl w.heap.size w) (.cells (zero64 ts.length).toArray 67))
  obtain ⟨A, cap, rfl, hcap, hmx⟩ := hown.shape
  unfold maxLen at hmx
  clear hrow hown hrow2 hr0
  go_enter Try.func43, Try.ntmps43
  go_wp2_with (go_at_call 58; refine (none_not HROW.out hr).mono ?_; rintro e _ ⟨rfl, rfl⟩)
  go_loopw [19] (fun i wr => ∃ k : Nat, k ≤ ts.length ∧ i = .int .i64 k ∧ Row wr w.heap.size 67 (idPart ts k).toArray ∧ Below w.heap.size w wr) (fun i _ => ts.length - (intOf i).toNat)
  case atStart => exact ⟨0, by omega, rfl, HR0.out, HB0.out⟩
  case round =>
    obtain ⟨k, hk, rfl, hrw, hbr⟩ := hrel
    have HBR := Lib.hid hbr
    by_cases hlt : k < ts.length
    · obtain ⟨t, ht⟩ : ∃ t, ts[k]? = some t := ⟨_, List.getElem?_eq_getElem hlt⟩
      obtain ⟨g, cap', hv, hc1, hc2⟩ := HOWN.out.form (by omega)
      injection hv with hA _ hcc
      subst hA
      subst hcc
      have hcell := HOWN.out.cells (g := g) rfl
      obtain ⟨a0, a1, a2⟩ := txc_at ht
      have d0 := kept_box HBR.out (hcell _ _ a0)
      have d1 := kept_box HBR.out (hcell _ _ a1)
      have d2 := kept_box HBR.out (hcell _ _ a2)
      unfold Txt.waits at d1
      have hrw2 := hrw.more (.cells #[.int .u64 t.id, .slice (some ⟨t.g, t.off, none⟩) t.bs.length t.cap, .bool t.bg] 98)
      have e1 : (idPart ts k).length = ts.length := by unfold idPart; rw [List.length_append, length_idv]; simp [zero64]; omega
      have hsome : ∃ x, (idPart ts k).toArray[k]? = some x := ⟨_, Array.getElem?_eq_getElem (by simp; omega)⟩
      obtain ⟨x, hx⟩ := hsome
      have cz := hrw2.read hx
      have fz := hrw2.free k
      have hst := hrw2.written k (.int .u64 t.id)
      have HST := Lib.hid (show Row ((wr.alloc (.cells #[.int .u64 t.id, .slice (some ⟨t.g, t.off, none⟩) t.bs.length t.cap, .bool t.bg] 98)).setCell ⟨w.heap.size, k, none⟩ (.int .u64 t.id)) w.heap.size 67 (idPart ts (k + 1)).toArray from by
        rw [← idPart_step ht]; simpa using hst)
      have HBN := Lib.hid (((Only.of_below (S := fun k => k = w.heap.size) HBR.out).alloc (.cells #[.int .u64 t.id, .slice (some ⟨t.g, t.off, none⟩) t.bs.length t.cap, .bool t.bg] 98)).set (p := ⟨w.heap.size, k, none⟩) (.inl rfl) (.int .u64 t.id) |>.below (Nat.le_refl _) (fun k hk hh => by omega))
      clear hcell a0 a1 a2 ht hc1 hc2 hrw hrw2 hst hx hbr e1
      have hi0 : (0 : Int) ≤ (k : Int) := by omega
      have hi1 : (k : Int) < (ts.length : Int) := by omega
      go_wp2
      go_roundw
      case rel => exact ⟨k + 1, by omega, by go_num, HST.out, HBN.out⟩
      case measure => simp [intOf]; omega
    · obtain rfl : k = ts.length := by omega
      rw [idPart_end] at hrw
      have HF : Hid (IdsDone ts w (.returned (.slice (some ⟨w.heap.size, 0, none⟩) ts.length ts.length)) wr) := Lib.hid ⟨_, rfl, Nat.le_refl _, hrw, HBR.out⟩
      clear hrw hbr
      go_wp2
      go_ret
      exact HF.out

/-- where the text of a number stands -/
def placeF (id : Nat) (ts : List Txt) : Nat := ts.findIdx fun t => t.id == id
theorem placeF_le (id : Nat) (ts : List Txt) : placeF id ts ≤ ts.length := List.findIdx_le_length
theorem place_before {id k : Nat} {ts : List Txt} {t : Txt} (h : ts[k]? = some t) (hk : k < placeF id ts) : t.id ≠ id := by
  have hlt : k < ts.length := (List.getElem?_eq_some_iff.1 h).1
  have := List.not_of_lt_findIdx (p := fun t : Txt => t.id == id) hk
  have e : ts[k] = t := (List.getElem?_eq_some_iff.1 h).2
  rw [e] at this
  simpa using this
theorem place_at {id : Nat} {ts : List Txt} {t : Txt} (h : ts[placeF id ts]? = some t) : t.id = id := by
  have hlt : placeF id ts < ts.length := (List.getElem?_eq_some_iff.1 h).1
  have := List.findIdx_getElem (p := fun t : Txt => t.id == id) (w := hlt)
  have e : ts[placeF id ts] = t := (List.getElem?_eq_some_iff.1 h).2
  unfold placeF at e
  rw [e] at this
  simpa using this

set_option maxRecDepth 100000 in
set_option maxHeartbeats 1600000 in
theorem place_any {B p last id : Nat} {room : Int} {ts : List Txt} {w : World} (h : QRep B w p room last ts) :
    Calls Try.prog 62 #[.pointer (some ⟨p, 0, none⟩), .int .u64 id] w fun e w' => e = .returned (.int .i64 (placeF id ts : Nat)) ∧ w = w' := by
  obtain ⟨hB, hB2, sv, hrow, hown, _⟩ := h
  have c2 : w.cell? ⟨p, 2, none⟩ = some sv := hrow.read rfl
  have HOWN := Lib.hid hown
  obtain ⟨A, cap, rfl, hcap, hmx⟩ := hown.shape
  unfold maxLen at hmx
  have hple := placeF_le id ts
  clear hrow hown
  have step : ∀ k, k ≤ placeF id ts → (k = placeF id ts ∧ (k = ts.length ∨ ∃ t g, ts[k]? = some t ∧ t.id = id ∧ A = some ⟨g, 0, none⟩ ∧ w.cell? ⟨g, k * 3, none⟩ = some (.int .u64 t.id))) ∨
      (k < placeF id ts ∧ ∃ t g, ts[k]? = some t ∧ t.id ≠ id ∧ A = some ⟨g, 0, none⟩ ∧ w.cell? ⟨g, k * 3, none⟩ = some (.int .u64 t.id)) := by
    intro k hk
    rcases Nat.lt_or_ge k ts.length with hlt | hge
    · obtain ⟨t, ht⟩ : ∃ t, ts[k]? = some t := ⟨_, List.getElem?_eq_getElem hlt⟩
      obtain ⟨g, cap', hv, hc1, hc2⟩ := HOWN.out.form (by omega)
      injection hv with hA _ hcc
      have hcell := HOWN.out.cells (g := g) (by rw [hA]; rfl)
      obtain ⟨a0, _, _⟩ := txc_at ht
      have d0 := hcell _ _ a0
      rcases Nat.lt_or_ge k (placeF id ts) with h1 | h1
      · exact .inr ⟨h1, t, g, ht, place_before ht h1, hA, d0⟩
      · obtain rfl : k = placeF id ts := by omega
        exact .inl ⟨rfl, .inr ⟨t, g, ht, place_at ht, hA, d0⟩⟩
    · exact .inl ⟨by omega, .inl (by omega)⟩
  have HSTEP := Lib.hid step
  clear step
  generalize placeF id ts = P at *
  go_enter Try.func62, Try.ntmps62
  go_wp2
  refine wp_scope_jumps 0 (fun a' w' => ∃ k : Nat, k ≤ P ∧ Fr [some (.pointer (some ⟨p, 0, none⟩)), some (.int .u64 id), none, none, none, some (.int .i64 k), none, none, none, none, none, none, none, none, none, none, none, none, none, none, none, none, none, none, none, none, none, none] a' ∧ w' = w) (fun a' _ => P - (intOf (a'.tmps.getD 5 undef)).toNat) rfl ?_ ?_
  · rcases HSTEP.out 0 (by omega) with ⟨h1, h2 | ⟨t, g, ht, hid, rfl, d0⟩⟩ | ⟨h1, t, g, ht, hid, rfl, d0⟩
    · have h1a : P ≤ 0 := by omega
      have h2a : ts.length ≤ 0 := by omega
      clear h1 h2
      go_wp2
      go_step3
      go_wp2
      simp only [Exit.jump]
      go_ret
      exact ⟨ret_int (by omega), rfl⟩
    · have hlt : 0 < ts.length := (List.getElem?_eq_some_iff.1 ht).1
      have hne : ((t.id : Int) != (id : Int)) = false := by simp; omega
      simp only [Nat.zero_mul] at d0
      have h1a : P ≤ 0 := by omega
      clear ht hid h1
      go_wp2
      go_step3
      go_wp2
      simp only [Exit.jump]
      go_ret
      exact ⟨ret_int (by omega), rfl⟩
    · have hlt : 0 < ts.length := (List.getElem?_eq_some_iff.1 ht).1
      have hne : ((t.id : Int) != (id : Int)) = true := by simp; omega
      simp only [Nat.zero_mul] at d0
      clear ht hid
      go_wp2
      go_step3
      go_wp2
      go_step3
      refine ⟨rfl, 1, by omega, ?_, rfl⟩
      simp only [Fr, Holes]
      repeat apply Exists.intro
      rfl
  · rintro a' w' ⟨k, hk, hfr, rfl⟩
    simp only [Fr, Holes] at hfr
    repeat (obtain ⟨_, hfr⟩ := hfr)
    rcases HSTEP.out k hk with ⟨h1, h2 | ⟨t, g, ht, hid, rfl, d0⟩⟩ | ⟨h1, t, g, ht, hid, rfl, d0⟩
    · have h1a : P ≤ k := by omega
      have h2a : ts.length ≤ k := by omega
      clear h1 h2
      go_wp2
      simp only [Exit.jump]
      go_ret
      exact ⟨ret_int (by omega), rfl⟩
    · have hlt : k < ts.length := (List.getElem?_eq_some_iff.1 ht).1
      have hne : ((t.id : Int) != (id : Int)) = false := by simp; omega
      have hi0 : (0 : Int) ≤ (k : Int) := by omega
      have hi1 : (k : Int) < (ts.length : Int) := by omega
      have h1a : P ≤ k := by omega
      clear ht hid h1
      go_wp2
      simp only [Exit.jump]
      go_ret
      exact ⟨ret_int (by omega), rfl⟩
    · have hlt : k < ts.length := (List.getElem?_eq_some_iff.1 ht).1
      have hne : ((t.id : Int) != (id : Int)) = true := by simp; omega
      have hi0 : (0 : Int) ≤ (k : Int) := by omega
      have hi1 : (k : Int) < (ts.length : Int) := by omega
      clear ht hid
      go_wp2
      go_step3
      refine ⟨rfl, ⟨k + 1, by omega, ?_, rfl⟩, ?_⟩
      · simp only [Fr, Holes]
        repeat apply Exists.intro
        rfl
      · simp [intOf]; omega
end Go.Proofs.Ytmaefeckkodllaa
