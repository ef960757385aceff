/-
  The first text of a queue; a text discarded; all let go; a queue that is nil.
-/
import Derived.Test.YtmaefeckkodllaaQueueTake
namespace Go.Proofs.Ytmaefeckkodllaa
open Go.RowKit

section
variable {B p last : Nat} {room : Int} {ts : List Txt} {w : World}
set_option maxHeartbeats 400000 in
theorem bytes_nil (w : World) : Calls Try.prog 41 #[.pointer none] w fun e w' => e = .returned (.int .i64 0) ∧ w = w' := by
  go_enter Try.func41, Try.ntmps41
  go_wp2_with (go_at_call 58; refine (none_nil _).mono ?_; rintro e _ ⟨rfl, rfl⟩)
  go_ret
  exact ⟨rfl, rfl⟩
set_option maxHeartbeats 400000 in
theorem ids_nil (w : World) : Calls Try.prog 43 #[.pointer none] w fun e w' => e = .returned (.slice none 0 0) ∧ w = w' := by
  go_enter Try.func43, Try.ntmps43
  go_wp2_with (go_at_call 58; refine (none_nil _).mono ?_; rintro e _ ⟨rfl, rfl⟩)
  go_ret
  exact ⟨rfl, rfl⟩
set_option maxHeartbeats 400000 in
theorem clear_nil (w : World) : Calls Try.prog 37 #[.pointer none] w fun e w' => e = .returned (.slice none 0 0) ∧ w = w' := by
  go_enter Try.func37, Try.ntmps37
  go_wp2_with (go_at_call 58; refine (none_nil _).mono ?_; rintro e _ ⟨rfl, rfl⟩)
  go_ret
  exact ⟨rfl, rfl⟩
set_option maxHeartbeats 400000 in
theorem clear_zero {a b : Value} (h : Row w p 80 #[.int .i64 0, a, b]) : Calls Try.prog 37 #[.pointer (some ⟨p, 0, none⟩)] w fun e w' => e = .returned (.slice none 0 0) ∧ w = w' := by
  have HR := Lib.hid h
  clear h
  go_enter Try.func37, Try.ntmps37
  go_wp2_with (go_at_call 58; refine (none_zero HR.out).mono ?_; rintro e _ ⟨rfl, rfl⟩)
  go_ret
  exact ⟨rfl, rfl⟩
set_option maxHeartbeats 400000 in
theorem discard_nil (id : Int) (w : World) : Calls Try.prog 34 #[.pointer none, .int .u64 id] w fun e w' => e = .returned (.int .i64 6) ∧ w = w' := by
  go_enter Try.func34, Try.ntmps34
  go_wp2_with (go_at_call 58; refine (none_nil _).mono ?_; rintro e _ ⟨rfl, rfl⟩)
  go_ret
  exact ⟨rfl, rfl⟩
set_option maxHeartbeats 400000 in
theorem discard_zero {a b : Value} (id : Int) (h : Row w p 80 #[.int .i64 0, a, b]) : Calls Try.prog 34 #[.pointer (some ⟨p, 0, none⟩), .int .u64 id] w fun e w' => e = .returned (.int .i64 6) ∧ w = w' := by
  have HR := Lib.hid h
  clear h
  go_enter Try.func34, Try.ntmps34
  go_wp2_with (go_at_call 58; refine (none_zero HR.out).mono ?_; rintro e _ ⟨rfl, rfl⟩)
  go_ret
  exact ⟨rfl, rfl⟩
set_option maxHeartbeats 400000 in
theorem front_nil (w : World) : Calls Try.prog 39 #[.pointer none] w fun e w' => e = .returned (.tuple #[.int .u64 0, .slice none 0 0, .bool false]) ∧ w = w' := by
  go_enter Try.func39, Try.ntmps39
  go_wp2_with (go_at_call 58; refine (none_nil _).mono ?_; rintro e _ ⟨rfl, rfl⟩)
  go_ret3
  exact ⟨rfl, rfl⟩
set_option maxHeartbeats 400000 in
theorem front_none (h : QRep B w p room last []) (hr : 0 < room) : Calls Try.prog 39 #[.pointer (some ⟨p, 0, none⟩)] w fun e w' => e = .returned (.tuple #[.int .u64 0, .slice none 0 0, .bool false]) ∧ w = w' := by
  obtain ⟨_, _, sv, hrow, hown, _⟩ := h
  obtain ⟨A1, cap, rfl, hcap, hmx⟩ := hown.shape
  have c2 := hrow.read (i := 2) rfl
  have HR := Lib.hid hrow
  clear hrow hown
  simp only [List.length_nil] at c2 hcap
  go_enter Try.func39, Try.ntmps39
  go_wp2_with (go_at_call 58; refine (none_not HR.out hr).mono ?_; rintro e _ ⟨rfl, rfl⟩)
  go_ret3
  exact ⟨rfl, rfl⟩

/-- the first text handed out -/
def FrontDone (t : Txt) (w : World) (e : Ending) (w' : World) : Prop :=
  ∃ g, e = .returned (.tuple #[.int .u64 t.id, .slice (some ⟨g, 0, none⟩) t.bs.length t.bs.length, .bool t.bg]) ∧ w.heap.size ≤ g ∧ Bytes w' g t.bs ∧ Below w.heap.size w w'

set_option maxRecDepth 100000 in
set_option maxHeartbeats 1600000 in
theorem front_ok {t : Txt} {r : List Txt} (h : QRep B w p room last (t :: r)) (hr : 0 < room) (h0 : 0 < t.bs.length) (hlen : t.bs.length ≤ 100000) :
    Calls Try.prog 39 #[.pointer (some ⟨p, 0, none⟩)] w (FrontDone t w) := by
  obtain ⟨hB, hB2, sv, hrow, hown, hl⟩ := h
  obtain ⟨g, cap, rfl, hcap, hmx⟩ := hown.form (by simp)
  have c2 := hrow.read (i := 2) rfl
  have HR := Lib.hid hrow
  have hcell := hown.cells (g := g) rfl
  have d0 := hcell 0 _ (txc_at (ts := t :: r) (i := 0) rfl).1
  have d1 := hcell 1 _ (txc_at (ts := t :: r) (i := 0) rfl).2.1
  have d2 := hcell 2 _ (txc_at (ts := t :: r) (i := 0) rfl).2.2
  unfold Txt.waits at d1
  obtain ⟨l1, l2, l3, _⟩ := id (hl t (List.mem_cons_self ..))
  have hsrc := (hl t (List.mem_cons_self ..)).src
  have hrr : (t :: r).length = r.length + 1 := rfl
  generalize (t :: r).length = N at *
  have hN : 0 < N := by omega
  have hN0 : ((N : Int) == 0) = false := by simp; omega
  unfold maxLen at hmx
  have HSRC := Lib.hid (hsrc.later (bl_alloc (Below.refl _ _) (.cells #[.int .u64 t.id, .slice (some ⟨t.g, t.off, none⟩) t.bs.length t.cap, .bool t.bg] 98)))
  have hbox := Row.made w 98 #[.int .u64 t.id, .slice (some ⟨t.g, t.off, none⟩) t.bs.length t.cap, .bool t.bg]
  have b0 := hbox.read (i := 0) (x := .int .u64 t.id) rfl
  have b1 := hbox.read (i := 1) (x := .slice (some ⟨t.g, t.off, none⟩) t.bs.length t.cap) rfl
  have b2 := hbox.read (i := 2) (x := .bool t.bg) rfl
  have HC := Lib.hid (fun W (hW : W = (w.alloc (.cells #[.int .u64 t.id, .slice (some ⟨t.g, t.off, none⟩) t.bs.length t.cap, .bool t.bg] 98)).drew) => copied_any (some ⟨t.g, t.off, none⟩) t.cap t.bs W (by rw [hW]; exact HSRC.out) h0 (by omega))
  clear hrow hown hcell hrr hl hsrc hbox
  go_enter Try.func39, Try.ntmps39
  go_wp2_with (go_at_call 58; refine (none_not HR.out hr).mono ?_; rintro e _ ⟨rfl, rfl⟩)
  go_region_held3 (fun w' => w'.cell? ⟨w.heap.size, 0, none⟩ = some (.int .u64 t.id) ∧ w'.cell? ⟨w.heap.size, 1, none⟩ = some (.slice (some ⟨t.g, t.off, none⟩) t.bs.length t.cap) ∧ w'.cell? ⟨w.heap.size, 2, none⟩ = some (.bool t.bg)) (first | go_keep | (exact ⟨kept_box (by assumption) (by assumption), kept_box (by assumption) (by assumption), kept_box (by assumption) (by assumption)⟩)) (first
    | (go_at_call 59; refine (HC.out _ rfl).mono ?_; rintro e w2 ⟨g2, rfl, hg2, hby, hb2⟩))
  have HF : Hid (FrontDone t w (.returned (.tuple #[.int .u64 t.id, .slice (some ⟨g2, 0, none⟩) t.bs.length t.bs.length, .bool t.bg])) w2) :=
    Lib.hid ⟨g2, rfl, by have : (w.alloc (.cells #[.int .u64 t.id, .slice (some ⟨t.g, t.off, none⟩) t.bs.length t.cap, .bool t.bg] 98)).heap.size ≤ g2 := hg2; simp at this; omega, hby, bl_step (bl_alloc (Below.refl _ _) _) (bl_step (bl_drew (Below.refl _ _)) hb2)⟩
  clear hg2 hby hb2
  go_wp2
  go_ret3
  exact HF.out

/-- what a Discard answers, and what is left -/
def discE (id : Nat) (ts : List Txt) : Int := match ts[placeF id ts]? with
  | none => 4
  | some t => if t.bg then 7 else 0
def discF (id : Nat) (ts : List Txt) : List Txt := match ts[placeF id ts]? with
  | none => ts
  | some t => if t.bg then ts else ts.eraseIdx (placeF id ts)

set_option maxRecDepth 100000 in
set_option maxHeartbeats 1600000 in
theorem discard_any (nid : Nat) (h : QRep B w p room last ts) (hr : 0 < room) (hn : ts.length ≤ 900) :
    Calls Try.prog 34 #[.pointer (some ⟨p, 0, none⟩), .int .u64 nid] w fun e w' => e = .returned (.int .i64 (discE nid ts)) ∧ QRep B w' p room last (discF nid ts) ∧ QOnly B w w' := by
  obtain ⟨hB, hB2, sv, hrow, hown, hl⟩ := id h
  have HQ := Lib.hid h
  have HR := Lib.hid hrow
  have HP := Lib.hid (place_any (id := nid) h)
  have hple := placeF_le nid ts
  have c2 := hrow.read (i := 2) rfl
  rcases Nat.lt_or_ge (placeF nid ts) ts.length with hlt | hge
  · obtain ⟨t, ht⟩ : ∃ t, ts[placeF nid ts]? = some t := ⟨_, List.getElem?_eq_getElem hlt⟩
    have HE := Lib.hid (show discE nid ts = if t.bg then 7 else 0 by unfold discE; rw [ht])
    have HF := Lib.hid (show discF nid ts = if t.bg then ts else ts.eraseIdx (placeF nid ts) by unfold discF; rw [ht])
    obtain ⟨g, cap, rfl, hcap, hmx⟩ := hown.form (by omega)
    unfold maxLen at hmx
    have d2 := hown.cells (g := g) rfl _ _ (txc_at ht).2.2
    have HREM := Lib.hid (remove_any (k := placeF nid ts) h hlt (by omega))
    rw [HE.out, HF.out]
    generalize placeF nid ts = P at *
    have hi0 : (0 : Int) ≤ (P : Int) := by omega
    have hi1 : (P : Int) < (ts.length : Int) := by omega
    have hne : ((P : Int) == (ts.length : Int)) = false := by simp; omega
    clear h hrow hown hl ht HE HF
    cases hbg : t.bg
    · rw [hbg] at d2
      clear hbg
      go_enter Try.func34, Try.ntmps34
      go_wp2_with (first
        | (go_at_call 58; refine (none_not HR.out hr).mono ?_; rintro e _ ⟨rfl, rfl⟩)
        | (go_at_call 62; refine (HP.out).mono ?_; rintro e _ ⟨rfl, rfl⟩)
        | (go_at_call 60; refine (HREM.out).mono ?_; rintro e w2 ⟨rfl, hq, ho⟩; have HQ2 := Lib.hid hq; have HO2 := Lib.hid ho; clear hq ho))
      go_ret
      exact ⟨rfl, HQ2.out, HO2.out⟩
    · rw [hbg] at d2
      clear hbg
      go_enter Try.func34, Try.ntmps34
      go_wp2_with (first
        | (go_at_call 58; refine (none_not HR.out hr).mono ?_; rintro e _ ⟨rfl, rfl⟩)
        | (go_at_call 62; refine (HP.out).mono ?_; rintro e _ ⟨rfl, rfl⟩))
      go_ret
      exact ⟨rfl, HQ.out, QOnly.refl _ _⟩
  · have hno : ts[placeF nid ts]? = none := List.getElem?_eq_none hge
    have HE := Lib.hid (show discE nid ts = 4 by unfold discE; rw [hno])
    have HF := Lib.hid (show discF nid ts = ts by unfold discF; rw [hno])
    obtain ⟨A1, cap, rfl, hcap, hmx⟩ := hown.shape
    unfold maxLen at hmx
    rw [HE.out, HF.out]
    generalize placeF nid ts = P at *
    have heq : ((P : Int) == (ts.length : Int)) = true := by simp; omega
    clear h hrow hown hl hno HE HF
    go_enter Try.func34, Try.ntmps34
    go_wp2_with (first
      | (go_at_call 58; refine (none_not HR.out hr).mono ?_; rintro e _ ⟨rfl, rfl⟩)
      | (go_at_call 62; refine (HP.out).mono ?_; rintro e _ ⟨rfl, rfl⟩))
    go_ret
    exact ⟨rfl, HQ.out, QOnly.refl _ _⟩
end
end Go.Proofs.Ytmaefeckkodllaa
