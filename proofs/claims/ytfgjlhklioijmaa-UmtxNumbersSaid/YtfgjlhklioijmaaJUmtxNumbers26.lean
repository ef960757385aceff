/-
  The first text of a queue; a text discarded; all let go; a queue that is nil. A text is pushed: whatever comes of it. A law's own lists beside a queue: what the queue's calls do leaves them as they are, and what is appended to them leaves the queue as it is. cut: which queue may be; fields and numbers of texts in memory while a piece is built.
-/
import Derived.Test.YtfgjlhklioijmaaJUmtxNumbers25
import Derived.Test.YtfgjlhklioijmaaJUmtxNumbers12
import Derived.Test.YtfgjlhklioijmaaJUmtxNumbers23
import Derived.Test.YtfgjlhklioijmaaJUmtxNumbers15
import Derived.Test.YtfgjlhklioijmaaJUmtxNumbers17
namespace Go.Proofs.Ytfgjlhklioijmaa
open Go.RowKit

section
variable {B p last : Nat} {room : Int} {ts : List Txt} {w : World}
set_option maxHeartbeats 400000 in
theorem qbytes_nil (w : World) : Calls Try.prog 71 #[.pointer none] w fun e w' => e = .returned (.int .i64 0) ∧ w = w' := by
  go_enter Try.func71, Try.ntmps71
  go_wp2_with (go_at_call 175; refine (none_nil _).mono ?_; rintro e _ ⟨rfl, rfl⟩)
  go_ret
  exact ⟨rfl, rfl⟩
set_option maxHeartbeats 400000 in
theorem ids_nil (w : World) : Calls Try.prog 73 #[.pointer none] w fun e w' => e = .returned (.slice none 0 0) ∧ w = w' := by
  go_enter Try.func73, Try.ntmps73
  go_wp2_with (go_at_call 175; refine (none_nil _).mono ?_; rintro e _ ⟨rfl, rfl⟩)
  go_ret
  exact ⟨rfl, rfl⟩
set_option maxHeartbeats 400000 in
theorem clear_nil (w : World) : Calls Try.prog 67 #[.pointer none] w fun e w' => e = .returned (.slice none 0 0) ∧ w = w' := by
  go_enter Try.func67, Try.ntmps67
  go_wp2_with (go_at_call 175; refine (none_nil _).mono ?_; rintro e _ ⟨rfl, rfl⟩)
  go_ret
  exact ⟨rfl, rfl⟩
set_option maxHeartbeats 400000 in
theorem clear_zero {a b : Value} (h : Row w p 114 #[.int .i64 0, a, b]) : Calls Try.prog 67 #[.pointer (some ⟨p, 0, none⟩)] w fun e w' => e = .returned (.slice none 0 0) ∧ w = w' := by
  have HR := Lib.hid h
  clear h
  go_enter Try.func67, Try.ntmps67
  go_wp2_with (go_at_call 175; refine (none_zero HR.out).mono ?_; rintro e _ ⟨rfl, rfl⟩)
  go_ret
  exact ⟨rfl, rfl⟩
set_option maxHeartbeats 400000 in
theorem discard_nil (id : Int) (w : World) : Calls Try.prog 64 #[.pointer none, .int .u64 id] w fun e w' => e = .returned (.int .i64 6) ∧ w = w' := by
  go_enter Try.func64, Try.ntmps64
  go_wp2_with (go_at_call 175; refine (none_nil _).mono ?_; rintro e _ ⟨rfl, rfl⟩)
  go_ret
  exact ⟨rfl, rfl⟩
set_option maxHeartbeats 400000 in
theorem discard_zero {a b : Value} (id : Int) (h : Row w p 114 #[.int .i64 0, a, b]) : Calls Try.prog 64 #[.pointer (some ⟨p, 0, none⟩), .int .u64 id] w fun e w' => e = .returned (.int .i64 6) ∧ w = w' := by
  have HR := Lib.hid h
  clear h
  go_enter Try.func64, Try.ntmps64
  go_wp2_with (go_at_call 175; refine (none_zero HR.out).mono ?_; rintro e _ ⟨rfl, rfl⟩)
  go_ret
  exact ⟨rfl, rfl⟩
set_option maxHeartbeats 400000 in
theorem front_nil (w : World) : Calls Try.prog 69 #[.pointer none] w fun e w' => e = .returned (.tuple #[.int .u64 0, .slice none 0 0, .bool false]) ∧ w = w' := by
  go_enter Try.func69, Try.ntmps69
  go_wp2_with (go_at_call 175; refine (none_nil _).mono ?_; rintro e _ ⟨rfl, rfl⟩)
  go_ret3
  exact ⟨rfl, rfl⟩
set_option maxHeartbeats 400000 in
theorem front_none (h : QRep B w p room last []) (hr : 0 < room) : Calls Try.prog 69 #[.pointer (some ⟨p, 0, none⟩)] w fun e w' => e = .returned (.tuple #[.int .u64 0, .slice none 0 0, .bool false]) ∧ w = w' := by
  obtain ⟨_, _, sv, hrow, hown, _⟩ := h
  obtain ⟨A1, cap, rfl, hcap, hmx⟩ := hown.shape
  have c2 := hrow.read (i := 2) rfl
  have HR := Lib.hid hrow
  clear hrow hown
  simp only [List.length_nil] at c2 hcap
  go_enter Try.func69, Try.ntmps69
  go_wp2_with (go_at_call 175; refine (none_not HR.out hr).mono ?_; rintro e _ ⟨rfl, rfl⟩)
  go_ret3
  exact ⟨rfl, rfl⟩

/-- the first text handed out -/
def FrontDone (t : Txt) (w : World) (e : Ending) (w' : World) : Prop :=
  ∃ g, e = .returned (.tuple #[.int .u64 t.id, .slice (some ⟨g, 0, none⟩) t.bs.length t.bs.length, .bool t.bg]) ∧ w.heap.size ≤ g ∧ QBytes w' g t.bs ∧ Below w.heap.size w w'

set_option maxRecDepth 100000 in
set_option maxHeartbeats 1600000 in
theorem front_ok {t : Txt} {r : List Txt} (h : QRep B w p room last (t :: r)) (hr : 0 < room) (h0 : 0 < t.bs.length) (hlen : t.bs.length ≤ 100000) :
    Calls Try.prog 69 #[.pointer (some ⟨p, 0, none⟩)] w (FrontDone t w) := by
  obtain ⟨hB, hB2, sv, hrow, hown, hl⟩ := h
  obtain ⟨g, cap, rfl, hcap, hmx⟩ := hown.form (by simp)
  have c2 := hrow.read (i := 2) rfl
  have HR := Lib.hid hrow
  have hcell := hown.cells (g := g) rfl
  have d0 := hcell 0 _ (txc_at (ts := t :: r) (i := 0) rfl).1
  have d1 := hcell 1 _ (txc_at (ts := t :: r) (i := 0) rfl).2.1
  have d2 := hcell 2 _ (txc_at (ts := t :: r) (i := 0) rfl).2.2
  unfold Txt.waits at d1
  obtain ⟨l1, l2, l3, _⟩ := id (hl t (List.mem_cons_self ..))
  have hsrc := (hl t (List.mem_cons_self ..)).src
  have hrr : (t :: r).length = r.length + 1 := rfl
  generalize (t :: r).length = N at *
  have hN : 0 < N := by omega
  have hN0 : ((N : Int) == 0) = false := by simp; omega
  unfold maxLen at hmx
  have HSRC := Lib.hid (hsrc.later (bl_alloc (Below.refl _ _) (.cells #[.int .u64 t.id, .slice (some ⟨t.g, t.off, none⟩) t.bs.length t.cap, .bool t.bg] 251)))
  have hbox := Row.made w 251 #[.int .u64 t.id, .slice (some ⟨t.g, t.off, none⟩) t.bs.length t.cap, .bool t.bg]
  have b0 := hbox.read (i := 0) (x := .int .u64 t.id) rfl
  have b1 := hbox.read (i := 1) (x := .slice (some ⟨t.g, t.off, none⟩) t.bs.length t.cap) rfl
  have b2 := hbox.read (i := 2) (x := .bool t.bg) rfl
  have HC := Lib.hid (fun W (hW : W = (w.alloc (.cells #[.int .u64 t.id, .slice (some ⟨t.g, t.off, none⟩) t.bs.length t.cap, .bool t.bg] 251)).drew) => qcopied_any (some ⟨t.g, t.off, none⟩) t.cap t.bs W (by rw [hW]; exact HSRC.out) h0 (by omega))
  clear hrow hown hcell hrr hl hsrc hbox
  go_enter Try.func69, Try.ntmps69
  go_wp2_with (go_at_call 175; refine (none_not HR.out hr).mono ?_; rintro e _ ⟨rfl, rfl⟩)
  go_region_held3 (fun w' => w'.cell? ⟨w.heap.size, 0, none⟩ = some (.int .u64 t.id) ∧ w'.cell? ⟨w.heap.size, 1, none⟩ = some (.slice (some ⟨t.g, t.off, none⟩) t.bs.length t.cap) ∧ w'.cell? ⟨w.heap.size, 2, none⟩ = some (.bool t.bg)) (first | go_keep | (exact ⟨kept_box (by assumption) (by assumption), kept_box (by assumption) (by assumption), kept_box (by assumption) (by assumption)⟩)) (first
    | (go_at_call 176; refine (HC.out _ rfl).mono ?_; rintro e w2 ⟨g2, rfl, hg2, hby, hb2⟩))
  have HF : Hid (FrontDone t w (.returned (.tuple #[.int .u64 t.id, .slice (some ⟨g2, 0, none⟩) t.bs.length t.bs.length, .bool t.bg])) w2) :=
    Lib.hid ⟨g2, rfl, by have : (w.alloc (.cells #[.int .u64 t.id, .slice (some ⟨t.g, t.off, none⟩) t.bs.length t.cap, .bool t.bg] 251)).heap.size ≤ g2 := hg2; simp at this; omega, hby, bl_step (bl_alloc (Below.refl _ _) _) (bl_step (bl_drew (Below.refl _ _)) hb2)⟩
  clear hg2 hby hb2
  go_wp2
  go_ret3
  exact HF.out

/-- what a Discard answers, and what is left -/
def discE (id : Nat) (ts : List Txt) : Int := match ts[placeF id ts]? with
  | none => 4
  | some t => if t.bg then 7 else 0
def discF (id : Nat) (ts : List Txt) : List Txt := match ts[placeF id ts]? with
  | none => ts
  | some t => if t.bg then ts else ts.eraseIdx (placeF id ts)

set_option maxRecDepth 100000 in
set_option maxHeartbeats 1600000 in
theorem discard_any (nid : Nat) (h : QRep B w p room last ts) (hr : 0 < room) (hn : ts.length ≤ 900) :
    Calls Try.prog 64 #[.pointer (some ⟨p, 0, none⟩), .int .u64 nid] w fun e w' => e = .returned (.int .i64 (discE nid ts)) ∧ QRep B w' p room last (discF nid ts) ∧ QOnly B w w' := by
  obtain ⟨hB, hB2, sv, hrow, hown, hl⟩ := id h
  have HQ := Lib.hid h
  have HR := Lib.hid hrow
  have HP := Lib.hid (place_any (id := nid) h)
  have hple := placeF_le nid ts
  have c2 := hrow.read (i := 2) rfl
  rcases Nat.lt_or_ge (placeF nid ts) ts.length with hlt | hge
  · obtain ⟨t, ht⟩ : ∃ t, ts[placeF nid ts]? = some t := ⟨_, List.getElem?_eq_getElem hlt⟩
    have HE := Lib.hid (show discE nid ts = if t.bg then 7 else 0 by unfold discE; rw [ht])
    have HF := Lib.hid (show discF nid ts = if t.bg then ts else ts.eraseIdx (placeF nid ts) by unfold discF; rw [ht])
    obtain ⟨g, cap, rfl, hcap, hmx⟩ := hown.form (by omega)
    unfold maxLen at hmx
    have d2 := hown.cells (g := g) rfl _ _ (txc_at ht).2.2
    have HREM := Lib.hid (remove_any (k := placeF nid ts) h hlt (by omega))
    rw [HE.out, HF.out]
    generalize placeF nid ts = P at *
    have hi0 : (0 : Int) ≤ (P : Int) := by omega
    have hi1 : (P : Int) < (ts.length : Int) := by omega
    have hne : ((P : Int) == (ts.length : Int)) = false := by simp; omega
    clear h hrow hown hl ht HE HF
    cases hbg : t.bg
    · rw [hbg] at d2
      clear hbg
      go_enter Try.func64, Try.ntmps64
      go_wp2_with (first
        | (go_at_call 175; refine (none_not HR.out hr).mono ?_; rintro e _ ⟨rfl, rfl⟩)
        | (go_at_call 179; refine (HP.out).mono ?_; rintro e _ ⟨rfl, rfl⟩)
        | (go_at_call 177; refine (HREM.out).mono ?_; rintro e w2 ⟨rfl, hq, ho⟩; have HQ2 := Lib.hid hq; have HO2 := Lib.hid ho; clear hq ho))
      go_ret
      exact ⟨rfl, HQ2.out, HO2.out⟩
    · rw [hbg] at d2
      clear hbg
      go_enter Try.func64, Try.ntmps64
      go_wp2_with (first
        | (go_at_call 175; refine (none_not HR.out hr).mono ?_; rintro e _ ⟨rfl, rfl⟩)
        | (go_at_call 179; refine (HP.out).mono ?_; rintro e _ ⟨rfl, rfl⟩))
      go_ret
      exact ⟨rfl, HQ.out, QOnly.refl _ _⟩
  · have hno : ts[placeF nid ts]? = none := List.getElem?_eq_none hge
    have HE := Lib.hid (show discE nid ts = 4 by unfold discE; rw [hno])
    have HF := Lib.hid (show discF nid ts = ts by unfold discF; rw [hno])
    obtain ⟨A1, cap, rfl, hcap, hmx⟩ := hown.shape
    unfold maxLen at hmx
    rw [HE.out, HF.out]
    generalize placeF nid ts = P at *
    have heq : ((P : Int) == (ts.length : Int)) = true := by simp; omega
    clear h hrow hown hl hno HE HF
    go_enter Try.func64, Try.ntmps64
    go_wp2_with (first
      | (go_at_call 175; refine (none_not HR.out hr).mono ?_; rintro e _ ⟨rfl, rfl⟩)
      | (go_at_call 179; refine (HP.out).mono ?_; rintro e _ ⟨rfl, rfl⟩))
    go_ret
    exact ⟨rfl, HQ.out, QOnly.refl _ _⟩
end
end Go.Proofs.Ytfgjlhklioijmaa
namespace Go.Proofs.Ytfgjlhklioijmaa
open Go.RowKit

theorem src_qsrc {W : World} {A : Option Addr} {l : List Nat} (h : Src W A (bts l)) : QSrcB W A (qbts l) := by
  intro h0
  obtain ⟨ad, rfl, hc⟩ := h h0
  obtain ⟨b, off, spot⟩ := ad
  have hspot : spot = none := by
    have h1 := hc 0 _ (List.getElem?_eq_getElem h0)
    simpa [Addr.add] using World.cell?_spot h1
  subst hspot
  refine ⟨b, off, rfl, fun j u hu => ?_⟩
  have h2 := hc j u hu
  have e : (⟨b, off, none⟩ : Addr).add j = ⟨b, off + j, none⟩ := by
    unfold Addr.add
    split
    · rename_i h; rw [h]; rfl
    · rfl
  rwa [e] at h2
theorem qsrc_src {W : World} {A : Option Addr} {l : List Nat} (h : QSrcB W A (qbts l)) : Src W A (bts l) := by
  intro h0
  obtain ⟨b, off, rfl, hc⟩ := h h0
  refine ⟨_, rfl, fun j u hu => ?_⟩
  have e : (⟨b, off, none⟩ : Addr).add j = ⟨b, off + j, none⟩ := by
    unfold Addr.add
    split
    · rename_i h; rw [h]; rfl
    · rfl
  rw [e]
  exact hc j u hu
/-- whatever is pushed: refused, or the last text -/
def PushAny (B p last : Nat) (room : Int) (ts : List Txt) (l : List Nat) (w : World) (e : Ending) (w' : World) : Prop :=
  ∃ (nid : Nat) (er : Int), e = .returned (.tuple #[.int .u64 nid, .int .i64 er]) ∧ QOnly B w w' ∧
    ((er = 0 ∧ nid = last + 1 ∧ 0 < l.length ∧ l.length ≤ 1000 ∧ ts.length < 64 ∧ (bytesF ts : Int) + l.length ≤ room ∧ ∃ t : Txt, t.id = last + 1 ∧ t.bs = l ∧ t.bg = false ∧ QRep B w' p room (last + 1) (ts ++ [t])) ∨
     (er ≠ 0 ∧ nid = 0 ∧ QRep B w' p room last ts ∧ (er = if l.length = 0 then 1 else if 1000 < l.length then 2 else 5) ∧ (0 < l.length → l.length ≤ 1000 → ts.length = 64 ∨ room < (bytesF ts : Int) + l.length)))
theorem push_all {B p last : Nat} {room : Int} {ts : List Txt} {w : World} (A : Option Addr) (l : List Nat) (c : Nat) (h : QRep B w p room last ts) (hr : 0 < room) (hr2 : room ≤ 20000) (hb : (bytesF ts : Int) ≤ room) (hts : ts.length ≤ 64) (hll : l.length ≤ 9223372036854775807) (hlast : last ≤ 1000000000)
    (hsrc : ∀ W, QOnly B w W → QSrcB W A (qbts l)) :
    Calls Try.prog 60 #[.pointer (some ⟨p, 0, none⟩), .slice A l.length c] w (PushAny B p last room ts l w) := by
  rcases Nat.eq_zero_or_pos l.length with h0 | h0
  · rw [h0]
    refine (push_arg A c h hr).mono ?_
    rintro e w' ⟨rfl, rfl⟩
    exact ⟨0, 1, rfl, QOnly.refl _ _, .inr ⟨by omega, rfl, h, by rw [if_pos h0], fun _ _ => by omega⟩⟩
  · rcases Nat.lt_or_ge 1000 l.length with h1 | h1
    · refine (push_long A l.length c h hr h1 hll).mono ?_
      rintro e w' ⟨rfl, rfl⟩
      exact ⟨0, 2, rfl, QOnly.refl _ _, .inr ⟨by omega, rfl, h, by rw [if_neg (by omega), if_pos h1], fun _ _ => by omega⟩⟩
    · by_cases hf : ts.length = 64 ∨ room < (bytesF ts : Int) + l.length
      · refine (push_full A l.length c h hr hr2 hb h0 h1 hts hf).mono ?_
        rintro e w' ⟨rfl, hbl⟩
        exact ⟨0, 5, rfl, QOnly.of_below hbl, .inr ⟨by omega, rfl, h.later hbl, by rw [if_neg (by omega), if_neg (by omega)], fun _ _ => hf⟩⟩
      · refine (push_ok A l c h hr hr2 h0 h1 (by omega) (by omega) hlast hsrc).mono ?_
        rintro e w' ⟨rfl, ⟨t, h2, h3, h4, h5⟩, h6⟩
        exact ⟨last + 1, 0, by simp, h6, .inl ⟨rfl, rfl, h0, h1, by omega, by omega, t, h2, h3, h4, h5⟩⟩
/-- the same; the text lies in new memory -/
def PushAnyG (B p last : Nat) (room : Int) (ts : List Txt) (l : List Nat) (w : World) (e : Ending) (w' : World) : Prop :=
  ∃ (nid : Nat) (er : Int), e = .returned (.tuple #[.int .u64 nid, .int .i64 er]) ∧ QOnly B w w' ∧
    ((er = 0 ∧ nid = last + 1 ∧ 0 < l.length ∧ l.length ≤ 1000 ∧ ts.length < 64 ∧ (bytesF ts : Int) + l.length ≤ room ∧ ∃ t : Txt, t.id = last + 1 ∧ t.bs = l ∧ t.bg = false ∧ w.heap.size ≤ t.g ∧ QRep B w' p room (last + 1) (ts ++ [t])) ∨
     (er ≠ 0 ∧ nid = 0 ∧ QRep B w' p room last ts ∧ (er = if l.length = 0 then 1 else if 1000 < l.length then 2 else 5) ∧ (0 < l.length → l.length ≤ 1000 → ts.length = 64 ∨ room < (bytesF ts : Int) + l.length)))
theorem push_allg {B p last : Nat} {room : Int} {ts : List Txt} {w : World} (A : Option Addr) (l : List Nat) (c : Nat) (h : QRep B w p room last ts) (hr : 0 < room) (hr2 : room ≤ 20000) (hb : (bytesF ts : Int) ≤ room) (hts : ts.length ≤ 64) (hll : l.length ≤ 9223372036854775807) (hlast : last ≤ 1000000000)
    (hsrc : ∀ W, QOnly B w W → QSrcB W A (qbts l)) :
    Calls Try.prog 60 #[.pointer (some ⟨p, 0, none⟩), .slice A l.length c] w (PushAnyG B p last room ts l w) := by
  rcases Nat.eq_zero_or_pos l.length with h0 | h0
  · rw [h0]
    refine (push_arg A c h hr).mono ?_
    rintro e w' ⟨rfl, rfl⟩
    exact ⟨0, 1, rfl, QOnly.refl _ _, .inr ⟨by omega, rfl, h, by rw [if_pos h0], fun _ _ => by omega⟩⟩
  · rcases Nat.lt_or_ge 1000 l.length with h1 | h1
    · refine (push_long A l.length c h hr h1 hll).mono ?_
      rintro e w' ⟨rfl, rfl⟩
      exact ⟨0, 2, rfl, QOnly.refl _ _, .inr ⟨by omega, rfl, h, by rw [if_neg (by omega), if_pos h1], fun _ _ => by omega⟩⟩
    · by_cases hf : ts.length = 64 ∨ room < (bytesF ts : Int) + l.length
      · refine (push_full A l.length c h hr hr2 hb h0 h1 hts hf).mono ?_
        rintro e w' ⟨rfl, hbl⟩
        exact ⟨0, 5, rfl, QOnly.of_below hbl, .inr ⟨by omega, rfl, h.later hbl, by rw [if_neg (by omega), if_neg (by omega)], fun _ _ => hf⟩⟩
      · refine (push_okg A l c h hr hr2 h0 h1 (by omega) (by omega) hlast hsrc).mono ?_
        rintro e w' ⟨rfl, ⟨t, h2, h3, h4, h45, h5⟩, h6⟩
        exact ⟨last + 1, 0, by simp, h6, .inl ⟨rfl, rfl, h0, h1, by omega, by omega, t, h2, h3, h4, h45, h5⟩⟩
/-- bytes from below a queue's memory -/
theorem src_q {B : Nat} {w0 w W : World} {A : Option Addr} {xs : List Value} (h0 : QSrcB w0 A xs) (hbw : Below w0.heap.size w0 w) (hB : w0.heap.size ≤ B) (hBw : B ≤ w.heap.size) (hq : QOnly B w W) : QSrcB W A xs :=
  h0.later (hbw.trans ((hq.below hBw).mono hB))
end Go.Proofs.Ytfgjlhklioijmaa
namespace Go.Proofs.Ytfgjlhklioijmaa
open Go.RowKit

theorem qrow_same {w : World} {k : Nat} {t u : TypeId} {cs ds : Array Value} (h : Row w k t cs) (h' : Row w k u ds) : t = u := by
  unfold Row at h h'
  rw [h] at h'
  injection h' with h'
  injection h' with _ h'

theorem OwnX.q {w w' : World} {B B' e size : Nat} {v : Value} {n : Nat} {xs : List Value} (h : OwnX w B' e size v n xs) (h1 : e ≠ 114) (h2 : e ≠ 251) (ho : QOnly B w w') : OwnX w' B' e size v n xs :=
  h.only ho fun k hk ⟨_, t, cs, hr, ht⟩ => by
    refine h.apart hr (fun e => ?_) hk
    subst e
    rcases ht with ht | ht
    · exact h1 ht
    · exact h2 ht

/-- blocks of one type that a queue has not -/
theorem QRep.apart {B : Nat} {w v : World} {p : Nat} {room : Int} {last : Nat} {ts : List Txt} {S : Nat → Prop} (h : QRep B w p room last ts) (ho : Only S w v) (hS : ∀ k, S k → ∀ t cs, Row w k t cs → t ≠ 114 ∧ t ≠ 251 ∧ t ≠ 5) : QRep B v p room last ts := by
  obtain ⟨h1, h2, sv, h3, h4, h5⟩ := h
  refine ⟨h1, by have := ho.size; omega, sv, h3.only ho (fun hk => (hS _ hk _ _ h3).1 rfl), h4.only ho (fun k hk hk' => ?_), fun t ht => ?_⟩
  · rcases h4.2 with ⟨rfl, _⟩ | ⟨g, cap, cur, rfl, _, hh, _⟩
    · simp [Value.ownBlock] at hk
    · have e : g = k := by simpa [Value.ownBlock] using hk
      subst e
      exact (hS _ hk' _ _ hh).2.1 rfl
  · obtain ⟨g1, g2, g3, cs, g4, g5⟩ := h5 t ht
    exact ⟨g1, g2, g3, cs, g4.only ho (fun hk => (hS _ hk _ _ g4).2.2 rfl), g5⟩
/-- blocks that are none of a queue's -/
theorem QRep.beside {B : Nat} {w v : World} {p : Nat} {room : Int} {last : Nat} {ts : List Txt} {S : Nat → Prop} (h : QRep B w p room last ts) (ho : Only S w v) (hS : ∀ k, S k → ∀ t cs, Row w k t cs → t = 5 ∧ ∀ x ∈ ts, x.g ≠ k) : QRep B v p room last ts := by
  obtain ⟨h1, h2, sv, h3, h4, h5⟩ := h
  refine ⟨h1, by have := ho.size; omega, sv, h3.only ho (fun hk => absurd (hS _ hk _ _ h3).1 (by decide)), h4.only ho (fun k hk hk' => ?_), fun t ht => ?_⟩
  · rcases h4.2 with ⟨rfl, _⟩ | ⟨g, cap, cur, rfl, _, hh, _⟩
    · simp [Value.ownBlock] at hk
    · have e : g = k := by simpa [Value.ownBlock] using hk
      subst e
      exact absurd (hS _ hk' _ _ hh).1 (by decide)
  · obtain ⟨g1, g2, g3, cs, g4, g5⟩ := h5 t ht
    exact ⟨g1, g2, g3, cs, g4.only ho (fun hk => (hS _ hk _ _ g4).2 t ht rfl), g5⟩
end Go.Proofs.Ytfgjlhklioijmaa
namespace Go.Proofs.Ytfgjlhklioijmaa
open Go.RowKit

/-- no text has the number 0 -/
theorem disc_zero {ts : List Txt} (h : ∀ t ∈ ts, 1 ≤ t.id) : discE 0 ts = 4 ∧ discF 0 ts = ts := by
  have hp : placeF 0 ts = ts.length := by
    unfold placeF
    rw [List.findIdx_eq_length]
    intro y hy
    have := h y hy
    simp
    omega
  unfold discE discF
  rw [hp, List.getElem?_eq_none (Nat.le_refl _)]
  exact ⟨rfl, rfl⟩
section
variable {B p last : Nat} {R : Int} {ts : List Txt} {w : World}
set_option maxHeartbeats 400000 in
theorem cmade_any (h : QRep B w p R last ts) (hr : 0 < R) (hn : ts.length ≤ 900) (hid : ∀ t ∈ ts, 1 ≤ t.id) :
    Calls Try.prog 253 #[.pointer (some ⟨p, 0, none⟩)] w fun e w' => e = .returned (.bool true) ∧ QRep B w' p R last ts ∧ QOnly B w w' := by
  have HD := discard_any 0 h hr hn
  obtain ⟨e1, e2⟩ := disc_zero hid
  rw [e1, e2] at HD
  have HD : Hid (Calls Try.prog 64 #[.pointer (some ⟨p, 0, none⟩), .int .u64 0] w fun e w' => e = .returned (.int .i64 4) ∧ QRep B w' p R last ts ∧ QOnly B w w') := Lib.hid HD
  clear h hid e1 e2
  go_enter Try.func253, Try.ntmps253
  go_wp2_with (go_at_call 64; (with_reducible refine HD.out.mono ?_); rintro e w1 ⟨rfl, hq, ho⟩; (have H1 := Lib.hid hq; have H2 := Lib.hid ho; clear hq ho))
  go_ret
  exact ⟨rfl, H1.out, H2.out⟩
set_option maxHeartbeats 400000 in
theorem cmade_nil (w : World) : Calls Try.prog 253 #[.pointer none] w fun e w' => e = .returned (.bool false) ∧ w = w' := by
  have HD := Lib.hid (discard_nil 0 w)
  go_enter Try.func253, Try.ntmps253
  go_wp2_with (go_at_call 64; (with_reducible refine HD.out.mono ?_); rintro e w1 ⟨rfl, rfl⟩)
  go_ret
  exact ⟨rfl, rfl⟩
set_option maxHeartbeats 400000 in
theorem cmade_zero {a b : Value} (h : Row w p 114 #[.int .i64 0, a, b]) : Calls Try.prog 253 #[.pointer (some ⟨p, 0, none⟩)] w fun e w' => e = .returned (.bool false) ∧ w = w' := by
  have HD := Lib.hid (discard_zero 0 h)
  clear h
  go_enter Try.func253, Try.ntmps253
  go_wp2_with (go_at_call 64; (with_reducible refine HD.out.mono ?_); rintro e w1 ⟨rfl, rfl⟩)
  go_ret
  exact ⟨rfl, rfl⟩
/-- what is wrong with a room and a width -/
def faultC (room x : Int) : Int := if 0 < sizeF 1 x then (if room < 0 ∨ 4000 < room then 1 else 0) else 9
set_option maxHeartbeats 800000 in
theorem cfault_any (room x : Int) (h : QRep B w p R last ts) (hr : 0 < R) (hn : ts.length ≤ 900) (hid : ∀ t ∈ ts, 1 ≤ t.id) :
    Calls Try.prog 180 #[.pointer (some ⟨p, 0, none⟩), .int .i64 room, .int .i64 x] w fun e w' => e = .returned (.int .i64 (faultC room x)) ∧ QRep B w' p R last ts ∧ QOnly B w w' := by
  have HM := Lib.hid (cmade_any h hr hn hid)
  have HB := Lib.hid (fun W => cutmay_any x W)
  clear h hid
  by_cases hp : 0 < sizeF 1 x
  · have HB2 := Lib.hid (fun W => (by have h := HB.out W; rw [decide_eq_true hp] at h; exact h : Calls Try.prog 185 #[.int .i64 x] W fun e w' => e = .returned (.bool true) ∧ W = w'))
    have HF := Lib.hid (show faultC room x = if room < 0 ∨ 4000 < room then 1 else 0 by unfold faultC; rw [if_pos hp])
    rw [HF.out]
    clear HB hp HF
    by_cases h0 : room < 0
    · rw [if_pos (.inl h0)]
      go_enter Try.func180, Try.ntmps180
      go_wp2_with (first
        | (go_at_call 253; (with_reducible refine HM.out.mono ?_); rintro e w1 ⟨rfl, hq, ho⟩; (have H1 := Lib.hid hq; have H2 := Lib.hid ho; clear hq ho))
        | (go_at_call 185; (with_reducible refine (HB2.out _).mono ?_); rintro e w2 ⟨rfl, rfl⟩))
      go_ret
      exact ⟨rfl, H1.out, H2.out⟩
    · by_cases h1 : 4000 < room
      · rw [if_pos (.inr h1)]
        go_enter Try.func180, Try.ntmps180
        go_wp2_with (first
          | (go_at_call 253; (with_reducible refine HM.out.mono ?_); rintro e w1 ⟨rfl, hq, ho⟩; (have H1 := Lib.hid hq; have H2 := Lib.hid ho; clear hq ho))
          | (go_at_call 185; (with_reducible refine (HB2.out _).mono ?_); rintro e w2 ⟨rfl, rfl⟩))
        go_ret
        exact ⟨rfl, H1.out, H2.out⟩
      · rw [if_neg (by omega)]
        go_enter Try.func180, Try.ntmps180
        go_wp2_with (first
          | (go_at_call 253; (with_reducible refine HM.out.mono ?_); rintro e w1 ⟨rfl, hq, ho⟩; (have H1 := Lib.hid hq; have H2 := Lib.hid ho; clear hq ho))
          | (go_at_call 185; (with_reducible refine (HB2.out _).mono ?_); rintro e w2 ⟨rfl, rfl⟩))
        go_ret
        exact ⟨rfl, H1.out, H2.out⟩
  · have HB2 := Lib.hid (fun W => (by have h := HB.out W; rw [decide_eq_false hp] at h; exact h : Calls Try.prog 185 #[.int .i64 x] W fun e w' => e = .returned (.bool false) ∧ W = w'))
    have HF := Lib.hid (show faultC room x = 9 by unfold faultC; rw [if_neg hp])
    rw [HF.out]
    clear HB hp HF
    go_enter Try.func180, Try.ntmps180
    go_wp2_with (first
      | (go_at_call 253; (with_reducible refine HM.out.mono ?_); rintro e w1 ⟨rfl, hq, ho⟩; (have H1 := Lib.hid hq; have H2 := Lib.hid ho; clear hq ho))
      | (go_at_call 185; (with_reducible refine (HB2.out _).mono ?_); rintro e w2 ⟨rfl, rfl⟩))
    go_ret
    exact ⟨rfl, H1.out, H2.out⟩
set_option maxHeartbeats 400000 in
theorem cfault_nil (room x : Int) (w : World) : Calls Try.prog 180 #[.pointer none, .int .i64 room, .int .i64 x] w fun e w' => e = .returned (.int .i64 6) ∧ w = w' := by
  have HM := Lib.hid (cmade_nil w)
  go_enter Try.func180, Try.ntmps180
  go_wp2_with (go_at_call 253; (with_reducible refine HM.out.mono ?_); rintro e w1 ⟨rfl, rfl⟩)
  go_ret
  exact ⟨rfl, rfl⟩
set_option maxHeartbeats 400000 in
theorem cfault_zero {a b : Value} (room x : Int) (h : Row w p 114 #[.int .i64 0, a, b]) : Calls Try.prog 180 #[.pointer (some ⟨p, 0, none⟩), .int .i64 room, .int .i64 x] w fun e w' => e = .returned (.int .i64 6) ∧ w = w' := by
  have HM := Lib.hid (cmade_zero h)
  clear h
  go_enter Try.func180, Try.ntmps180
  go_wp2_with (go_at_call 253; (with_reducible refine HM.out.mono ?_); rintro e w1 ⟨rfl, rfl⟩)
  go_ret
  exact ⟨rfl, rfl⟩
end
theorem cclipu_any {A : Option Addr} (n c : Nat) (w : World) (hc : n ≤ c) : Calls Try.prog 183 #[.slice A n c] w fun e w' => e = .returned (.slice A n n) ∧ w = w' := by
  cases A with
  | none =>
    go_enter Try.func183, Try.ntmps183
    go_wp2
    go_ret
    exact ⟨rfl, rfl⟩
  | some a =>
    go_enter Try.func183, Try.ntmps183
    go_wp2
    go_ret
    exact ⟨rfl, rfl⟩
theorem cclipr_any {A : Option Addr} (n c : Nat) (w : World) (hc : n ≤ c) : Calls Try.prog 182 #[.slice A n c] w fun e w' => e = .returned (.slice A n n) ∧ w = w' := by
  cases A with
  | none =>
    go_enter Try.func182, Try.ntmps182
    go_wp2
    go_ret
    exact ⟨rfl, rfl⟩
  | some a =>
    go_enter Try.func182, Try.ntmps182
    go_wp2
    go_ret
    exact ⟨rfl, rfl⟩
/-- fields in memory that is not older than block m -/
def RowNew (m : Nat) (w : World) (r : RowB) : Prop := ∃ g, r.A = some ⟨g, 0, none⟩ ∧ m ≤ g ∧ QBytes w g r.bs ∧ r.cap = r.bs.length ∧ 0 < r.bs.length ∧ r.bs.length ≤ 100000 ∧ ∀ b ∈ r.bs, b < 256
def NewRows (m : Nat) (w : World) (v : Value) (L : List RowB) : Prop := w.ownsRow m 30 1 v L.length (L.map RowB.v) ∧ ∀ r ∈ L, RowNew m w r
def idsV (l : List Nat) : List Value := l.map fun i : Nat => .int .u64 i
def NewIds (m : Nat) (w : World) (v : Value) (l : List Nat) : Prop := w.ownsRow m 101 1 v l.length (idsV l)
section
variable {m : Nat} {w v : World} {x : Value} {L : List RowB} {l : List Nat}
theorem QBytes.inside {g : Nat} {l : List Nat} (h : QBytes w g l) : g < w.heap.size := by
  obtain ⟨cs, h1, _⟩ := h
  exact h1.inside
theorem QBytes.only {S : Nat → Prop} {g : Nat} {l : List Nat} (h : QBytes w g l) (ho : Only S w v) (hg : ¬ S g) : QBytes v g l := by
  obtain ⟨cs, h1, h2⟩ := h
  exact ⟨cs, h1.only ho hg, h2⟩
theorem QBytes.srcb {g : Nat} {l : List Nat} (h : QBytes w g l) : Src w (some ⟨g, 0, none⟩) (bts l) := by
  obtain ⟨cs, h1, h2⟩ := h
  refine fun _ => ⟨_, rfl, fun j u hu => ?_⟩
  rw [add_zero_q]
  have hj : j < l.length := by have := (List.getElem?_eq_some_iff.1 hu).1; rw [length_bts] at this; exact this
  have hb := bts_at (List.getElem?_eq_getElem hj)
  rw [hu] at hb
  injection hb with hb
  rw [hb]
  exact h1.read (h2 j _ (List.getElem?_eq_getElem hj))
theorem RowNew.ok {r : RowB} (h : RowNew m w r) : r.ok w := by
  obtain ⟨g, h1, h2, h3, h4, h5, h6, h7⟩ := h
  exact ⟨by rw [h1]; exact h3.srcb, by omega, by omega, h7⟩
theorem RowNew.only {S : Nat → Prop} {r : RowB} (h : RowNew m w r) (ho : Only S w v) (hS : ∀ g cs, Row w g 5 cs → m ≤ g → ¬ S g) : RowNew m v r := by
  obtain ⟨g, h1, h2, h3, h4⟩ := h
  obtain ⟨cs, k1, k2⟩ := id h3
  exact ⟨g, h1, h2, h3.only ho (hS g cs k1 h2), h4⟩
theorem NewRows.only {S : Nat → Prop} (h : NewRows m w x L) (ho : Only S w v) (hS : ∀ g t cs, Row w g t cs → (t = 5 ∨ t = 30) → m ≤ g → ¬ S g) : NewRows m v x L := by
  refine ⟨own_only h.1 ho (fun k hk => ?_), fun r hr => (h.2 r hr).only ho (fun g cs hc hg => hS g 5 cs hc (.inl rfl) hg)⟩
  rcases h.1.2 with ⟨rfl, _⟩ | ⟨g, cap, cur, rfl, hb, hh, _⟩
  · simp [Value.ownBlock] at hk
  · have e : g = k := by simpa [Value.ownBlock] using hk
    subst e
    exact hS g _ cur hh (.inr rfl) hb
theorem NewIds.only {S : Nat → Prop} (h : NewIds m w x l) (ho : Only S w v) (hS : ∀ g cs, Row w g 101 cs → m ≤ g → ¬ S g) : NewIds m v x l := by
  refine own_only h ho (fun k hk => ?_)
  rcases h.2 with ⟨rfl, _⟩ | ⟨g, cap, cur, rfl, hb, hh, _⟩
  · simp [Value.ownBlock] at hk
  · have e : g = k := by simpa [Value.ownBlock] using hk
    subst e
    exact hS g cur hh hb
theorem NewRows.later (h : NewRows m w x L) (hb : Below w.heap.size w v) : NewRows m v x L := h.only (S := fun _ => False) (.of_below hb) (fun _ _ _ _ _ _ h => h)
theorem NewIds.later (h : NewIds m w x l) (hb : Below w.heap.size w v) : NewIds m v x l := h.only (S := fun _ => False) (.of_below hb) (fun _ _ _ _ h => h)
theorem NewRows.q {B : Nat} (h : NewRows m w x L) (ho : QOnly B w v) : NewRows m v x L :=
  h.only ho (fun g t cs hr ht _ hq => by
    obtain ⟨_, t', cs', h1, h2⟩ := hq
    have e := qrow_same hr h1
    subst e
    rcases ht with rfl | rfl <;> rcases h2 with h2 | h2 <;> revert h2 <;> decide)
theorem NewIds.q {B : Nat} (h : NewIds m w x l) (ho : QOnly B w v) : NewIds m v x l :=
  h.only ho (fun g cs hr _ hq => by
    obtain ⟨_, t', cs', h1, h2⟩ := hq
    have e := qrow_same hr h1
    subst e
    rcases h2 with h2 | h2 <;> revert h2 <;> decide)
/-- memory older than block m changes -/
theorem NewRows.older {S : Nat → Prop} (h : NewRows m w x L) (ho : Only S w v) (hS : ∀ k, S k → k < m) : NewRows m v x L :=
  h.only ho (fun g _ _ _ _ hg hs => by have := hS g hs; omega)
theorem NewIds.older {S : Nat → Prop} (h : NewIds m w x l) (ho : Only S w v) (hS : ∀ k, S k → k < m) : NewIds m v x l :=
  h.only ho (fun g _ _ hg hs => by have := hS g hs; omega)
/-- one block of another type changes -/
theorem NewRows.at {g : Nat} {t : TypeId} {cs : Array Value} (h : NewRows m w x L) (hr : Row w g t cs) (h1 : t ≠ 5) (h2 : t ≠ 30) (ho : Only (fun k => k = g) w v) : NewRows m v x L :=
  h.only ho (fun k t' cs' hr' ht _ hk => by
    subst hk
    have e := qrow_same hr hr'
    subst e
    rcases ht with ht | ht
    · exact h1 ht
    · exact h2 ht)
theorem NewIds.at {g : Nat} {t : TypeId} {cs : Array Value} (h : NewIds m w x l) (hr : Row w g t cs) (h1 : t ≠ 101) (ho : Only (fun k => k = g) w v) : NewIds m v x l :=
  h.only ho (fun k cs' hr' _ hk => by
    subst hk
    have e := qrow_same hr hr'
    exact h1 e)
theorem NewRows.form (h : NewRows m w x L) : ∃ A c, x = .slice A L.length c ∧ L.length ≤ c ∧ c ≤ 9223372036854775807 := by
  rcases h.1.2 with ⟨rfl, e⟩ | ⟨g, cap, cur, rfl, _, _, h1, h2, _⟩
  · exact ⟨none, 0, by rw [e], by omega, by omega⟩
  · exact ⟨_, cap, rfl, h1, by unfold maxLen at h2; exact h2⟩
theorem NewIds.form (h : NewIds m w x l) : ∃ A c, x = .slice A l.length c ∧ l.length ≤ c ∧ c ≤ 9223372036854775807 := by
  rcases h.2 with ⟨rfl, e⟩ | ⟨g, cap, cur, rfl, _, _, h1, h2, _⟩
  · exact ⟨none, 0, by rw [e], by omega, by omega⟩
  · exact ⟨_, cap, rfl, h1, by unfold maxLen at h2; exact h2⟩
theorem NewRows.cap_le {A : Option Addr} {n c : Nat} (h : NewRows m w (.slice A n c) L) : n = L.length ∧ n ≤ c := by
  obtain ⟨A', c', e, h1, _⟩ := h.form
  injection e with e1 e2 e3
  omega
theorem NewIds.cap_le {A : Option Addr} {n c : Nat} (h : NewIds m w (.slice A n c) l) : n = l.length ∧ n ≤ c := by
  obtain ⟨A', c', e, h1, _⟩ := h.form
  injection e with e1 e2 e3
  omega
theorem NewRows.src {A : Option Addr} {n c : Nat} (h : NewRows m w (.slice A n c) L) : RSrc w A L := by
  rcases h.1.2 with ⟨e, h0⟩ | ⟨g, cap, cur, e, _, _, _⟩
  · intro h9
    omega
  · injection e with e1 e2 e3
    subst e1
    exact fun _ => ⟨_, rfl, fun k r hr => ⟨h.1.cells (g := g) rfl k _ (by rw [List.getElem?_map, hr]; rfl), (h.2 r (List.mem_of_getElem? hr)).ok⟩⟩
theorem own_clip {B e n c : Nat} {A : Option Addr} {xs : List Value} (h : w.ownsRow B e 1 (.slice A n c) n xs) : ∃ c', w.ownsRow B e 1 (.slice A n c') n xs := ⟨c, h⟩
/-- one more field -/
theorem NewRows.next (h : NewRows m w x L) (r : RowB) (hm : m ≤ w.heap.size) (hL : L.length ≤ 1000) (hr : RowNew m w r) :
    ∃ A' c' w2, (Builtin.append_ #[22, 22] 22 #[x, .slice (some ⟨w.heap.size, 0, none⟩) 1 1]).run Try.prog (w.alloc (.cells #[r.v] 30)) = .ok (.slice A' (L.length + 1) c') w2 ∧
      NewRows m w2 (.slice A' (L.length + 1) c') (L ++ [r]) ∧ Only (fun k => x.ownBlock = some k) w w2 := by
  obtain ⟨i0, hi, hi0, hi1, hi2⟩ := info_parts Try.info30
  have hbA := bl_alloc (Below.refl w.heap.size w) (.cells #[r.v] 30)
  have a4' := own_later2 h.1 hbA
  obtain ⟨v', w2, hrun, hown, hgr, _, hat⟩ := run_append_own_at (P := Try.prog) (w := w.alloc (.cells #[r.v] 30)) m 22 22 30 i0 _ 1 24 Try.underlying22 hi hi0 hi1 hi2 rfl (by omega) x L.length (L.map RowB.v) a4' ⟨w.heap.size, 0, none⟩ 1 1 [r.v] rfl
    (fun j u hu => by
      match j, hu with
      | 0, hu =>
        simp only [List.getElem?_cons_zero, Option.some.injEq] at hu
        subst hu
        rw [add_zero_q]
        exact (Row.made w 30 #[r.v]).read rfl
      | j + 1, hu => simp at hu) (by intro u hu; simp at hu; subst hu; rfl) (by unfold maxLen; omega) (by omega) (by have := hbA.size; omega)
  have hon : Only (fun k => x.ownBlock = some k) w w2 := (Only.of_below hbA).andThen ((Only.refl _ _).grown hgr (fun k hk => .inl hk) : Only (fun k => x.ownBlock = some k) _ _) (fun k _ hk => hk)
  obtain ⟨A', c', rfl⟩ : ∃ A' c', v' = .slice A' (L.length + 1) c' := by
    rcases hown.2 with ⟨_, e⟩ | ⟨g, cap, cur, e, _⟩
    · omega
    · exact ⟨some ⟨g, 0, none⟩, cap, e⟩
  refine ⟨A', c', w2, hrun, ⟨by rw [List.map_append, List.length_append]; exact hown, fun y hy => ?_⟩, hon⟩
  have key : ∀ y, RowNew m w y → RowNew m w2 y := fun y h9 => h9.only hon (fun g cs hc _ hk => own_apart h.1 hc (by decide) hk)
  rw [List.mem_append, List.mem_singleton] at hy
  rcases hy with hy | rfl
  · exact key y (h.2 y hy)
  · exact key y hr
/-- one more number -/
theorem NewIds.next (h : NewIds m w x l) (i : Nat) (hm : m ≤ w.heap.size) (hL : l.length ≤ 1000) :
    ∃ A' c' w2, (Builtin.append_ #[108, 108] 108 #[x, .slice (some ⟨w.heap.size, 0, none⟩) 1 1]).run Try.prog (w.alloc (.cells #[.int .u64 i] 101)) = .ok (.slice A' (l.length + 1) c') w2 ∧
      NewIds m w2 (.slice A' (l.length + 1) c') (l ++ [i]) ∧ Only (fun k => x.ownBlock = some k) w w2 := by
  obtain ⟨i0, hi, hi0, hi1, hi2⟩ := info_parts (show (Try.prog.info? 101).map (fun i => (i.zero, i.size, i.bytes)) = some (some (.int .u64 0), 1, 8) by kernel_rfl)
  have hbA := bl_alloc (Below.refl w.heap.size w) (.cells #[.int .u64 i] 101)
  have a4' := own_later2 h hbA
  obtain ⟨v', w2, hrun, hown, hgr, _, hat⟩ := run_append_own_at (P := Try.prog) (w := w.alloc (.cells #[.int .u64 i] 101)) m 108 108 101 i0 _ 1 8 (show Try.prog.underlying 108 = some (.slice 101) by kernel_rfl) hi hi0 hi1 hi2 rfl (by omega) x l.length (idsV l) a4' ⟨w.heap.size, 0, none⟩ 1 1 [.int .u64 i] rfl
    (fun j u hu => by
      match j, hu with
      | 0, hu =>
        simp only [List.getElem?_cons_zero, Option.some.injEq] at hu
        subst hu
        rw [add_zero_q]
        exact (Row.made w 101 #[.int .u64 i]).read rfl
      | j + 1, hu => simp at hu) (by intro u hu; simp at hu; subst hu; rfl) (by unfold maxLen; omega) (by omega) (by have := hbA.size; omega)
  have hon : Only (fun k => x.ownBlock = some k) w w2 := (Only.of_below hbA).andThen ((Only.refl _ _).grown hgr (fun k hk => .inl hk) : Only (fun k => x.ownBlock = some k) _ _) (fun k _ hk => hk)
  obtain ⟨A', c', rfl⟩ : ∃ A' c', v' = .slice A' (l.length + 1) c' := by
    rcases hown.2 with ⟨_, e⟩ | ⟨g, cap, cur, e, _⟩
    · omega
    · exact ⟨some ⟨g, 0, none⟩, cap, e⟩
  exact ⟨A', c', w2, hrun, by unfold NewIds idsV; rw [List.map_append, List.length_append]; exact hown, hon⟩
end
end Go.Proofs.Ytfgjlhklioijmaa
