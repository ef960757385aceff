/-
  Bytes taken of a queue's first text; the first text; a text discarded; all let go.
-/
import Derived.Test.YtmaefeckkodllaaQueuePush
namespace Go.Proofs.Ytmaefeckkodllaa
open Go.RowKit

/-- a list of bytes of the call's own -/
def Bytes (w : World) (g : Nat) (l : List Nat) : Prop := ∃ cs : Array Value, Row w g 5 cs ∧ ∀ (j b : Nat), l[j]? = some b → cs[j]? = some (Value.int .u8 (b : Nat))
theorem Bytes.q {B : Nat} {w v : World} {g : Nat} {l : List Nat} (h : Bytes w g l) (ho : QOnly B w v) : Bytes v g l := by
  obtain ⟨cs, h1, h2⟩ := h
  exact ⟨cs, ho.row h1 (by decide) (by decide), h2⟩
theorem Bytes.later {w v : World} {g : Nat} {l : List Nat} (h : Bytes w g l) (hb : Below w.heap.size w v) : Bytes v g l := by
  obtain ⟨cs, h1, h2⟩ := h
  exact ⟨cs, h1.later hb, h2⟩

section
variable {B p last : Nat} {room : Int} {ts : List Txt} {w : World}
set_option maxHeartbeats 400000 in
theorem take_qnil (n : Int) (w : World) : Calls Try.prog 32 #[.pointer none, .int .i64 n] w fun e w' => e = .returned (.tuple #[.slice none 0 0, .bool false, .int .i64 6]) ∧ w = w' := by
  go_enter Try.func32, Try.ntmps32
  go_wp2_with (go_at_call 58; refine (none_nil _).mono ?_; rintro e _ ⟨rfl, rfl⟩)
  go_ret3
  exact ⟨rfl, rfl⟩
set_option maxHeartbeats 400000 in
theorem take_zero {a b : Value} (n : Int) (h : Row w p 80 #[.int .i64 0, a, b]) : Calls Try.prog 32 #[.pointer (some ⟨p, 0, none⟩), .int .i64 n] w fun e w' => e = .returned (.tuple #[.slice none 0 0, .bool false, .int .i64 6]) ∧ w = w' := by
  have HR := Lib.hid h
  clear h
  go_enter Try.func32, Try.ntmps32
  go_wp2_with (go_at_call 58; refine (none_zero HR.out).mono ?_; rintro e _ ⟨rfl, rfl⟩)
  go_ret3
  exact ⟨rfl, rfl⟩
set_option maxHeartbeats 400000 in
theorem take_none (n : Int) (h : QRep B w p room last []) (hr : 0 < room) : Calls Try.prog 32 #[.pointer (some ⟨p, 0, none⟩), .int .i64 n] w fun e w' => e = .returned (.tuple #[.slice none 0 0, .bool false, .int .i64 4]) ∧ w = w' := by
  obtain ⟨_, _, sv, hrow, hown, _⟩ := h
  obtain ⟨A1, cap, rfl, hcap, hmx⟩ := hown.shape
  have c2 := hrow.read (i := 2) rfl
  have HR := Lib.hid hrow
  clear hrow hown
  simp only [List.length_nil] at c2 hcap
  go_enter Try.func32, Try.ntmps32
  go_wp2_with (go_at_call 58; refine (none_not HR.out hr).mono ?_; rintro e _ ⟨rfl, rfl⟩)
  go_ret3
  exact ⟨rfl, rfl⟩
set_option maxHeartbeats 800000 in
theorem take_bad {t : Txt} {r : List Txt} (n : Int) (h : QRep B w p room last (t :: r)) (hr : 0 < room) (hn : n < 1 ∨ (t.bs.length : Int) < n) : Calls Try.prog 32 #[.pointer (some ⟨p, 0, none⟩), .int .i64 n] w fun e w' => e = .returned (.tuple #[.slice none 0 0, .bool false, .int .i64 1]) ∧ w = w' := by
  obtain ⟨_, _, sv, hrow, hown, hl⟩ := h
  obtain ⟨g, cap, rfl, hcap, hmx⟩ := hown.form (by simp)
  have c2 := hrow.read (i := 2) rfl
  have HR := Lib.hid hrow
  have hcell := hown.cells (g := g) rfl
  have d1 := hcell 1 _ (txc_at (ts := t :: r) (i := 0) rfl).2.1
  unfold Txt.waits at d1
  have hlen : (t :: r).length = r.length + 1 := rfl
  obtain ⟨l1, l2, l3, _⟩ := hl t (List.mem_cons_self ..)
  generalize (t :: r).length = N at *
  have hN : 0 < N := by omega
  have hN0 : ((N : Int) == 0) = false := by simp; omega
  unfold maxLen at hmx
  clear hrow hown hcell hlen hl
  rcases Int.lt_or_le n 1 with h1 | h1
  · clear hn
    go_enter Try.func32, Try.ntmps32
    go_wp2_with (go_at_call 58; refine (none_not HR.out hr).mono ?_; rintro e _ ⟨rfl, rfl⟩)
    go_ret3
    exact ⟨rfl, rfl⟩
  · have h2 : (t.bs.length : Int) < n := by omega
    clear hn
    go_enter Try.func32, Try.ntmps32
    go_wp2_with (go_at_call 58; refine (none_not HR.out hr).mono ?_; rintro e _ ⟨rfl, rfl⟩)
    go_ret3
    exact ⟨rfl, rfl⟩

/-- what a Take does that is not refused: n bytes, and what is left -/
def TakeDone (B p last : Nat) (room : Int) (t : Txt) (r : List Txt) (n : Nat) (w : World) (e : Ending) (w' : World) : Prop :=
  ∃ g, e = .returned (.tuple #[.slice (some ⟨g, 0, none⟩) n n, .bool (n == t.bs.length), .int .i64 0]) ∧ w.heap.size ≤ g ∧ Bytes w' g (t.bs.take n) ∧ QOnly B w w' ∧
    ∃ t' : Txt, t'.id = t.id ∧ t'.bs = t.bs.drop n ∧ t'.bg = true ∧ QRep B w' p room last (if n = t.bs.length then r else t' :: r)

theorem TakeDone.intro {t : Txt} {r : List Txt} {n g : Nat} {v : Bool} {w' : World} (hv : (n == t.bs.length) = v) (h1 : w.heap.size ≤ g) (h2 : Bytes w' g (t.bs.take n)) (h3 : QOnly B w w') (t' : Txt) (h4 : t'.id = t.id) (h5 : t'.bs = t.bs.drop n) (h6 : t'.bg = true)
    (h7 : QRep B w' p room last (if n = t.bs.length then r else t' :: r)) : TakeDone B p last room t r n w (.returned (.tuple #[.slice (some ⟨g, 0, none⟩) n n, .bool v, .int .i64 0])) w' :=
  ⟨g, by rw [hv], h1, h2, h3, t', h4, h5, h6, h7⟩

theorem src_take {w : World} {A : Option Addr} {l : List Nat} (h : SrcB w A (bts l)) (n : Nat) : SrcB w A (bts (l.take n)) := by
  intro h0
  obtain ⟨b, off, rfl, hc⟩ := h (by rw [length_bts] at *; simp at h0; omega)
  refine ⟨b, off, rfl, fun j u hu => hc j u ?_⟩
  unfold bts at *
  rw [List.map_take, List.getElem?_take] at hu
  split at hu
  · exact hu
  · cases hu

/-- the first text with its first bytes gone -/
theorem took_rep {t : Txt} {r : List Txt} {n off' g cap : Nat} (hq : B ≤ p) (hB2 : B ≤ w.heap.size) (hrow : Row w p 80 #[.int .i64 room, .int .u64 last, .slice (some ⟨g, 0, none⟩) (t :: r).length cap])
    (hown : OwnX w B 98 3 (.slice (some ⟨g, 0, none⟩) (t :: r).length cap) (t :: r).length (txc (t :: r))) (hl : ∀ x ∈ t :: r, x.lies B w) (hn : n ≤ t.bs.length) (hoff : n < t.bs.length → off' = t.off + n) :
    ∃ t' : Txt, t'.id = t.id ∧ t'.bs = t.bs.drop n ∧ t'.bg = true ∧ QRep B ((w.setCell ⟨g, 1, none⟩ (.slice (some ⟨t.g, off', none⟩) (t.bs.length - n) (t.cap - n))).setCell ⟨g, 2, none⟩ (.bool true)) p room last (t' :: r) ∧
      QOnly B w ((w.setCell ⟨g, 1, none⟩ (.slice (some ⟨t.g, off', none⟩) (t.bs.length - n) (t.cap - n))).setCell ⟨g, 2, none⟩ (.bool true)) ∧ t'.waits = .slice (some ⟨t.g, off', none⟩) (t.bs.length - n) (t.cap - n) := by
  have hgt : QT B w g := QT.list hown g rfl
  have hgp : p ≠ g := fun e => by subst e; exact hown.apart hrow (by decide) rfl
  have ho1 : QOnly B w (w.setCell ⟨g, 1, none⟩ (.slice (some ⟨t.g, off', none⟩) (t.bs.length - n) (t.cap - n))) := (Only.refl _ _).set (p := ⟨g, 1, none⟩) (.inl hgt) _
  have ho : QOnly B w ((w.setCell ⟨g, 1, none⟩ (.slice (some ⟨t.g, off', none⟩) (t.bs.length - n) (t.cap - n))).setCell ⟨g, 2, none⟩ (.bool true)) := Only.set ho1 (p := ⟨g, 2, none⟩) (.inl hgt) _
  have h2 := (hown.stored (g := g) rfl 1 (.slice (some ⟨t.g, off', none⟩) (t.bs.length - n) (t.cap - n))).stored (g := g) rfl 2 (.bool true)
  have ht' : (t.bs.drop n).length = t.bs.length - n := by simp
  refine ⟨⟨t.id, t.g, off', t.cap - n, t.bs.drop n, true⟩, rfl, rfl, rfl, ⟨hq, by have := ho.size; omega, _, (hrow.elsewhere (p := ⟨g, 1, none⟩) hgp _).elsewhere (p := ⟨g, 2, none⟩) hgp _, ?_, ?_⟩, ho, by unfold Txt.waits; simp⟩
  · have e : ((txc (t :: r)).set 1 (.slice (some ⟨t.g, off', none⟩) (t.bs.length - n) (t.cap - n))).set 2 (.bool true) = txc (⟨t.id, t.g, off', t.cap - n, t.bs.drop n, true⟩ :: r) := by
      rw [txc_cons, txc_cons]
      unfold Txt.waits
      simp
    rw [e] at h2
    exact h2
  · intro x hx
    rcases List.mem_cons.1 hx with rfl | hx
    · obtain ⟨l1, l2, l3, cs, l4, l5⟩ := hl t (List.mem_cons_self ..)
      refine ⟨l1, by show (t.bs.drop n).length ≤ t.cap - n; rw [ht']; omega, by show t.cap - n ≤ _; omega, cs, ho.row l4 (by decide) (by decide), fun j b hb => ?_⟩
      have hb' : (t.bs.drop n)[j]? = some b := hb
      rw [List.getElem?_drop] at hb'
      have hlt : n + j < t.bs.length := (List.getElem?_eq_some_iff.1 hb').1
      show cs[off' + j]? = _
      rw [hoff (by omega), Nat.add_assoc]
      exact l5 _ _ hb'
    · exact (hl x (List.mem_cons_of_mem _ hx)).q ho

set_option maxRecDepth 100000 in
set_option maxHeartbeats 3200000 in
theorem take_ok {t : Txt} {r : List Txt} (n : Nat) (h : QRep B w p room last (t :: r)) (hr : 0 < room) (hn1 : 1 ≤ n) (hn2 : n ≤ t.bs.length) (hlen : t.bs.length ≤ 100000) (hrl : r.length ≤ 900) :
    Calls Try.prog 32 #[.pointer (some ⟨p, 0, none⟩), .int .i64 n] w (TakeDone B p last room t r n w) := by
  obtain ⟨hB, hB2, sv, hrow, hown, hl⟩ := id h
  obtain ⟨g, cap, rfl, hcap, hmx⟩ := hown.form (by simp)
  have c2 := hrow.read (i := 2) rfl
  have HR := Lib.hid hrow
  have hcell := hown.cells (g := g) rfl
  have d1 := hcell 1 _ (txc_at (ts := t :: r) (i := 0) rfl).2.1
  unfold Txt.waits at d1
  obtain ⟨l1, l2, l3, hsr⟩ := id (hl t (List.mem_cons_self ..))
  have HSRC := Lib.hid (src_take (hl t (List.mem_cons_self ..)).src n)
  have HTL := Lib.hid (show (t.bs.take n).length = n by simp; omega)
  have HQ := Lib.hid h
  have HOWN := Lib.hid hown
  have hrr : (t :: r).length = r.length + 1 := rfl
  have HLN := Lib.hid hrr
  generalize hNN : (t :: r).length = N at *
  have HNN := Lib.hid hNN
  have hN : 0 < N := by omega
  have hN0 : ((N : Int) == 0) = false := by simp; omega
  unfold maxLen at hmx
  clear hrow hown hcell hrr hl h hNN hsr
  obtain ⟨m, hm⟩ : ∃ m, t.bs.length = m := ⟨_, rfl⟩
  rw [hm] at hn2 hlen l2 d1
  have HM := Lib.hid hm
  clear hm
  have hi1 : (n : Int) ≤ (m : Int) := by omega
  have hi2 : ¬ (m : Int) < (n : Int) := by omega
  go_enter Try.func32, Try.ntmps32
  go_wp2_with (go_at_call 58; refine (none_not HR.out hr).mono ?_; rintro e _ ⟨rfl, rfl⟩)
  have HC := Lib.hid (copied_any (some ⟨t.g, t.off, none⟩) t.cap (t.bs.take n) w HSRC.out (by rw [HTL.out]; omega) (by rw [HTL.out]; omega))
  rw [HTL.out] at HC
  refine (HC.out).mono ?_
  rintro e w2 ⟨g2, rfl, hg2, hby, hb2⟩
  rw [HTL.out]
  have HG2 := Lib.hid hg2
  have HBY := Lib.hid (show Bytes w2 g2 (t.bs.take n) from hby)
  have HB2 := Lib.hid hb2
  obtain ⟨_, hB3, sv2, hrow2, hown2, hl2⟩ := HQ.out.later hb2
  have esv : sv2 = .slice (some ⟨g, 0, none⟩) N cap := by
    have := HR.out.later hb2
    unfold Row at this hrow2
    rw [hrow2] at this
    injection this with this
    injection this with this _
    injection this with this
    injection this with _ this
    injection this with _ this
    injection this with this _
  subst esv
  rw [HNN.out] at hown2
  have k2 := hrow2.read (i := 2) rfl
  have hcell2 := hown2.cells (g := g) rfl
  have e1 := hcell2 1 _ (txc_at (ts := t :: r) (i := 0) rfl).2.1
  have e2 := hcell2 2 _ (txc_at (ts := t :: r) (i := 0) rfl).2.2
  unfold Txt.waits at e1
  rw [HM.out] at e1
  have f1 := hown2.free (g := g) rfl 1
  have f2 := hown2.free (g := g) rfl 2
  have HTK := fun off' (ho : n < t.bs.length → off' = t.off + n) => took_rep (g := g) (cap := cap) (t := t) (r := r) (n := n) (off' := off') hB hB3 (by rw [HNN.out]; exact hrow2) (by rw [HNN.out]; exact hown2) hl2 (by rw [HM.out]; exact hn2) ho
  rw [HM.out] at HTK
  have HTK := Lib.hid HTK
  have HQ2 := Lib.hid (QOnly.of_below (B := B) hb2)
  clear hg2 hby hb2 hrow2 hown2 hl2 hcell2 hB3
  have hn1' : (1 : Int) ≤ (n : Int) := by omega
  rcases Nat.lt_or_ge n m with hlt | hge
  · have hce : ¬ t.cap = n := by omega
    obtain ⟨t', ht1, ht2, ht3, ht4, ht5, ht6⟩ := HTK.out (t.off + n) (fun _ => rfl)
    have HT4 := Lib.hid ht4
    have HT5 := Lib.hid ht5
    have HT1 := Lib.hid (And.intro ht1 (And.intro ht2 ht3))
    have hpos : (0 : Int) < ((m - n : Nat) : Int) := by omega
    have hposn : 0 < m - n := by omega
    have heq : (n == t.bs.length) = false := by rw [HM.out]; simp; omega
    have HEQ := Lib.hid heq
    have hne : ¬ n = t.bs.length := by rw [HM.out]; omega
    have HNE := Lib.hid hne
    clear ht1 ht2 ht3 ht4 ht5 ht6 heq hne
    go_wp2
    go_ret3
    refine TakeDone.intro HEQ.out HG2.out (HBY.out.q HT5.out) (HQ2.out.trans HT5.out) t' HT1.out.1 HT1.out.2.1 HT1.out.2.2 ?_
    rw [if_neg HNE.out]
    exact HT4.out
  · obtain rfl : m = n := by omega
    have hrm : 0 < (Txt.mk 0 0 0 0 [] false :: r).length := by simp
    by_cases hce : t.cap = m
    · obtain ⟨t', ht1, ht2, ht3, ht4, ht5, ht6⟩ := HTK.out t.off (fun h => by omega)
      rw [Nat.sub_self, hce, Nat.sub_self] at ht4 ht5
      have HT4 := Lib.hid ht4
      have HT5 := Lib.hid ht5
      have HT1 := Lib.hid (And.intro ht1 (And.intro ht2 ht3))
      have heq : (m == t.bs.length) = true := by rw [HM.out]; simp
      have HEQ := Lib.hid heq
      clear ht1 ht2 ht3 ht4 ht5 ht6 heq
      go_wp2_with fail
      refine (remove_any (k := 0) HT4.out (by simp) (by simp; omega)).mono ?_
      rintro e w3 ⟨rfl, hq3, ho3⟩
      have HQ3 := Lib.hid hq3
      have HO3 := Lib.hid ho3
      clear hq3 ho3
      go_wp2
      go_ret3
      refine TakeDone.intro HEQ.out HG2.out ((HBY.out.q HT5.out).q HO3.out) ((HQ2.out.trans HT5.out).trans HO3.out) t' HT1.out.1 HT1.out.2.1 HT1.out.2.2 ?_
      rw [if_pos HM.out.symm]
      exact HQ3.out
    · obtain ⟨t', ht1, ht2, ht3, ht4, ht5, ht6⟩ := HTK.out (t.off + m) (fun h => by omega)
      rw [Nat.sub_self] at ht4 ht5
      have HT4 := Lib.hid ht4
      have HT5 := Lib.hid ht5
      have HT1 := Lib.hid (And.intro ht1 (And.intro ht2 ht3))
      have heq : (m == t.bs.length) = true := by rw [HM.out]; simp
      have HEQ := Lib.hid heq
      clear ht1 ht2 ht3 ht4 ht5 ht6 heq
      go_wp2_with fail
      refine (remove_any (k := 0) HT4.out (by simp) (by simp; omega)).mono ?_
      rintro e w3 ⟨rfl, hq3, ho3⟩
      have HQ3 := Lib.hid hq3
      have HO3 := Lib.hid ho3
      clear hq3 ho3
      go_wp2
      go_ret3
      refine TakeDone.intro HEQ.out HG2.out ((HBY.out.q HT5.out).q HO3.out) ((HQ2.out.trans HT5.out).trans HO3.out) t' HT1.out.1 HT1.out.2.1 HT1.out.2.2 ?_
      rw [if_pos HM.out.symm]
      exact HQ3.out
end
end Go.Proofs.Ytmaefeckkodllaa
