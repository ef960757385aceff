/-
  QBytes taken of a queue's first text; the first text; a text discarded; all let go. The first text of a queue; a text discarded; all let go; a queue that is nil. Bits and the numbers and bytes that they make: plain lists, no program. What the small functions of package bits do to memory: a copy, a new writer, its length.
-/
import Derived.Test.YtbcjfdhphpckfaaJPlainLives02
import Derived.Below
import Derived.Test.YtbcjfdhphpckfaaJPlainLives01
import Derived.Laws.CopyOwn
namespace Go.Proofs.Ytbcjfdhphpckfaa
open Go.RowKit

/-- a list of bytes of the call's own -/
def QBytes (w : World) (g : Nat) (l : List Nat) : Prop := ∃ cs : Array Value, Row w g 5 cs ∧ ∀ (j b : Nat), l[j]? = some b → cs[j]? = some (Value.int .u8 (b : Nat))
theorem QBytes.q {B : Nat} {w v : World} {g : Nat} {l : List Nat} (h : QBytes w g l) (ho : QOnly B w v) : QBytes v g l := by
  obtain ⟨cs, h1, h2⟩ := h
  exact ⟨cs, ho.row h1 (by decide) (by decide), h2⟩
theorem QBytes.later {w v : World} {g : Nat} {l : List Nat} (h : QBytes w g l) (hb : Below w.heap.size w v) : QBytes v g l := by
  obtain ⟨cs, h1, h2⟩ := h
  exact ⟨cs, h1.later hb, h2⟩

section
variable {B p last : Nat} {room : Int} {ts : List Txt} {w : World}
set_option maxHeartbeats 400000 in
theorem take_qnil (n : Int) (w : World) : Calls Try.prog 17 #[.pointer none, .int .i64 n] w fun e w' => e = .returned (.tuple #[.slice none 0 0, .bool false, .int .i64 6]) ∧ w = w' := by
  go_enter Try.func17, Try.ntmps17
  go_wp2_with (go_at_call 109; refine (none_nil _).mono ?_; rintro e _ ⟨rfl, rfl⟩)
  go_ret3
  exact ⟨rfl, rfl⟩
set_option maxHeartbeats 400000 in
theorem take_zero {a b : Value} (n : Int) (h : Row w p 51 #[.int .i64 0, a, b]) : Calls Try.prog 17 #[.pointer (some ⟨p, 0, none⟩), .int .i64 n] w fun e w' => e = .returned (.tuple #[.slice none 0 0, .bool false, .int .i64 6]) ∧ w = w' := by
  have HR := Lib.hid h
  clear h
  go_enter Try.func17, Try.ntmps17
  go_wp2_with (go_at_call 109; refine (none_zero HR.out).mono ?_; rintro e _ ⟨rfl, rfl⟩)
  go_ret3
  exact ⟨rfl, rfl⟩
set_option maxHeartbeats 400000 in
theorem take_none (n : Int) (h : QRep B w p room last []) (hr : 0 < room) : Calls Try.prog 17 #[.pointer (some ⟨p, 0, none⟩), .int .i64 n] w fun e w' => e = .returned (.tuple #[.slice none 0 0, .bool false, .int .i64 4]) ∧ w = w' := by
  obtain ⟨_, _, sv, hrow, hown, _⟩ := h
  obtain ⟨A1, cap, rfl, hcap, hmx⟩ := hown.shape
  have c2 := hrow.read (i := 2) rfl
  have HR := Lib.hid hrow
  clear hrow hown
  simp only [List.length_nil] at c2 hcap
  go_enter Try.func17, Try.ntmps17
  go_wp2_with (go_at_call 109; refine (none_not HR.out hr).mono ?_; rintro e _ ⟨rfl, rfl⟩)
  go_ret3
  exact ⟨rfl, rfl⟩
set_option maxHeartbeats 800000 in
theorem take_bad {t : Txt} {r : List Txt} (n : Int) (h : QRep B w p room last (t :: r)) (hr : 0 < room) (hn : n < 1 ∨ (t.bs.length : Int) < n) : Calls Try.prog 17 #[.pointer (some ⟨p, 0, none⟩), .int .i64 n] w fun e w' => e = .returned (.tuple #[.slice none 0 0, .bool false, .int .i64 1]) ∧ w = w' := by
  obtain ⟨_, _, sv, hrow, hown, hl⟩ := h
  obtain ⟨g, cap, rfl, hcap, hmx⟩ := hown.form (by simp)
  have c2 := hrow.read (i := 2) rfl
  have HR := Lib.hid hrow
  have hcell := hown.cells (g := g) rfl
  have d1 := hcell 1 _ (txc_at (ts := t :: r) (i := 0) rfl).2.1
  unfold Txt.waits at d1
  have hlen : (t :: r).length = r.length + 1 := rfl
  obtain ⟨l1, l2, l3, _⟩ := hl t (List.mem_cons_self ..)
  generalize (t :: r).length = N at *
  have hN : 0 < N := by omega
  have hN0 : ((N : Int) == 0) = false := by simp; omega
  unfold maxLen at hmx
  clear hrow hown hcell hlen hl
  rcases Int.lt_or_le n 1 with h1 | h1
  · clear hn
    go_enter Try.func17, Try.ntmps17
    go_wp2_with (go_at_call 109; refine (none_not HR.out hr).mono ?_; rintro e _ ⟨rfl, rfl⟩)
    go_ret3
    exact ⟨rfl, rfl⟩
  · have h2 : (t.bs.length : Int) < n := by omega
    clear hn
    go_enter Try.func17, Try.ntmps17
    go_wp2_with (go_at_call 109; refine (none_not HR.out hr).mono ?_; rintro e _ ⟨rfl, rfl⟩)
    go_ret3
    exact ⟨rfl, rfl⟩

/-- what a Take does that is not refused: n bytes, and what is left -/
def TakeDone (B p last : Nat) (room : Int) (t : Txt) (r : List Txt) (n : Nat) (w : World) (e : Ending) (w' : World) : Prop :=
  ∃ g, e = .returned (.tuple #[.slice (some ⟨g, 0, none⟩) n n, .bool (n == t.bs.length), .int .i64 0]) ∧ w.heap.size ≤ g ∧ QBytes w' g (t.bs.take n) ∧ QOnly B w w' ∧
    ∃ t' : Txt, t'.id = t.id ∧ t'.bs = t.bs.drop n ∧ t'.bg = true ∧ QRep B w' p room last (if n = t.bs.length then r else t' :: r)
/-- the same; what is left lies where it lay -/
def TakeDoneG (B p last : Nat) (room : Int) (t : Txt) (r : List Txt) (n : Nat) (w : World) (e : Ending) (w' : World) : Prop :=
  ∃ g, e = .returned (.tuple #[.slice (some ⟨g, 0, none⟩) n n, .bool (n == t.bs.length), .int .i64 0]) ∧ w.heap.size ≤ g ∧ QBytes w' g (t.bs.take n) ∧ QOnly B w w' ∧
    ∃ t' : Txt, t'.id = t.id ∧ t'.bs = t.bs.drop n ∧ (t'.bg = true ∧ t'.g = t.g) ∧ QRep B w' p room last (if n = t.bs.length then r else t' :: r)

theorem TakeDoneG.intro {t : Txt} {r : List Txt} {n g : Nat} {v : Bool} {w' : World} (hv : (n == t.bs.length) = v) (h1 : w.heap.size ≤ g) (h2 : QBytes w' g (t.bs.take n)) (h3 : QOnly B w w') (t' : Txt) (h4 : t'.id = t.id) (h5 : t'.bs = t.bs.drop n) (h6 : t'.bg = true ∧ t'.g = t.g)
    (h7 : QRep B w' p room last (if n = t.bs.length then r else t' :: r)) : TakeDoneG B p last room t r n w (.returned (.tuple #[.slice (some ⟨g, 0, none⟩) n n, .bool v, .int .i64 0])) w' :=
  ⟨g, by rw [hv], h1, h2, h3, t', h4, h5, h6, h7⟩

theorem qsrc_take {w : World} {A : Option Addr} {l : List Nat} (h : QSrcB w A (qbts l)) (n : Nat) : QSrcB w A (qbts (l.take n)) := by
  intro h0
  obtain ⟨b, off, rfl, hc⟩ := h (by rw [qlength_bts] at *; simp at h0; omega)
  refine ⟨b, off, rfl, fun j u hu => hc j u ?_⟩
  unfold qbts at *
  rw [List.map_take, List.getElem?_take] at hu
  split at hu
  · exact hu
  · cases hu

/-- the first text with its first bytes gone -/
theorem took_rep {t : Txt} {r : List Txt} {n off' g cap : Nat} (hq : B ≤ p) (hB2 : B ≤ w.heap.size) (hrow : Row w p 51 #[.int .i64 room, .int .u64 last, .slice (some ⟨g, 0, none⟩) (t :: r).length cap])
    (hown : OwnX w B 177 3 (.slice (some ⟨g, 0, none⟩) (t :: r).length cap) (t :: r).length (txc (t :: r))) (hl : ∀ x ∈ t :: r, x.lies B w) (hn : n ≤ t.bs.length) (hoff : n < t.bs.length → off' = t.off + n) :
    ∃ t' : Txt, t'.id = t.id ∧ t'.bs = t.bs.drop n ∧ (t'.bg = true ∧ t'.g = t.g) ∧ QRep B ((w.setCell ⟨g, 1, none⟩ (.slice (some ⟨t.g, off', none⟩) (t.bs.length - n) (t.cap - n))).setCell ⟨g, 2, none⟩ (.bool true)) p room last (t' :: r) ∧
      QOnly B w ((w.setCell ⟨g, 1, none⟩ (.slice (some ⟨t.g, off', none⟩) (t.bs.length - n) (t.cap - n))).setCell ⟨g, 2, none⟩ (.bool true)) ∧ t'.waits = .slice (some ⟨t.g, off', none⟩) (t.bs.length - n) (t.cap - n) := by
  have hgt : QT B w g := QT.list hown g rfl
  have hgp : p ≠ g := fun e => by subst e; exact hown.apart hrow (by decide) rfl
  have ho1 : QOnly B w (w.setCell ⟨g, 1, none⟩ (.slice (some ⟨t.g, off', none⟩) (t.bs.length - n) (t.cap - n))) := (Only.refl _ _).set (p := ⟨g, 1, none⟩) (.inl hgt) _
  have ho : QOnly B w ((w.setCell ⟨g, 1, none⟩ (.slice (some ⟨t.g, off', none⟩) (t.bs.length - n) (t.cap - n))).setCell ⟨g, 2, none⟩ (.bool true)) := Only.set ho1 (p := ⟨g, 2, none⟩) (.inl hgt) _
  have h2 := (hown.stored (g := g) rfl 1 (.slice (some ⟨t.g, off', none⟩) (t.bs.length - n) (t.cap - n))).stored (g := g) rfl 2 (.bool true)
  have ht' : (t.bs.drop n).length = t.bs.length - n := by simp
  refine ⟨⟨t.id, t.g, off', t.cap - n, t.bs.drop n, true⟩, rfl, rfl, ⟨rfl, rfl⟩, ⟨hq, by have := ho.size; omega, _, (hrow.elsewhere (p := ⟨g, 1, none⟩) hgp _).elsewhere (p := ⟨g, 2, none⟩) hgp _, ?_, ?_⟩, ho, by unfold Txt.waits; simp⟩
  · have e : ((txc (t :: r)).set 1 (.slice (some ⟨t.g, off', none⟩) (t.bs.length - n) (t.cap - n))).set 2 (.bool true) = txc (⟨t.id, t.g, off', t.cap - n, t.bs.drop n, true⟩ :: r) := by
      rw [txc_cons, txc_cons]
      unfold Txt.waits
      simp
    rw [e] at h2
    exact h2
  · intro x hx
    rcases List.mem_cons.1 hx with rfl | hx
    · obtain ⟨l1, l2, l3, cs, l4, l5⟩ := hl t (List.mem_cons_self ..)
      refine ⟨l1, by show (t.bs.drop n).length ≤ t.cap - n; rw [ht']; omega, by show t.cap - n ≤ _; omega, cs, ho.row l4 (by decide) (by decide), fun j b hb => ?_⟩
      have hb' : (t.bs.drop n)[j]? = some b := hb
      rw [List.getElem?_drop] at hb'
      have hlt : n + j < t.bs.length := (List.getElem?_eq_some_iff.1 hb').1
      show cs[off' + j]? = _
      rw [hoff (by omega), Nat.add_assoc]
      exact l5 _ _ hb'
    · exact (hl x (List.mem_cons_of_mem _ hx)).q ho

set_option maxRecDepth 100000 in
set_option maxHeartbeats 3200000 in
theorem take_okg {t : Txt} {r : List Txt} (n : Nat) (h : QRep B w p room last (t :: r)) (hr : 0 < room) (hn1 : 1 ≤ n) (hn2 : n ≤ t.bs.length) (hlen : t.bs.length ≤ 100000) (hrl : r.length ≤ 900) :
    Calls Try.prog 17 #[.pointer (some ⟨p, 0, none⟩), .int .i64 n] w (TakeDoneG B p last room t r n w) := by
  obtain ⟨hB, hB2, sv, hrow, hown, hl⟩ := id h
  obtain ⟨g, cap, rfl, hcap, hmx⟩ := hown.form (by simp)
  have c2 := hrow.read (i := 2) rfl
  have HR := Lib.hid hrow
  have hcell := hown.cells (g := g) rfl
  have d1 := hcell 1 _ (txc_at (ts := t :: r) (i := 0) rfl).2.1
  unfold Txt.waits at d1
  obtain ⟨l1, l2, l3, hsr⟩ := id (hl t (List.mem_cons_self ..))
  have HSRC := Lib.hid (qsrc_take (hl t (List.mem_cons_self ..)).src n)
  have HTL := Lib.hid (show (t.bs.take n).length = n by simp; omega)
  have HQ := Lib.hid h
  have HOWN := Lib.hid hown
  have hrr : (t :: r).length = r.length + 1 := rfl
  have HLN := Lib.hid hrr
  generalize hNN : (t :: r).length = N at *
  have HNN := Lib.hid hNN
  have hN : 0 < N := by omega
  have hN0 : ((N : Int) == 0) = false := by simp; omega
  unfold maxLen at hmx
  clear hrow hown hcell hrr hl h hNN hsr
  obtain ⟨m, hm⟩ : ∃ m, t.bs.length = m := ⟨_, rfl⟩
  rw [hm] at hn2 hlen l2 d1
  have HM := Lib.hid hm
  clear hm
  have hi1 : (n : Int) ≤ (m : Int) := by omega
  have hi2 : ¬ (m : Int) < (n : Int) := by omega
  go_enter Try.func17, Try.ntmps17
  go_wp2_with (go_at_call 109; refine (none_not HR.out hr).mono ?_; rintro e _ ⟨rfl, rfl⟩)
  have HC := Lib.hid (qcopied_any (some ⟨t.g, t.off, none⟩) t.cap (t.bs.take n) w HSRC.out (by rw [HTL.out]; omega) (by rw [HTL.out]; omega))
  rw [HTL.out] at HC
  refine (HC.out).mono ?_
  rintro e w2 ⟨g2, rfl, hg2, hby, hb2⟩
  rw [HTL.out]
  have HG2 := Lib.hid hg2
  have HBY := Lib.hid (show QBytes w2 g2 (t.bs.take n) from hby)
  have HB2 := Lib.hid hb2
  obtain ⟨_, hB3, sv2, hrow2, hown2, hl2⟩ := HQ.out.later hb2
  have esv : sv2 = .slice (some ⟨g, 0, none⟩) N cap := by
    have := HR.out.later hb2
    unfold Row at this hrow2
    rw [hrow2] at this
    injection this with this
    injection this with this _
    injection this with this
    injection this with _ this
    injection this with _ this
    injection this with this _
  subst esv
  rw [HNN.out] at hown2
  have k2 := hrow2.read (i := 2) rfl
  have hcell2 := hown2.cells (g := g) rfl
  have e1 := hcell2 1 _ (txc_at (ts := t :: r) (i := 0) rfl).2.1
  have e2 := hcell2 2 _ (txc_at (ts := t :: r) (i := 0) rfl).2.2
  unfold Txt.waits at e1
  rw [HM.out] at e1
  have f1 := hown2.free (g := g) rfl 1
  have f2 := hown2.free (g := g) rfl 2
  have HTK := fun off' (ho : n < t.bs.length → off' = t.off + n) => took_rep (g := g) (cap := cap) (t := t) (r := r) (n := n) (off' := off') hB hB3 (by rw [HNN.out]; exact hrow2) (by rw [HNN.out]; exact hown2) hl2 (by rw [HM.out]; exact hn2) ho
  rw [HM.out] at HTK
  have HTK := Lib.hid HTK
  have HQ2 := Lib.hid (QOnly.of_below (B := B) hb2)
  clear hg2 hby hb2 hrow2 hown2 hl2 hcell2 hB3
  have hn1' : (1 : Int) ≤ (n : Int) := by omega
  rcases Nat.lt_or_ge n m with hlt | hge
  · have hce : ¬ t.cap = n := by omega
    obtain ⟨t', ht1, ht2, ht3, ht4, ht5, ht6⟩ := HTK.out (t.off + n) (fun _ => rfl)
    have HT4 := Lib.hid ht4
    have HT5 := Lib.hid ht5
    have HT1 := Lib.hid (And.intro ht1 (And.intro ht2 ht3))
    have hpos : (0 : Int) < ((m - n : Nat) : Int) := by omega
    have hposn : 0 < m - n := by omega
    have heq : (n == t.bs.length) = false := by rw [HM.out]; simp; omega
    have HEQ := Lib.hid heq
    have hne : ¬ n = t.bs.length := by rw [HM.out]; omega
    have HNE := Lib.hid hne
    clear ht1 ht2 ht3 ht4 ht5 ht6 heq hne
    go_wp2
    go_ret3
    refine TakeDoneG.intro HEQ.out HG2.out (HBY.out.q HT5.out) (HQ2.out.trans HT5.out) t' HT1.out.1 HT1.out.2.1 HT1.out.2.2 ?_
    rw [if_neg HNE.out]
    exact HT4.out
  · obtain rfl : m = n := by omega
    have hrm : 0 < (Txt.mk 0 0 0 0 [] false :: r).length := by simp
    by_cases hce : t.cap = m
    · obtain ⟨t', ht1, ht2, ht3, ht4, ht5, ht6⟩ := HTK.out t.off (fun h => by omega)
      rw [Nat.sub_self, hce, Nat.sub_self] at ht4 ht5
      have HT4 := Lib.hid ht4
      have HT5 := Lib.hid ht5
      have HT1 := Lib.hid (And.intro ht1 (And.intro ht2 ht3))
      have heq : (m == t.bs.length) = true := by rw [HM.out]; simp
      have HEQ := Lib.hid heq
      clear ht1 ht2 ht3 ht4 ht5 ht6 heq
      go_wp2_with fail
      refine (remove_any (k := 0) HT4.out (by simp) (by simp; omega)).mono ?_
      rintro e w3 ⟨rfl, hq3, ho3⟩
      have HQ3 := Lib.hid hq3
      have HO3 := Lib.hid ho3
      clear hq3 ho3
      go_wp2
      go_ret3
      refine TakeDoneG.intro HEQ.out HG2.out ((HBY.out.q HT5.out).q HO3.out) ((HQ2.out.trans HT5.out).trans HO3.out) t' HT1.out.1 HT1.out.2.1 HT1.out.2.2 ?_
      rw [if_pos HM.out.symm]
      exact HQ3.out
    · obtain ⟨t', ht1, ht2, ht3, ht4, ht5, ht6⟩ := HTK.out (t.off + m) (fun h => by omega)
      rw [Nat.sub_self] at ht4 ht5
      have HT4 := Lib.hid ht4
      have HT5 := Lib.hid ht5
      have HT1 := Lib.hid (And.intro ht1 (And.intro ht2 ht3))
      have heq : (m == t.bs.length) = true := by rw [HM.out]; simp
      have HEQ := Lib.hid heq
      clear ht1 ht2 ht3 ht4 ht5 ht6 heq
      go_wp2_with fail
      refine (remove_any (k := 0) HT4.out (by simp) (by simp; omega)).mono ?_
      rintro e w3 ⟨rfl, hq3, ho3⟩
      have HQ3 := Lib.hid hq3
      have HO3 := Lib.hid ho3
      clear hq3 ho3
      go_wp2
      go_ret3
      refine TakeDoneG.intro HEQ.out HG2.out ((HBY.out.q HT5.out).q HO3.out) ((HQ2.out.trans HT5.out).trans HO3.out) t' HT1.out.1 HT1.out.2.1 HT1.out.2.2 ?_
      rw [if_pos HM.out.symm]
      exact HQ3.out
theorem take_ok {t : Txt} {r : List Txt} (n : Nat) (h : QRep B w p room last (t :: r)) (hr : 0 < room) (hn1 : 1 ≤ n) (hn2 : n ≤ t.bs.length) (hlen : t.bs.length ≤ 100000) (hrl : r.length ≤ 900) :
    Calls Try.prog 17 #[.pointer (some ⟨p, 0, none⟩), .int .i64 n] w (TakeDone B p last room t r n w) := by
  refine (take_okg n h hr hn1 hn2 hlen hrl).mono ?_
  rintro e w' ⟨g, h1, h2, h3, h4, t', k1, k2, k3, k4⟩
  exact ⟨g, h1, h2, h3, h4, t', k1, k2, k3.1, k4⟩
end
end Go.Proofs.Ytbcjfdhphpckfaa
namespace Go.Proofs.Ytbcjfdhphpckfaa
open Go.RowKit

section
variable {B p last : Nat} {room : Int} {ts : List Txt} {w : World}
set_option maxHeartbeats 400000 in
theorem qbytes_nil (w : World) : Calls Try.prog 26 #[.pointer none] w fun e w' => e = .returned (.int .i64 0) ∧ w = w' := by
  go_enter Try.func26, Try.ntmps26
  go_wp2_with (go_at_call 109; refine (none_nil _).mono ?_; rintro e _ ⟨rfl, rfl⟩)
  go_ret
  exact ⟨rfl, rfl⟩
set_option maxHeartbeats 400000 in
theorem ids_nil (w : World) : Calls Try.prog 28 #[.pointer none] w fun e w' => e = .returned (.slice none 0 0) ∧ w = w' := by
  go_enter Try.func28, Try.ntmps28
  go_wp2_with (go_at_call 109; refine (none_nil _).mono ?_; rintro e _ ⟨rfl, rfl⟩)
  go_ret
  exact ⟨rfl, rfl⟩
set_option maxHeartbeats 400000 in
theorem clear_nil (w : World) : Calls Try.prog 22 #[.pointer none] w fun e w' => e = .returned (.slice none 0 0) ∧ w = w' := by
  go_enter Try.func22, Try.ntmps22
  go_wp2_with (go_at_call 109; refine (none_nil _).mono ?_; rintro e _ ⟨rfl, rfl⟩)
  go_ret
  exact ⟨rfl, rfl⟩
set_option maxHeartbeats 400000 in
theorem clear_zero {a b : Value} (h : Row w p 51 #[.int .i64 0, a, b]) : Calls Try.prog 22 #[.pointer (some ⟨p, 0, none⟩)] w fun e w' => e = .returned (.slice none 0 0) ∧ w = w' := by
  have HR := Lib.hid h
  clear h
  go_enter Try.func22, Try.ntmps22
  go_wp2_with (go_at_call 109; refine (none_zero HR.out).mono ?_; rintro e _ ⟨rfl, rfl⟩)
  go_ret
  exact ⟨rfl, rfl⟩
set_option maxHeartbeats 400000 in
theorem discard_nil (id : Int) (w : World) : Calls Try.prog 19 #[.pointer none, .int .u64 id] w fun e w' => e = .returned (.int .i64 6) ∧ w = w' := by
  go_enter Try.func19, Try.ntmps19
  go_wp2_with (go_at_call 109; refine (none_nil _).mono ?_; rintro e _ ⟨rfl, rfl⟩)
  go_ret
  exact ⟨rfl, rfl⟩
set_option maxHeartbeats 400000 in
theorem discard_zero {a b : Value} (id : Int) (h : Row w p 51 #[.int .i64 0, a, b]) : Calls Try.prog 19 #[.pointer (some ⟨p, 0, none⟩), .int .u64 id] w fun e w' => e = .returned (.int .i64 6) ∧ w = w' := by
  have HR := Lib.hid h
  clear h
  go_enter Try.func19, Try.ntmps19
  go_wp2_with (go_at_call 109; refine (none_zero HR.out).mono ?_; rintro e _ ⟨rfl, rfl⟩)
  go_ret
  exact ⟨rfl, rfl⟩
set_option maxHeartbeats 400000 in
theorem front_nil (w : World) : Calls Try.prog 24 #[.pointer none] w fun e w' => e = .returned (.tuple #[.int .u64 0, .slice none 0 0, .bool false]) ∧ w = w' := by
  go_enter Try.func24, Try.ntmps24
  go_wp2_with (go_at_call 109; refine (none_nil _).mono ?_; rintro e _ ⟨rfl, rfl⟩)
  go_ret3
  exact ⟨rfl, rfl⟩
set_option maxHeartbeats 400000 in
theorem front_none (h : QRep B w p room last []) (hr : 0 < room) : Calls Try.prog 24 #[.pointer (some ⟨p, 0, none⟩)] w fun e w' => e = .returned (.tuple #[.int .u64 0, .slice none 0 0, .bool false]) ∧ w = w' := by
  obtain ⟨_, _, sv, hrow, hown, _⟩ := h
  obtain ⟨A1, cap, rfl, hcap, hmx⟩ := hown.shape
  have c2 := hrow.read (i := 2) rfl
  have HR := Lib.hid hrow
  clear hrow hown
  simp only [List.length_nil] at c2 hcap
  go_enter Try.func24, Try.ntmps24
  go_wp2_with (go_at_call 109; refine (none_not HR.out hr).mono ?_; rintro e _ ⟨rfl, rfl⟩)
  go_ret3
  exact ⟨rfl, rfl⟩

/-- the first text handed out -/
def FrontDone (t : Txt) (w : World) (e : Ending) (w' : World) : Prop :=
  ∃ g, e = .returned (.tuple #[.int .u64 t.id, .slice (some ⟨g, 0, none⟩) t.bs.length t.bs.length, .bool t.bg]) ∧ w.heap.size ≤ g ∧ QBytes w' g t.bs ∧ Below w.heap.size w w'

set_option maxRecDepth 100000 in
set_option maxHeartbeats 1600000 in
theorem front_ok {t : Txt} {r : List Txt} (h : QRep B w p room last (t :: r)) (hr : 0 < room) (h0 : 0 < t.bs.length) (hlen : t.bs.length ≤ 100000) :
    Calls Try.prog 24 #[.pointer (some ⟨p, 0, none⟩)] w (FrontDone t w) := by
  obtain ⟨hB, hB2, sv, hrow, hown, hl⟩ := h
  obtain ⟨g, cap, rfl, hcap, hmx⟩ := hown.form (by simp)
  have c2 := hrow.read (i := 2) rfl
  have HR := Lib.hid hrow
  have hcell := hown.cells (g := g) rfl
  have d0 := hcell 0 _ (txc_at (ts := t :: r) (i := 0) rfl).1
  have d1 := hcell 1 _ (txc_at (ts := t :: r) (i := 0) rfl).2.1
  have d2 := hcell 2 _ (txc_at (ts := t :: r) (i := 0) rfl).2.2
  unfold Txt.waits at d1
  obtain ⟨l1, l2, l3, _⟩ := id (hl t (List.mem_cons_self ..))
  have hsrc := (hl t (List.mem_cons_self ..)).src
  have hrr : (t :: r).length = r.length + 1 := rfl
  generalize (t :: r).length = N at *
  have hN : 0 < N := by omega
  have hN0 : ((N : Int) == 0) = false := by simp; omega
  unfold maxLen at hmx
  have HSRC := Lib.hid (hsrc.later (bl_alloc (Below.refl _ _) (.cells #[.int .u64 t.id, .slice (some ⟨t.g, t.off, none⟩) t.bs.length t.cap, .bool t.bg] 177)))
  have hbox := Row.made w 177 #[.int .u64 t.id, .slice (some ⟨t.g, t.off, none⟩) t.bs.length t.cap, .bool t.bg]
  have b0 := hbox.read (i := 0) (x := .int .u64 t.id) rfl
  have b1 := hbox.read (i := 1) (x := .slice (some ⟨t.g, t.off, none⟩) t.bs.length t.cap) rfl
  have b2 := hbox.read (i := 2) (x := .bool t.bg) rfl
  have HC := Lib.hid (fun W (hW : W = (w.alloc (.cells #[.int .u64 t.id, .slice (some ⟨t.g, t.off, none⟩) t.bs.length t.cap, .bool t.bg] 177)).drew) => qcopied_any (some ⟨t.g, t.off, none⟩) t.cap t.bs W (by rw [hW]; exact HSRC.out) h0 (by omega))
  clear hrow hown hcell hrr hl hsrc hbox
  go_enter Try.func24, Try.ntmps24
  go_wp2_with (go_at_call 109; refine (none_not HR.out hr).mono ?_; rintro e _ ⟨rfl, rfl⟩)
  go_region_held3 (fun w' => w'.cell? ⟨w.heap.size, 0, none⟩ = some (.int .u64 t.id) ∧ w'.cell? ⟨w.heap.size, 1, none⟩ = some (.slice (some ⟨t.g, t.off, none⟩) t.bs.length t.cap) ∧ w'.cell? ⟨w.heap.size, 2, none⟩ = some (.bool t.bg)) (first | go_keep | (exact ⟨kept_box (by assumption) (by assumption), kept_box (by assumption) (by assumption), kept_box (by assumption) (by assumption)⟩)) (first
    | (go_at_call 110; refine (HC.out _ rfl).mono ?_; rintro e w2 ⟨g2, rfl, hg2, hby, hb2⟩))
  have HF : Hid (FrontDone t w (.returned (.tuple #[.int .u64 t.id, .slice (some ⟨g2, 0, none⟩) t.bs.length t.bs.length, .bool t.bg])) w2) :=
    Lib.hid ⟨g2, rfl, by have : (w.alloc (.cells #[.int .u64 t.id, .slice (some ⟨t.g, t.off, none⟩) t.bs.length t.cap, .bool t.bg] 177)).heap.size ≤ g2 := hg2; simp at this; omega, hby, bl_step (bl_alloc (Below.refl _ _) _) (bl_step (bl_drew (Below.refl _ _)) hb2)⟩
  clear hg2 hby hb2
  go_wp2
  go_ret3
  exact HF.out

/-- what a Discard answers, and what is left -/
def discE (id : Nat) (ts : List Txt) : Int := match ts[placeF id ts]? with
  | none => 4
  | some t => if t.bg then 7 else 0
def discF (id : Nat) (ts : List Txt) : List Txt := match ts[placeF id ts]? with
  | none => ts
  | some t => if t.bg then ts else ts.eraseIdx (placeF id ts)

set_option maxRecDepth 100000 in
set_option maxHeartbeats 1600000 in
theorem discard_any (nid : Nat) (h : QRep B w p room last ts) (hr : 0 < room) (hn : ts.length ≤ 900) :
    Calls Try.prog 19 #[.pointer (some ⟨p, 0, none⟩), .int .u64 nid] w fun e w' => e = .returned (.int .i64 (discE nid ts)) ∧ QRep B w' p room last (discF nid ts) ∧ QOnly B w w' := by
  obtain ⟨hB, hB2, sv, hrow, hown, hl⟩ := id h
  have HQ := Lib.hid h
  have HR := Lib.hid hrow
  have HP := Lib.hid (place_any (id := nid) h)
  have hple := placeF_le nid ts
  have c2 := hrow.read (i := 2) rfl
  rcases Nat.lt_or_ge (placeF nid ts) ts.length with hlt | hge
  · obtain ⟨t, ht⟩ : ∃ t, ts[placeF nid ts]? = some t := ⟨_, List.getElem?_eq_getElem hlt⟩
    have HE := Lib.hid (show discE nid ts = if t.bg then 7 else 0 by unfold discE; rw [ht])
    have HF := Lib.hid (show discF nid ts = if t.bg then ts else ts.eraseIdx (placeF nid ts) by unfold discF; rw [ht])
    obtain ⟨g, cap, rfl, hcap, hmx⟩ := hown.form (by omega)
    unfold maxLen at hmx
    have d2 := hown.cells (g := g) rfl _ _ (txc_at ht).2.2
    have HREM := Lib.hid (remove_any (k := placeF nid ts) h hlt (by omega))
    rw [HE.out, HF.out]
    generalize placeF nid ts = P at *
    have hi0 : (0 : Int) ≤ (P : Int) := by omega
    have hi1 : (P : Int) < (ts.length : Int) := by omega
    have hne : ((P : Int) == (ts.length : Int)) = false := by simp; omega
    clear h hrow hown hl ht HE HF
    cases hbg : t.bg
    · rw [hbg] at d2
      clear hbg
      go_enter Try.func19, Try.ntmps19
      go_wp2_with (first
        | (go_at_call 109; refine (none_not HR.out hr).mono ?_; rintro e _ ⟨rfl, rfl⟩)
        | (go_at_call 113; refine (HP.out).mono ?_; rintro e _ ⟨rfl, rfl⟩)
        | (go_at_call 111; refine (HREM.out).mono ?_; rintro e w2 ⟨rfl, hq, ho⟩; have HQ2 := Lib.hid hq; have HO2 := Lib.hid ho; clear hq ho))
      go_ret
      exact ⟨rfl, HQ2.out, HO2.out⟩
    · rw [hbg] at d2
      clear hbg
      go_enter Try.func19, Try.ntmps19
      go_wp2_with (first
        | (go_at_call 109; refine (none_not HR.out hr).mono ?_; rintro e _ ⟨rfl, rfl⟩)
        | (go_at_call 113; refine (HP.out).mono ?_; rintro e _ ⟨rfl, rfl⟩))
      go_ret
      exact ⟨rfl, HQ.out, QOnly.refl _ _⟩
  · have hno : ts[placeF nid ts]? = none := List.getElem?_eq_none hge
    have HE := Lib.hid (show discE nid ts = 4 by unfold discE; rw [hno])
    have HF := Lib.hid (show discF nid ts = ts by unfold discF; rw [hno])
    obtain ⟨A1, cap, rfl, hcap, hmx⟩ := hown.shape
    unfold maxLen at hmx
    rw [HE.out, HF.out]
    generalize placeF nid ts = P at *
    have heq : ((P : Int) == (ts.length : Int)) = true := by simp; omega
    clear h hrow hown hl hno HE HF
    go_enter Try.func19, Try.ntmps19
    go_wp2_with (first
      | (go_at_call 109; refine (none_not HR.out hr).mono ?_; rintro e _ ⟨rfl, rfl⟩)
      | (go_at_call 113; refine (HP.out).mono ?_; rintro e _ ⟨rfl, rfl⟩))
    go_ret
    exact ⟨rfl, HQ.out, QOnly.refl _ _⟩
end
end Go.Proofs.Ytbcjfdhphpckfaa
namespace Go.Proofs.Ytbcjfdhphpckfaa

/-- the number whose bits these are, the highest first -/
def val (l : List Bool) : Nat := l.foldl (fun v b => 2 * v + b.toNat) 0
/-- a number's last n bits -/
def unval (v : Nat) : Nat → List Bool
  | 0 => []
  | n + 1 => unval (v / 2) n ++ [v % 2 == 1]
/-- byte i of bits, filled up with noughts -/
def eight (bl : List Bool) (i : Nat) : List Bool := (List.range 8).map fun j => bl.getD (8 * i + j) false
def byteAt (bl : List Bool) (i : Nat) : Nat := val (eight bl i)
def packLen (n : Nat) : Nat := (n + 7) / 8
def pack (bl : List Bool) : List Nat := (List.range (packLen bl.length)).map (byteAt bl)
def bitsOf (bs : List Nat) : List Bool := bs.flatMap (unval · 8)

theorem snoc_ind {P : List Bool → Prop} (h0 : P []) (h1 : ∀ l b, P l → P (l ++ [b])) (l : List Bool) : P l := by
  have h : ∀ m : List Bool, P m.reverse := by
    intro m
    induction m with
    | nil => exact h0
    | cons a m ih => rw [List.reverse_cons]; exact h1 _ _ ih
  have h2 := h l.reverse
  rwa [List.reverse_reverse] at h2
theorem val_nil : val [] = 0 := rfl
theorem val_snoc (l : List Bool) (b : Bool) : val (l ++ [b]) = 2 * val l + b.toNat := by simp [val]
theorem val_append (l m : List Bool) : val (l ++ m) = val l * 2 ^ m.length + val m := by
  induction m using snoc_ind with
  | h0 => simp [val_nil]
  | h1 m b ih =>
    rw [← List.append_assoc, val_snoc, ih, val_snoc, List.length_append, List.length_singleton, Nat.pow_succ]
    rw [Nat.mul_add, ← Nat.mul_assoc, ← Nat.mul_assoc, Nat.mul_comm 2 (val l), Nat.mul_assoc (val l) 2, Nat.mul_comm 2 (2 ^ m.length), ← Nat.mul_assoc]
    omega
theorem val_lt (l : List Bool) : val l < 2 ^ l.length := by
  induction l using snoc_ind with
  | h0 => simp [val_nil]
  | h1 l b ih =>
    rw [val_snoc, List.length_append, List.length_singleton, Nat.pow_succ]
    cases b <;> simp <;> omega

theorem length_unval (v n : Nat) : (unval v n).length = n := by
  induction n generalizing v with
  | zero => rfl
  | succ n ih => simp [unval, ih]
theorem val_unval (v n : Nat) : val (unval v n) = v % 2 ^ n := by
  induction n generalizing v with
  | zero => simp [unval, val_nil, Nat.mod_one]
  | succ n ih =>
    rw [unval, val_snoc, ih, Nat.pow_succ, Nat.mul_comm (2 ^ n) 2, Nat.mod_mul]
    have : (v % 2 == 1).toNat = v % 2 := by
      rcases Nat.mod_two_eq_zero_or_one v with h | h <;> rw [h] <;> rfl
    rw [this]
    omega
theorem unval_val (l : List Bool) : unval (val l) l.length = l := by
  induction l using snoc_ind with
  | h0 => rfl
  | h1 l b ih =>
    rw [List.length_append, List.length_singleton, unval, val_snoc]
    have h1 : (2 * val l + b.toNat) / 2 = val l := by cases b <;> simp <;> omega
    have h2 : ((2 * val l + b.toNat) % 2 == 1) = b := by cases b <;> simp <;> omega
    rw [h1, h2, ih]
theorem unval_split (v n m : Nat) : unval v (n + m) = unval (v / 2 ^ m) n ++ unval v m := by
  induction m generalizing v with
  | zero => simp [unval]
  | succ m ih =>
    rw [← Nat.add_assoc, unval, ih, unval, List.append_assoc, Nat.div_div_eq_div_mul, Nat.pow_succ, Nat.mul_comm 2]
theorem unval_mod (v m : Nat) : unval (v % 2 ^ m) m = unval v m := by
  have h := unval_val (unval v m)
  rw [val_unval, length_unval] at h
  exact h

theorem length_eight (bl : List Bool) (i : Nat) : (eight bl i).length = 8 := by simp [eight]
theorem byteAt_lt (bl : List Bool) (i : Nat) : byteAt bl i < 256 := by
  have := val_lt (eight bl i)
  rw [length_eight] at this
  exact this
theorem unval_byteAt (bl : List Bool) (i : Nat) : unval (byteAt bl i) 8 = eight bl i := by
  have h := unval_val (eight bl i)
  rw [length_eight] at h
  exact h
theorem length_pack (bl : List Bool) : (pack bl).length = packLen bl.length := by simp [pack]
theorem pack_at (bl : List Bool) {i : Nat} (h : i < packLen bl.length) : (pack bl)[i]? = some (byteAt bl i) := by simp [pack, h]
theorem eight_at (bl : List Bool) {i j : Nat} (h : j < 8) : (eight bl i)[j]? = some (bl.getD (8 * i + j) false) := by simp [eight, h]

theorem length_bitsOf (bs : List Nat) : (bitsOf bs).length = 8 * bs.length := by
  induction bs with
  | nil => rfl
  | cons b bs ih =>
    have : bitsOf (b :: bs) = unval b 8 ++ bitsOf bs := rfl
    rw [this, List.length_append, length_unval, ih, List.length_cons]
    omega
theorem bitsOf_at (bs : List Nat) : ∀ (k : Nat) (b : Nat), bs[k / 8]? = some b → (bitsOf bs)[k]? = (unval b 8)[k % 8]? := by
  induction bs with
  | nil => intro k b h; simp at h
  | cons a bs ih =>
    intro k b h
    have e : bitsOf (a :: bs) = unval a 8 ++ bitsOf bs := rfl
    rw [e]
    by_cases hk : k < 8
    · have h0 : k / 8 = 0 := by omega
      rw [h0] at h
      simp at h
      subst h
      rw [List.getElem?_append_left (by rw [length_unval]; exact hk), Nat.mod_eq_of_lt hk]
    · obtain ⟨j, rfl⟩ : ∃ j, k = j + 8 := ⟨k - 8, by omega⟩
      have h0 : (j + 8) / 8 = j / 8 + 1 := by omega
      rw [h0, List.getElem?_cons_succ] at h
      rw [List.getElem?_append_right (by rw [length_unval]; omega), length_unval, Nat.add_sub_cancel, ih j b h, Nat.add_mod_right]
theorem bitsOf_pack (bl : List Bool) : bitsOf (pack bl) = bl ++ List.replicate (8 * packLen bl.length - bl.length) false := by
  have hle : bl.length ≤ 8 * packLen bl.length := by unfold packLen; omega
  apply List.ext_getElem?
  intro k
  by_cases hk : k < 8 * packLen bl.length
  · rw [bitsOf_at _ k _ (pack_at bl (by omega)), unval_byteAt, eight_at bl (Nat.mod_lt _ (by omega)), show 8 * (k / 8) + k % 8 = k by omega]
    by_cases hb : k < bl.length
    · rw [List.getElem?_append_left hb, List.getD_eq_getElem?_getD, List.getElem?_eq_getElem hb]
      rfl
    · rw [List.getElem?_append_right (by omega), List.getD_eq_getElem?_getD, List.getElem?_eq_none (by omega), List.getElem?_replicate, if_pos (by omega)]
      rfl
  · rw [List.getElem?_eq_none (by rw [length_bitsOf, length_pack]; omega), List.getElem?_eq_none (by rw [List.length_append, List.length_replicate]; omega)]

/-- one more bit in a byte, the rest of it noughts -/
theorem or_bit (r : Nat) (hr : r < 8) (L : List Bool) (hL : L.length = 8) (hz : ∀ j, r ≤ j → j < 8 → L[j]? = some false) (b : Bool) :
    val (L.set r b) = val L ||| (b.toNat <<< (7 - r)) := by
  match L, hL with
  | [x0, x1, x2, x3, x4, x5, x6, x7], _ =>
    have z : ∀ j, r ≤ j → j < 8 → [x0, x1, x2, x3, x4, x5, x6, x7][j]? = some false := hz
    clear hz
    obtain rfl | rfl | rfl | rfl | rfl | rfl | rfl | rfl : r = 0 ∨ r = 1 ∨ r = 2 ∨ r = 3 ∨ r = 4 ∨ r = 5 ∨ r = 6 ∨ r = 7 := by omega
    all_goals
      have h7 := z 7 (by omega) (by omega)
      have h6 := fun h => z 6 h (by omega)
      have h5 := fun h => z 5 h (by omega)
      have h4 := fun h => z 4 h (by omega)
      have h3 := fun h => z 3 h (by omega)
      have h2 := fun h => z 2 h (by omega)
      have h1 := fun h => z 1 h (by omega)
      have h0 := fun h => z 0 h (by omega)
      clear z
      simp at h7 h6 h5 h4 h3 h2 h1 h0
      revert x0 x1 x2 x3 x4 x5 x6 x7 b
      decide
theorem eight_snoc (bl : List Bool) (b : Bool) : eight (bl ++ [b]) (bl.length / 8) = (eight bl (bl.length / 8)).set (bl.length % 8) b := by
  apply List.ext_getElem?
  intro j
  by_cases hj : j < 8
  · rw [eight_at _ hj, List.getElem?_set]
    by_cases he : bl.length % 8 = j
    · subst he
      rw [if_pos rfl, if_pos (by rw [length_eight]; omega), show 8 * (bl.length / 8) + bl.length % 8 = bl.length by omega]
      simp [List.getD_eq_getElem?_getD]
    · rw [if_neg he, eight_at _ hj, List.getD_eq_getElem?_getD, List.getD_eq_getElem?_getD]
      congr 2
      by_cases hlt : 8 * (bl.length / 8) + j < bl.length
      · rw [List.getElem?_append_left hlt]
      · rw [List.getElem?_append_right (by omega), List.getElem?_eq_none (l := bl) (by omega), List.getElem?_eq_none (by simp; omega)]
  · rw [List.getElem?_eq_none (by rw [length_eight]; omega), List.getElem?_eq_none (by rw [List.length_set, length_eight]; omega)]
theorem byteAt_snoc (bl : List Bool) (b : Bool) : byteAt (bl ++ [b]) (bl.length / 8) = byteAt bl (bl.length / 8) ||| (b.toNat <<< (7 - bl.length % 8)) := by
  unfold byteAt
  rw [eight_snoc]
  refine or_bit _ (Nat.mod_lt _ (by omega)) _ (length_eight _ _) (fun j h1 h2 => ?_) b
  rw [eight_at _ h2, List.getD_eq_getElem?_getD, List.getElem?_eq_none (by omega)]
  rfl
theorem byteAt_other (bl : List Bool) (b : Bool) {i : Nat} (h : i < bl.length / 8) : byteAt (bl ++ [b]) i = byteAt bl i := by
  unfold byteAt eight
  congr 1
  apply List.map_congr_left
  intro j hj
  have : j < 8 := List.mem_range.1 hj
  rw [List.getD_eq_getElem?_getD, List.getD_eq_getElem?_getD, List.getElem?_append_left (by omega)]
theorem byteAt_beyond (bl : List Bool) {i : Nat} (h : bl.length ≤ 8 * i) : byteAt bl i = 0 := by
  have : eight bl i = List.replicate 8 false := by
    unfold eight
    apply List.ext_getElem?
    intro j
    by_cases hj : j < 8
    · rw [List.getElem?_map, List.getElem?_range hj, List.getElem?_replicate, if_pos hj]
      simp [List.getD_eq_getElem?_getD, List.getElem?_eq_none (show bl.length ≤ 8 * i + j by omega)]
    · simp [hj]
  unfold byteAt
  rw [this]
  rfl
/-- the bytes ahead of an added bit -/
def room (bl : List Bool) : List Nat := if bl.length % 8 = 0 then pack bl ++ [0] else pack bl
theorem length_room (bl : List Bool) : (room bl).length = bl.length / 8 + 1 := by
  unfold room
  split <;> simp [length_pack, packLen] <;> omega
theorem room_at (bl : List Bool) {i : Nat} (h : i ≤ bl.length / 8) : (room bl)[i]? = some (byteAt bl i) := by
  unfold room
  split
  · by_cases hi : i < packLen bl.length
    · rw [List.getElem?_append_left (by rw [length_pack]; exact hi), pack_at bl hi]
    · have : i = packLen bl.length := by unfold packLen at *; omega
      subst this
      rw [List.getElem?_append_right (by rw [length_pack]; omega), length_pack, Nat.sub_self, byteAt_beyond bl (by unfold packLen; omega)]
      rfl
  · exact pack_at bl (by unfold packLen; omega)
theorem pack_snoc (bl : List Bool) (b : Bool) : pack (bl ++ [b]) = (room bl).set (bl.length / 8) (byteAt bl (bl.length / 8) ||| (b.toNat <<< (7 - bl.length % 8))) := by
  apply List.ext_getElem?
  intro i
  have hl : packLen (bl ++ [b]).length = bl.length / 8 + 1 := by simp [packLen]; omega
  by_cases hi : i < bl.length / 8 + 1
  · rw [pack_at _ (by omega), List.getElem?_set]
    by_cases he : bl.length / 8 = i
    · subst he
      rw [if_pos rfl, if_pos (by rw [length_room]; omega), byteAt_snoc]
    · rw [if_neg he, room_at bl (by omega), byteAt_other bl b (by omega)]
  · rw [List.getElem?_eq_none (by rw [length_pack, hl]; omega), List.getElem?_eq_none (by rw [List.length_set, length_room]; omega)]
end Go.Proofs.Ytbcjfdhphpckfaa
namespace Go.Proofs.Ytbcjfdhphpckfaa
open Go.RowKit

theorem Try.info5 : (Try.prog.info? 5).map (fun i => (i.zero, i.size, i.bytes)) = some (some (.int .u8 0), 1, 1) := by kernel_rfl
theorem info5_parts : ∃ i, Try.prog.info? 5 = some i ∧ i.zero = some (.int .u8 0) ∧ i.size = 1 ∧ i.bytes = 1 := info_parts Try.info5

/-- bytes as values -/
def bts (l : List Nat) : List Value := l.map fun b : Nat => .int .u8 b
theorem length_bts (l : List Nat) : (bts l).length = l.length := by simp [bts]
theorem bts_one (l : List Nat) : ∀ v ∈ bts l, v.oneCell' = true := by
  intro v hv
  simp only [bts, List.mem_map] at hv
  obtain ⟨b, _, rfl⟩ := hv
  rfl
theorem bts_at {l : List Nat} {i b : Nat} (h : l[i]? = some b) : (bts l)[i]? = some (.int .u8 b) := by simp [bts, h]

def zeros (n : Nat) : List Value := List.replicate n (.int .u8 0)
theorem length_zeros (n : Nat) : (zeros n).length = n := by simp [zeros]
theorem made_zeros (n : Nat) : madeCells #[.int .u8 0] n = (zeros n).toArray := by
  apply Array.toList_inj.1
  rw [toList_madeCells_one]
  simp [zeros]
theorem splice_all (n : Nat) (cs : List Value) (h : cs.length = n) : splice (zeros n) 0 cs = cs := by
  simp [splice, h, zeros]
theorem make_bytes (n : Nat) (h : n ≤ 8192) (w : World) :
    (Instr.makeSlice 34 (.int .i64 (n : Int)) (.int .i64 (n : Int))).run Try.prog w = .ok (.slice (some ⟨w.heap.size, 0, none⟩) n n) (w.alloc (.cells (zeros n).toArray 5)) := by
  obtain ⟨i, hi, hz, hs, hb⟩ := info5_parts
  have h := run_make (P := Try.prog) w 34 5 i _ Try.underlying34 hi hz .i64 .i64 n n (by omega) (Int.le_refl _) (by rw [hb]; omega) (by omega)
  rw [h, hs, Nat.mul_one, Int.toNat_natCast, ← made_zeros]
  rfl

/-- where a slice's elements lie -/
def Src (w : World) (A : Option Addr) (xs : List Value) : Prop := 0 < xs.length → ∃ ad, A = some ad ∧ ∀ j u, xs[j]? = some u → w.cell? (ad.add j) = some u

set_option maxHeartbeats 800000 in
theorem copied_any (A : Option Addr) (cap : Nat) (l : List Nat) (w : World) (hn : l.length ≤ 8192) (hs : Src w A (bts l)) :
    Calls Try.prog 245 #[.slice A l.length cap] w fun e w' => ∃ g, e = .returned (.slice (some ⟨g, 0, none⟩) l.length l.length) ∧ w.heap.size ≤ g ∧ Row w' g 5 (bts l).toArray ∧ Below w.heap.size w w' := by
  have hmk := make_bytes l.length hn
  have hlen := length_bts l
  generalize hnn : l.length = n at *
  have hsz : (Try.prog.info? 5).map (·.size) = some 1 := by
    obtain ⟨i, hi, _, h1, _⟩ := info5_parts
    rw [hi]
    simp [h1]
  have HS := Lib.hid hs
  have HL := Lib.hid hlen
  have HN := Lib.hid hnn
  clear hs hlen hnn
  go_enter Try.func245, Try.ntmps245
  go_wp2_with (with_reducible refine wpList_copy_splice rfl _ _ 34 34 rfl 5 Try.underlying34 hsz (some ⟨w.heap.size, 0, none⟩) A n n n cap rfl rfl w.heap.size 0 (zeros n) 5 ?h1 (bts l) ?h2 ?h3 ?h4 ?h5 w.heap.size w ?h6 (Nat.le_refl _) ?_)
  case h1 => exact heap_alloc_new _ _
  case h2 => rw [HL.out]; exact (Nat.min_self n).symm
  case h3 =>
    intro h0
    obtain ⟨ad, hA, hc⟩ := HS.out h0
    refine ⟨ad, hA, fun j v hv => ?_⟩
    have hx := hc j v hv
    exact (World.cell?_alloc_some w _ _ (by rw [hx]; rfl)).trans hx
  case h4 => rw [HL.out, length_zeros]; omega
  case h5 => exact bts_one l
  case h6 => exact bl_alloc (Below.refl _ _) _
  intro w1 hrow hb
  go_wp2
  go_ret
  refine ⟨w.heap.size, rfl, Nat.le_refl _, ?_, hb⟩
  have h := hrow.out
  rw [splice_all n _ HL.out] at h
  exact h

def mayB (n : Int) : Bool := decide (0 ≤ n ∧ n ≤ 64)
theorem mayB_true {n : Int} (h : mayB n = true) : 0 ≤ n ∧ n ≤ 64 := of_decide_eq_true h
theorem mayB_of {n : Int} (h1 : 0 ≤ n) (h2 : n ≤ 64) : mayB n = true := decide_eq_true ⟨h1, h2⟩
theorem mayB_not {n : Int} (h : n < 0 ∨ 64 < n) : mayB n = false := decide_eq_false (by omega)

set_option maxHeartbeats 400000 in
theorem mayBe_any (n : Int) (w : World) :
    Calls Try.prog 241 #[.int .i64 n] w fun e w' => e = .returned (.bool (mayB n)) ∧ w = w' := by
  by_cases h1 : 0 ≤ n
  · by_cases h2 : n ≤ 64
    · have HD := Lib.hid (mayB_of h1 h2)
      go_enter Try.func241, Try.ntmps241
      go_wp2
      go_ret
      exact ⟨ret_bool HD.out.symm, rfl⟩
    · have HD := Lib.hid (mayB_not (n := n) (by omega))
      go_enter Try.func241, Try.ntmps241
      go_wp2
      go_ret
      exact ⟨ret_bool (by rw [HD.out]), rfl⟩
  · have HD := Lib.hid (mayB_not (n := n) (by omega))
    go_enter Try.func241, Try.ntmps241
    go_wp2
    go_ret
    exact ⟨ret_bool (by rw [HD.out]), rfl⟩

/-- a writer at block p, whose slice value is sv, has these bits; it lies above block B -/
def WRep (B : Nat) (w : World) (p : Nat) (sv : Value) (bl : List Bool) : Prop :=
  B ≤ p ∧ Row w p 318 #[sv, .int .i64 bl.length] ∧ w.ownsRow B 5 1 sv (packLen bl.length) (bts (pack bl))

theorem WRep.only {B : Nat} {w v : World} {p : Nat} {sv : Value} {bl : List Bool} {S : Nat → Prop} (h : WRep B w p sv bl) (ho : Only S w v) (h1 : ¬ S p) (h2 : ∀ k, sv.ownBlock = some k → ¬ S k) : WRep B v p sv bl :=
  ⟨h.1, h.2.1.only ho h1, own_only h.2.2 ho h2⟩
theorem WRep.later {B : Nat} {w v : World} {p : Nat} {sv : Value} {bl : List Bool} (h : WRep B w p sv bl) (hb : Below w.heap.size w v) : WRep B v p sv bl :=
  h.only (S := fun _ => False) (.of_below hb) (fun h => h) (fun _ _ h => h)

set_option maxHeartbeats 400000 in
theorem new_any (B : Nat) (w : World) (hB : B ≤ w.heap.size) :
    Calls Try.prog 197 #[] w fun e w' => e = .returned (.pointer (some ⟨w.heap.size, 0, none⟩)) ∧ WRep B w' w.heap.size (.slice none 0 0) [] ∧ Below w.heap.size w w' := by
  go_enter Try.func197, Try.ntmps197
  go_wp2
  go_ret
  exact ⟨rfl, ⟨hB, Row.made _ _ _, World.ownsRow_nil _ _ _ _⟩, bl_alloc (Below.refl _ _) _⟩

theorem src_own {w : World} {B : Nat} {A : Option Addr} {n cap : Nat} {xs : List Value} (h : w.ownsRow B 5 1 (.slice A n cap) n xs) : Src w A xs := by
  intro h0
  have hn : xs.length = n := by have := h.1; omega
  obtain ⟨g, cap', hv, _, _⟩ := h.form (by omega)
  injection hv with hA _ _
  subst hA
  exact ⟨_, rfl, h.cells (g := g) rfl⟩

set_option maxHeartbeats 400000 in
theorem bytes_any {B : Nat} {w : World} {p : Nat} {sv : Value} {bl : List Bool} (h : WRep B w p sv bl) (hn : bl.length ≤ 65536) :
    Calls Try.prog 201 #[.pointer (some ⟨p, 0, none⟩)] w fun e w' => ∃ g, e = .returned (.slice (some ⟨g, 0, none⟩) (packLen bl.length) (packLen bl.length)) ∧ w.heap.size ≤ g ∧ Row w' g 5 (bts (pack bl)).toArray ∧ Below w.heap.size w w' := by
  obtain ⟨_, hr, ho⟩ := h
  have hc : w.cell? ⟨p, 0, none⟩ = some sv := hr.read rfl
  obtain ⟨A, cap, rfl⟩ : ∃ A cap, sv = .slice A (packLen bl.length) cap := by
    rcases ho.2 with ⟨rfl, h0⟩ | ⟨g, cap, cur, rfl, _⟩
    · exact ⟨none, 0, by rw [h0]⟩
    · exact ⟨_, cap, rfl⟩
  have hs := src_own ho
  have hcop := fun W => copied_any A cap (pack bl) W (by rw [length_pack]; unfold packLen; omega)
  rw [length_pack] at hcop
  have HC := Lib.hid hcop
  have HS := Lib.hid hs
  clear hcop hs ho hr
  generalize packLen bl.length = n at *
  go_enter Try.func201, Try.ntmps201
  go_wp2_with (go_at_call 245; refine (HC.out _ ?_).mono ?_; exact HS.out; rintro e w1 ⟨g, rfl, hg, hrow, hb⟩)
  go_ret
  exact ⟨g, rfl, hg, hrow, hb⟩
set_option maxHeartbeats 400000 in
theorem bytes_nil (w : World) : Calls Try.prog 201 #[.pointer none] w fun e w' => e = .returned (.slice none 0 0) ∧ w = w' := by
  go_enter Try.func201, Try.ntmps201
  go_wp2
  go_ret
  exact ⟨rfl, rfl⟩
end Go.Proofs.Ytbcjfdhphpckfaa
