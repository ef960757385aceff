/-
  QBytes taken of a queue's first text; the first text; a text discarded; all let go. The first text of a queue; a text discarded; all let go; a queue that is nil. A text is pushed: whatever comes of it. A law's own lists beside a queue: what the queue's calls do leaves them as they are, and what is appended to them leaves the queue as it is.
-/
import Derived.Test.YtjobgnemklpiaaaJGlueLoses08
import Derived.Test.YtjobgnemklpiaaaJGlueLoses06
namespace Go.Proofs.Ytjobgnemklpiaaa
open Go.RowKit

/-- a list of bytes of the call's own -/
def QBytes (w : World) (g : Nat) (l : List Nat) : Prop := ∃ cs : Array Value, Row w g 5 cs ∧ ∀ (j b : Nat), l[j]? = some b → cs[j]? = some (Value.int .u8 (b : Nat))
theorem QBytes.q {B : Nat} {w v : World} {g : Nat} {l : List Nat} (h : QBytes w g l) (ho : QOnly B w v) : QBytes v g l := by
  obtain ⟨cs, h1, h2⟩ := h
  exact ⟨cs, ho.row h1 (by decide) (by decide), h2⟩
theorem QBytes.later {w v : World} {g : Nat} {l : List Nat} (h : QBytes w g l) (hb : Below w.heap.size w v) : QBytes v g l := by
  obtain ⟨cs, h1, h2⟩ := h
  exact ⟨cs, h1.later hb, h2⟩

section
variable {B p last : Nat} {room : Int} {ts : List Txt} {w : World}
set_option maxHeartbeats 400000 in
theorem take_qnil (n : Int) (w : World) : Calls Try.prog 38 #[.pointer none, .int .i64 n] w fun e w' => e = .returned (.tuple #[.slice none 0 0, .bool false, .int .i64 6]) ∧ w = w' := by
  go_enter Try.func38, Try.ntmps38
  go_wp2_with (go_at_call 102; refine (none_nil _).mono ?_; rintro e _ ⟨rfl, rfl⟩)
  go_ret3
  exact ⟨rfl, rfl⟩
set_option maxHeartbeats 400000 in
theorem take_zero {a b : Value} (n : Int) (h : Row w p 77 #[.int .i64 0, a, b]) : Calls Try.prog 38 #[.pointer (some ⟨p, 0, none⟩), .int .i64 n] w fun e w' => e = .returned (.tuple #[.slice none 0 0, .bool false, .int .i64 6]) ∧ w = w' := by
  have HR := Lib.hid h
  clear h
  go_enter Try.func38, Try.ntmps38
  go_wp2_with (go_at_call 102; refine (none_zero HR.out).mono ?_; rintro e _ ⟨rfl, rfl⟩)
  go_ret3
  exact ⟨rfl, rfl⟩
set_option maxHeartbeats 400000 in
theorem take_none (n : Int) (h : QRep B w p room last []) (hr : 0 < room) : Calls Try.prog 38 #[.pointer (some ⟨p, 0, none⟩), .int .i64 n] w fun e w' => e = .returned (.tuple #[.slice none 0 0, .bool false, .int .i64 4]) ∧ w = w' := by
  obtain ⟨_, _, sv, hrow, hown, _⟩ := h
  obtain ⟨A1, cap, rfl, hcap, hmx⟩ := hown.shape
  have c2 := hrow.read (i := 2) rfl
  have HR := Lib.hid hrow
  clear hrow hown
  simp only [List.length_nil] at c2 hcap
  go_enter Try.func38, Try.ntmps38
  go_wp2_with (go_at_call 102; refine (none_not HR.out hr).mono ?_; rintro e _ ⟨rfl, rfl⟩)
  go_ret3
  exact ⟨rfl, rfl⟩
set_option maxHeartbeats 800000 in
theorem take_bad {t : Txt} {r : List Txt} (n : Int) (h : QRep B w p room last (t :: r)) (hr : 0 < room) (hn : n < 1 ∨ (t.bs.length : Int) < n) : Calls Try.prog 38 #[.pointer (some ⟨p, 0, none⟩), .int .i64 n] w fun e w' => e = .returned (.tuple #[.slice none 0 0, .bool false, .int .i64 1]) ∧ w = w' := by
  obtain ⟨_, _, sv, hrow, hown, hl⟩ := h
  obtain ⟨g, cap, rfl, hcap, hmx⟩ := hown.form (by simp)
  have c2 := hrow.read (i := 2) rfl
  have HR := Lib.hid hrow
  have hcell := hown.cells (g := g) rfl
  have d1 := hcell 1 _ (txc_at (ts := t :: r) (i := 0) rfl).2.1
  unfold Txt.waits at d1
  have hlen : (t :: r).length = r.length + 1 := rfl
  obtain ⟨l1, l2, l3, _⟩ := hl t (List.mem_cons_self ..)
  generalize (t :: r).length = N at *
  have hN : 0 < N := by omega
  have hN0 : ((N : Int) == 0) = false := by simp; omega
  unfold maxLen at hmx
  clear hrow hown hcell hlen hl
  rcases Int.lt_or_le n 1 with h1 | h1
  · clear hn
    go_enter Try.func38, Try.ntmps38
    go_wp2_with (go_at_call 102; refine (none_not HR.out hr).mono ?_; rintro e _ ⟨rfl, rfl⟩)
    go_ret3
    exact ⟨rfl, rfl⟩
  · have h2 : (t.bs.length : Int) < n := by omega
    clear hn
    go_enter Try.func38, Try.ntmps38
    go_wp2_with (go_at_call 102; refine (none_not HR.out hr).mono ?_; rintro e _ ⟨rfl, rfl⟩)
    go_ret3
    exact ⟨rfl, rfl⟩

/-- what a Take does that is not refused: n bytes, and what is left -/
def TakeDone (B p last : Nat) (room : Int) (t : Txt) (r : List Txt) (n : Nat) (w : World) (e : Ending) (w' : World) : Prop :=
  ∃ g, e = .returned (.tuple #[.slice (some ⟨g, 0, none⟩) n n, .bool (n == t.bs.length), .int .i64 0]) ∧ w.heap.size ≤ g ∧ QBytes w' g (t.bs.take n) ∧ QOnly B w w' ∧
    ∃ t' : Txt, t'.id = t.id ∧ t'.bs = t.bs.drop n ∧ t'.bg = true ∧ QRep B w' p room last (if n = t.bs.length then r else t' :: r)
/-- the same; what is left lies where it lay -/
def TakeDoneG (B p last : Nat) (room : Int) (t : Txt) (r : List Txt) (n : Nat) (w : World) (e : Ending) (w' : World) : Prop :=
  ∃ g, e = .returned (.tuple #[.slice (some ⟨g, 0, none⟩) n n, .bool (n == t.bs.length), .int .i64 0]) ∧ w.heap.size ≤ g ∧ QBytes w' g (t.bs.take n) ∧ QOnly B w w' ∧
    ∃ t' : Txt, t'.id = t.id ∧ t'.bs = t.bs.drop n ∧ (t'.bg = true ∧ t'.g = t.g) ∧ QRep B w' p room last (if n = t.bs.length then r else t' :: r)

theorem TakeDoneG.intro {t : Txt} {r : List Txt} {n g : Nat} {v : Bool} {w' : World} (hv : (n == t.bs.length) = v) (h1 : w.heap.size ≤ g) (h2 : QBytes w' g (t.bs.take n)) (h3 : QOnly B w w') (t' : Txt) (h4 : t'.id = t.id) (h5 : t'.bs = t.bs.drop n) (h6 : t'.bg = true ∧ t'.g = t.g)
    (h7 : QRep B w' p room last (if n = t.bs.length then r else t' :: r)) : TakeDoneG B p last room t r n w (.returned (.tuple #[.slice (some ⟨g, 0, none⟩) n n, .bool v, .int .i64 0])) w' :=
  ⟨g, by rw [hv], h1, h2, h3, t', h4, h5, h6, h7⟩

theorem qsrc_take {w : World} {A : Option Addr} {l : List Nat} (h : QSrcB w A (qbts l)) (n : Nat) : QSrcB w A (qbts (l.take n)) := by
  intro h0
  obtain ⟨b, off, rfl, hc⟩ := h (by rw [qlength_bts] at *; simp at h0; omega)
  refine ⟨b, off, rfl, fun j u hu => hc j u ?_⟩
  unfold qbts at *
  rw [List.map_take, List.getElem?_take] at hu
  split at hu
  · exact hu
  · cases hu

/-- the first text with its first bytes gone -/
theorem took_rep {t : Txt} {r : List Txt} {n off' g cap : Nat} (hq : B ≤ p) (hB2 : B ≤ w.heap.size) (hrow : Row w p 77 #[.int .i64 room, .int .u64 last, .slice (some ⟨g, 0, none⟩) (t :: r).length cap])
    (hown : OwnX w B 167 3 (.slice (some ⟨g, 0, none⟩) (t :: r).length cap) (t :: r).length (txc (t :: r))) (hl : ∀ x ∈ t :: r, x.lies B w) (hn : n ≤ t.bs.length) (hoff : n < t.bs.length → off' = t.off + n) :
    ∃ t' : Txt, t'.id = t.id ∧ t'.bs = t.bs.drop n ∧ (t'.bg = true ∧ t'.g = t.g) ∧ QRep B ((w.setCell ⟨g, 1, none⟩ (.slice (some ⟨t.g, off', none⟩) (t.bs.length - n) (t.cap - n))).setCell ⟨g, 2, none⟩ (.bool true)) p room last (t' :: r) ∧
      QOnly B w ((w.setCell ⟨g, 1, none⟩ (.slice (some ⟨t.g, off', none⟩) (t.bs.length - n) (t.cap - n))).setCell ⟨g, 2, none⟩ (.bool true)) ∧ t'.waits = .slice (some ⟨t.g, off', none⟩) (t.bs.length - n) (t.cap - n) := by
  have hgt : QT B w g := QT.list hown g rfl
  have hgp : p ≠ g := fun e => by subst e; exact hown.apart hrow (by decide) rfl
  have ho1 : QOnly B w (w.setCell ⟨g, 1, none⟩ (.slice (some ⟨t.g, off', none⟩) (t.bs.length - n) (t.cap - n))) := (Only.refl _ _).set (p := ⟨g, 1, none⟩) (.inl hgt) _
  have ho : QOnly B w ((w.setCell ⟨g, 1, none⟩ (.slice (some ⟨t.g, off', none⟩) (t.bs.length - n) (t.cap - n))).setCell ⟨g, 2, none⟩ (.bool true)) := Only.set ho1 (p := ⟨g, 2, none⟩) (.inl hgt) _
  have h2 := (hown.stored (g := g) rfl 1 (.slice (some ⟨t.g, off', none⟩) (t.bs.length - n) (t.cap - n))).stored (g := g) rfl 2 (.bool true)
  have ht' : (t.bs.drop n).length = t.bs.length - n := by simp
  refine ⟨⟨t.id, t.g, off', t.cap - n, t.bs.drop n, true⟩, rfl, rfl, ⟨rfl, rfl⟩, ⟨hq, by have := ho.size; omega, _, (hrow.elsewhere (p := ⟨g, 1, none⟩) hgp _).elsewhere (p := ⟨g, 2, none⟩) hgp _, ?_, ?_⟩, ho, by unfold Txt.waits; simp⟩
  · have e : ((txc (t :: r)).set 1 (.slice (some ⟨t.g, off', none⟩) (t.bs.length - n) (t.cap - n))).set 2 (.bool true) = txc (⟨t.id, t.g, off', t.cap - n, t.bs.drop n, true⟩ :: r) := by
      rw [txc_cons, txc_cons]
      unfold Txt.waits
      simp
    rw [e] at h2
    exact h2
  · intro x hx
    rcases List.mem_cons.1 hx with rfl | hx
    · obtain ⟨l1, l2, l3, cs, l4, l5⟩ := hl t (List.mem_cons_self ..)
      refine ⟨l1, by show (t.bs.drop n).length ≤ t.cap - n; rw [ht']; omega, by show t.cap - n ≤ _; omega, cs, ho.row l4 (by decide) (by decide), fun j b hb => ?_⟩
      have hb' : (t.bs.drop n)[j]? = some b := hb
      rw [List.getElem?_drop] at hb'
      have hlt : n + j < t.bs.length := (List.getElem?_eq_some_iff.1 hb').1
      show cs[off' + j]? = _
      rw [hoff (by omega), Nat.add_assoc]
      exact l5 _ _ hb'
    · exact (hl x (List.mem_cons_of_mem _ hx)).q ho

set_option maxRecDepth 100000 in
set_option maxHeartbeats 3200000 in
theorem take_okg {t : Txt} {r : List Txt} (n : Nat) (h : QRep B w p room last (t :: r)) (hr : 0 < room) (hn1 : 1 ≤ n) (hn2 : n ≤ t.bs.length) (hlen : t.bs.length ≤ 100000) (hrl : r.length ≤ 900) :
    Calls Try.prog 38 #[.pointer (some ⟨p, 0, none⟩), .int .i64 n] w (TakeDoneG B p last room t r n w) := by
  obtain ⟨hB, hB2, sv, hrow, hown, hl⟩ := id h
  obtain ⟨g, cap, rfl, hcap, hmx⟩ := hown.form (by simp)
  have c2 := hrow.read (i := 2) rfl
  have HR := Lib.hid hrow
  have hcell := hown.cells (g := g) rfl
  have d1 := hcell 1 _ (txc_at (ts := t :: r) (i := 0) rfl).2.1
  unfold Txt.waits at d1
  obtain ⟨l1, l2, l3, hsr⟩ := id (hl t (List.mem_cons_self ..))
  have HSRC := Lib.hid (qsrc_take (hl t (List.mem_cons_self ..)).src n)
  have HTL := Lib.hid (show (t.bs.take n).length = n by simp; omega)
  have HQ := Lib.hid h
  have HOWN := Lib.hid hown
  have hrr : (t :: r).length = r.length + 1 := rfl
  have HLN := Lib.hid hrr
  generalize hNN : (t :: r).length = N at *
  have HNN := Lib.hid hNN
  have hN : 0 < N := by omega
  have hN0 : ((N : Int) == 0) = false := by simp; omega
  unfold maxLen at hmx
  clear hrow hown hcell hrr hl h hNN hsr
  obtain ⟨m, hm⟩ : ∃ m, t.bs.length = m := ⟨_, rfl⟩
  rw [hm] at hn2 hlen l2 d1
  have HM := Lib.hid hm
  clear hm
  have hi1 : (n : Int) ≤ (m : Int) := by omega
  have hi2 : ¬ (m : Int) < (n : Int) := by omega
  go_enter Try.func38, Try.ntmps38
  go_wp2_with (go_at_call 102; refine (none_not HR.out hr).mono ?_; rintro e _ ⟨rfl, rfl⟩)
  have HC := Lib.hid (qcopied_any (some ⟨t.g, t.off, none⟩) t.cap (t.bs.take n) w HSRC.out (by rw [HTL.out]; omega) (by rw [HTL.out]; omega))
  rw [HTL.out] at HC
  refine (HC.out).mono ?_
  rintro e w2 ⟨g2, rfl, hg2, hby, hb2⟩
  rw [HTL.out]
  have HG2 := Lib.hid hg2
  have HBY := Lib.hid (show QBytes w2 g2 (t.bs.take n) from hby)
  have HB2 := Lib.hid hb2
  obtain ⟨_, hB3, sv2, hrow2, hown2, hl2⟩ := HQ.out.later hb2
  have esv : sv2 = .slice (some ⟨g, 0, none⟩) N cap := by
    have := HR.out.later hb2
    unfold Row at this hrow2
    rw [hrow2] at this
    injection this with this
    injection this with this _
    injection this with this
    injection this with _ this
    injection this with _ this
    injection this with this _
  subst esv
  rw [HNN.out] at hown2
  have k2 := hrow2.read (i := 2) rfl
  have hcell2 := hown2.cells (g := g) rfl
  have e1 := hcell2 1 _ (txc_at (ts := t :: r) (i := 0) rfl).2.1
  have e2 := hcell2 2 _ (txc_at (ts := t :: r) (i := 0) rfl).2.2
  unfold Txt.waits at e1
  rw [HM.out] at e1
  have f1 := hown2.free (g := g) rfl 1
  have f2 := hown2.free (g := g) rfl 2
  have HTK := fun off' (ho : n < t.bs.length → off' = t.off + n) => took_rep (g := g) (cap := cap) (t := t) (r := r) (n := n) (off' := off') hB hB3 (by rw [HNN.out]; exact hrow2) (by rw [HNN.out]; exact hown2) hl2 (by rw [HM.out]; exact hn2) ho
  rw [HM.out] at HTK
  have HTK := Lib.hid HTK
  have HQ2 := Lib.hid (QOnly.of_below (B := B) hb2)
  clear hg2 hby hb2 hrow2 hown2 hl2 hcell2 hB3
  have hn1' : (1 : Int) ≤ (n : Int) := by omega
  rcases Nat.lt_or_ge n m with hlt | hge
  · have hce : ¬ t.cap = n := by omega
    obtain ⟨t', ht1, ht2, ht3, ht4, ht5, ht6⟩ := HTK.out (t.off + n) (fun _ => rfl)
    have HT4 := Lib.hid ht4
    have HT5 := Lib.hid ht5
    have HT1 := Lib.hid (And.intro ht1 (And.intro ht2 ht3))
    have hpos : (0 : Int) < ((m - n : Nat) : Int) := by omega
    have hposn : 0 < m - n := by omega
    have heq : (n == t.bs.length) = false := by rw [HM.out]; simp; omega
    have HEQ := Lib.hid heq
    have hne : ¬ n = t.bs.length := by rw [HM.out]; omega
    have HNE := Lib.hid hne
    clear ht1 ht2 ht3 ht4 ht5 ht6 heq hne
    go_wp2
    go_ret3
    refine TakeDoneG.intro HEQ.out HG2.out (HBY.out.q HT5.out) (HQ2.out.trans HT5.out) t' HT1.out.1 HT1.out.2.1 HT1.out.2.2 ?_
    rw [if_neg HNE.out]
    exact HT4.out
  · obtain rfl : m = n := by omega
    have hrm : 0 < (Txt.mk 0 0 0 0 [] false :: r).length := by simp
    by_cases hce : t.cap = m
    · obtain ⟨t', ht1, ht2, ht3, ht4, ht5, ht6⟩ := HTK.out t.off (fun h => by omega)
      rw [Nat.sub_self, hce, Nat.sub_self] at ht4 ht5
      have HT4 := Lib.hid ht4
      have HT5 := Lib.hid ht5
      have HT1 := Lib.hid (And.intro ht1 (And.intro ht2 ht3))
      have heq : (m == t.bs.length) = true := by rw [HM.out]; simp
      have HEQ := Lib.hid heq
      clear ht1 ht2 ht3 ht4 ht5 ht6 heq
      go_wp2_with fail
      refine (remove_any (k := 0) HT4.out (by simp) (by simp; omega)).mono ?_
      rintro e w3 ⟨rfl, hq3, ho3⟩
      have HQ3 := Lib.hid hq3
      have HO3 := Lib.hid ho3
      clear hq3 ho3
      go_wp2
      go_ret3
      refine TakeDoneG.intro HEQ.out HG2.out ((HBY.out.q HT5.out).q HO3.out) ((HQ2.out.trans HT5.out).trans HO3.out) t' HT1.out.1 HT1.out.2.1 HT1.out.2.2 ?_
      rw [if_pos HM.out.symm]
      exact HQ3.out
    · obtain ⟨t', ht1, ht2, ht3, ht4, ht5, ht6⟩ := HTK.out (t.off + m) (fun h => by omega)
      rw [Nat.sub_self] at ht4 ht5
      have HT4 := Lib.hid ht4
      have HT5 := Lib.hid ht5
      have HT1 := Lib.hid (And.intro ht1 (And.intro ht2 ht3))
      have heq : (m == t.bs.length) = true := by rw [HM.out]; simp
      have HEQ := Lib.hid heq
      clear ht1 ht2 ht3 ht4 ht5 ht6 heq
      go_wp2_with fail
      refine (remove_any (k := 0) HT4.out (by simp) (by simp; omega)).mono ?_
      rintro e w3 ⟨rfl, hq3, ho3⟩
      have HQ3 := Lib.hid hq3
      have HO3 := Lib.hid ho3
      clear hq3 ho3
      go_wp2
      go_ret3
      refine TakeDoneG.intro HEQ.out HG2.out ((HBY.out.q HT5.out).q HO3.out) ((HQ2.out.trans HT5.out).trans HO3.out) t' HT1.out.1 HT1.out.2.1 HT1.out.2.2 ?_
      rw [if_pos HM.out.symm]
      exact HQ3.out
theorem take_ok {t : Txt} {r : List Txt} (n : Nat) (h : QRep B w p room last (t :: r)) (hr : 0 < room) (hn1 : 1 ≤ n) (hn2 : n ≤ t.bs.length) (hlen : t.bs.length ≤ 100000) (hrl : r.length ≤ 900) :
    Calls Try.prog 38 #[.pointer (some ⟨p, 0, none⟩), .int .i64 n] w (TakeDone B p last room t r n w) := by
  refine (take_okg n h hr hn1 hn2 hlen hrl).mono ?_
  rintro e w' ⟨g, h1, h2, h3, h4, t', k1, k2, k3, k4⟩
  exact ⟨g, h1, h2, h3, h4, t', k1, k2, k3.1, k4⟩
end
end Go.Proofs.Ytjobgnemklpiaaa
namespace Go.Proofs.Ytjobgnemklpiaaa
open Go.RowKit

section
variable {B p last : Nat} {room : Int} {ts : List Txt} {w : World}
set_option maxHeartbeats 400000 in
theorem qbytes_nil (w : World) : Calls Try.prog 47 #[.pointer none] w fun e w' => e = .returned (.int .i64 0) ∧ w = w' := by
  go_enter Try.func47, Try.ntmps47
  go_wp2_with (go_at_call 102; refine (none_nil _).mono ?_; rintro e _ ⟨rfl, rfl⟩)
  go_ret
  exact ⟨rfl, rfl⟩
set_option maxHeartbeats 400000 in
theorem ids_nil (w : World) : Calls Try.prog 49 #[.pointer none] w fun e w' => e = .returned (.slice none 0 0) ∧ w = w' := by
  go_enter Try.func49, Try.ntmps49
  go_wp2_with (go_at_call 102; refine (none_nil _).mono ?_; rintro e _ ⟨rfl, rfl⟩)
  go_ret
  exact ⟨rfl, rfl⟩
set_option maxHeartbeats 400000 in
theorem clear_nil (w : World) : Calls Try.prog 43 #[.pointer none] w fun e w' => e = .returned (.slice none 0 0) ∧ w = w' := by
  go_enter Try.func43, Try.ntmps43
  go_wp2_with (go_at_call 102; refine (none_nil _).mono ?_; rintro e _ ⟨rfl, rfl⟩)
  go_ret
  exact ⟨rfl, rfl⟩
set_option maxHeartbeats 400000 in
theorem clear_zero {a b : Value} (h : Row w p 77 #[.int .i64 0, a, b]) : Calls Try.prog 43 #[.pointer (some ⟨p, 0, none⟩)] w fun e w' => e = .returned (.slice none 0 0) ∧ w = w' := by
  have HR := Lib.hid h
  clear h
  go_enter Try.func43, Try.ntmps43
  go_wp2_with (go_at_call 102; refine (none_zero HR.out).mono ?_; rintro e _ ⟨rfl, rfl⟩)
  go_ret
  exact ⟨rfl, rfl⟩
set_option maxHeartbeats 400000 in
theorem discard_nil (id : Int) (w : World) : Calls Try.prog 40 #[.pointer none, .int .u64 id] w fun e w' => e = .returned (.int .i64 6) ∧ w = w' := by
  go_enter Try.func40, Try.ntmps40
  go_wp2_with (go_at_call 102; refine (none_nil _).mono ?_; rintro e _ ⟨rfl, rfl⟩)
  go_ret
  exact ⟨rfl, rfl⟩
set_option maxHeartbeats 400000 in
theorem discard_zero {a b : Value} (id : Int) (h : Row w p 77 #[.int .i64 0, a, b]) : Calls Try.prog 40 #[.pointer (some ⟨p, 0, none⟩), .int .u64 id] w fun e w' => e = .returned (.int .i64 6) ∧ w = w' := by
  have HR := Lib.hid h
  clear h
  go_enter Try.func40, Try.ntmps40
  go_wp2_with (go_at_call 102; refine (none_zero HR.out).mono ?_; rintro e _ ⟨rfl, rfl⟩)
  go_ret
  exact ⟨rfl, rfl⟩
set_option maxHeartbeats 400000 in
theorem front_nil (w : World) : Calls Try.prog 45 #[.pointer none] w fun e w' => e = .returned (.tuple #[.int .u64 0, .slice none 0 0, .bool false]) ∧ w = w' := by
  go_enter Try.func45, Try.ntmps45
  go_wp2_with (go_at_call 102; refine (none_nil _).mono ?_; rintro e _ ⟨rfl, rfl⟩)
  go_ret3
  exact ⟨rfl, rfl⟩
set_option maxHeartbeats 400000 in
theorem front_none (h : QRep B w p room last []) (hr : 0 < room) : Calls Try.prog 45 #[.pointer (some ⟨p, 0, none⟩)] w fun e w' => e = .returned (.tuple #[.int .u64 0, .slice none 0 0, .bool false]) ∧ w = w' := by
  obtain ⟨_, _, sv, hrow, hown, _⟩ := h
  obtain ⟨A1, cap, rfl, hcap, hmx⟩ := hown.shape
  have c2 := hrow.read (i := 2) rfl
  have HR := Lib.hid hrow
  clear hrow hown
  simp only [List.length_nil] at c2 hcap
  go_enter Try.func45, Try.ntmps45
  go_wp2_with (go_at_call 102; refine (none_not HR.out hr).mono ?_; rintro e _ ⟨rfl, rfl⟩)
  go_ret3
  exact ⟨rfl, rfl⟩

/-- the first text handed out -/
def FrontDone (t : Txt) (w : World) (e : Ending) (w' : World) : Prop :=
  ∃ g, e = .returned (.tuple #[.int .u64 t.id, .slice (some ⟨g, 0, none⟩) t.bs.length t.bs.length, .bool t.bg]) ∧ w.heap.size ≤ g ∧ QBytes w' g t.bs ∧ Below w.heap.size w w'

set_option maxRecDepth 100000 in
set_option maxHeartbeats 1600000 in
theorem front_ok {t : Txt} {r : List Txt} (h : QRep B w p room last (t :: r)) (hr : 0 < room) (h0 : 0 < t.bs.length) (hlen : t.bs.length ≤ 100000) :
    Calls Try.prog 45 #[.pointer (some ⟨p, 0, none⟩)] w (FrontDone t w) := by
  obtain ⟨hB, hB2, sv, hrow, hown, hl⟩ := h
  obtain ⟨g, cap, rfl, hcap, hmx⟩ := hown.form (by simp)
  have c2 := hrow.read (i := 2) rfl
  have HR := Lib.hid hrow
  have hcell := hown.cells (g := g) rfl
  have d0 := hcell 0 _ (txc_at (ts := t :: r) (i := 0) rfl).1
  have d1 := hcell 1 _ (txc_at (ts := t :: r) (i := 0) rfl).2.1
  have d2 := hcell 2 _ (txc_at (ts := t :: r) (i := 0) rfl).2.2
  unfold Txt.waits at d1
  obtain ⟨l1, l2, l3, _⟩ := id (hl t (List.mem_cons_self ..))
  have hsrc := (hl t (List.mem_cons_self ..)).src
  have hrr : (t :: r).length = r.length + 1 := rfl
  generalize (t :: r).length = N at *
  have hN : 0 < N := by omega
  have hN0 : ((N : Int) == 0) = false := by simp; omega
  unfold maxLen at hmx
  have HSRC := Lib.hid (hsrc.later (bl_alloc (Below.refl _ _) (.cells #[.int .u64 t.id, .slice (some ⟨t.g, t.off, none⟩) t.bs.length t.cap, .bool t.bg] 167)))
  have hbox := Row.made w 167 #[.int .u64 t.id, .slice (some ⟨t.g, t.off, none⟩) t.bs.length t.cap, .bool t.bg]
  have b0 := hbox.read (i := 0) (x := .int .u64 t.id) rfl
  have b1 := hbox.read (i := 1) (x := .slice (some ⟨t.g, t.off, none⟩) t.bs.length t.cap) rfl
  have b2 := hbox.read (i := 2) (x := .bool t.bg) rfl
  have HC := Lib.hid (fun W (hW : W = (w.alloc (.cells #[.int .u64 t.id, .slice (some ⟨t.g, t.off, none⟩) t.bs.length t.cap, .bool t.bg] 167)).drew) => qcopied_any (some ⟨t.g, t.off, none⟩) t.cap t.bs W (by rw [hW]; exact HSRC.out) h0 (by omega))
  clear hrow hown hcell hrr hl hsrc hbox
  go_enter Try.func45, Try.ntmps45
  go_wp2_with (go_at_call 102; refine (none_not HR.out hr).mono ?_; rintro e _ ⟨rfl, rfl⟩)
  go_region_held3 (fun w' => w'.cell? ⟨w.heap.size, 0, none⟩ = some (.int .u64 t.id) ∧ w'.cell? ⟨w.heap.size, 1, none⟩ = some (.slice (some ⟨t.g, t.off, none⟩) t.bs.length t.cap) ∧ w'.cell? ⟨w.heap.size, 2, none⟩ = some (.bool t.bg)) (first | go_keep | (exact ⟨kept_box (by assumption) (by assumption), kept_box (by assumption) (by assumption), kept_box (by assumption) (by assumption)⟩)) (first
    | (go_at_call 103; refine (HC.out _ rfl).mono ?_; rintro e w2 ⟨g2, rfl, hg2, hby, hb2⟩))
  have HF : Hid (FrontDone t w (.returned (.tuple #[.int .u64 t.id, .slice (some ⟨g2, 0, none⟩) t.bs.length t.bs.length, .bool t.bg])) w2) :=
    Lib.hid ⟨g2, rfl, by have : (w.alloc (.cells #[.int .u64 t.id, .slice (some ⟨t.g, t.off, none⟩) t.bs.length t.cap, .bool t.bg] 167)).heap.size ≤ g2 := hg2; simp at this; omega, hby, bl_step (bl_alloc (Below.refl _ _) _) (bl_step (bl_drew (Below.refl _ _)) hb2)⟩
  clear hg2 hby hb2
  go_wp2
  go_ret3
  exact HF.out

/-- what a Discard answers, and what is left -/
def discE (id : Nat) (ts : List Txt) : Int := match ts[placeF id ts]? with
  | none => 4
  | some t => if t.bg then 7 else 0
def discF (id : Nat) (ts : List Txt) : List Txt := match ts[placeF id ts]? with
  | none => ts
  | some t => if t.bg then ts else ts.eraseIdx (placeF id ts)

set_option maxRecDepth 100000 in
set_option maxHeartbeats 1600000 in
theorem discard_any (nid : Nat) (h : QRep B w p room last ts) (hr : 0 < room) (hn : ts.length ≤ 900) :
    Calls Try.prog 40 #[.pointer (some ⟨p, 0, none⟩), .int .u64 nid] w fun e w' => e = .returned (.int .i64 (discE nid ts)) ∧ QRep B w' p room last (discF nid ts) ∧ QOnly B w w' := by
  obtain ⟨hB, hB2, sv, hrow, hown, hl⟩ := id h
  have HQ := Lib.hid h
  have HR := Lib.hid hrow
  have HP := Lib.hid (place_any (id := nid) h)
  have hple := placeF_le nid ts
  have c2 := hrow.read (i := 2) rfl
  rcases Nat.lt_or_ge (placeF nid ts) ts.length with hlt | hge
  · obtain ⟨t, ht⟩ : ∃ t, ts[placeF nid ts]? = some t := ⟨_, List.getElem?_eq_getElem hlt⟩
    have HE := Lib.hid (show discE nid ts = if t.bg then 7 else 0 by unfold discE; rw [ht])
    have HF := Lib.hid (show discF nid ts = if t.bg then ts else ts.eraseIdx (placeF nid ts) by unfold discF; rw [ht])
    obtain ⟨g, cap, rfl, hcap, hmx⟩ := hown.form (by omega)
    unfold maxLen at hmx
    have d2 := hown.cells (g := g) rfl _ _ (txc_at ht).2.2
    have HREM := Lib.hid (remove_any (k := placeF nid ts) h hlt (by omega))
    rw [HE.out, HF.out]
    generalize placeF nid ts = P at *
    have hi0 : (0 : Int) ≤ (P : Int) := by omega
    have hi1 : (P : Int) < (ts.length : Int) := by omega
    have hne : ((P : Int) == (ts.length : Int)) = false := by simp; omega
    clear h hrow hown hl ht HE HF
    cases hbg : t.bg
    · rw [hbg] at d2
      clear hbg
      go_enter Try.func40, Try.ntmps40
      go_wp2_with (first
        | (go_at_call 102; refine (none_not HR.out hr).mono ?_; rintro e _ ⟨rfl, rfl⟩)
        | (go_at_call 106; refine (HP.out).mono ?_; rintro e _ ⟨rfl, rfl⟩)
        | (go_at_call 104; refine (HREM.out).mono ?_; rintro e w2 ⟨rfl, hq, ho⟩; have HQ2 := Lib.hid hq; have HO2 := Lib.hid ho; clear hq ho))
      go_ret
      exact ⟨rfl, HQ2.out, HO2.out⟩
    · rw [hbg] at d2
      clear hbg
      go_enter Try.func40, Try.ntmps40
      go_wp2_with (first
        | (go_at_call 102; refine (none_not HR.out hr).mono ?_; rintro e _ ⟨rfl, rfl⟩)
        | (go_at_call 106; refine (HP.out).mono ?_; rintro e _ ⟨rfl, rfl⟩))
      go_ret
      exact ⟨rfl, HQ.out, QOnly.refl _ _⟩
  · have hno : ts[placeF nid ts]? = none := List.getElem?_eq_none hge
    have HE := Lib.hid (show discE nid ts = 4 by unfold discE; rw [hno])
    have HF := Lib.hid (show discF nid ts = ts by unfold discF; rw [hno])
    obtain ⟨A1, cap, rfl, hcap, hmx⟩ := hown.shape
    unfold maxLen at hmx
    rw [HE.out, HF.out]
    generalize placeF nid ts = P at *
    have heq : ((P : Int) == (ts.length : Int)) = true := by simp; omega
    clear h hrow hown hl hno HE HF
    go_enter Try.func40, Try.ntmps40
    go_wp2_with (first
      | (go_at_call 102; refine (none_not HR.out hr).mono ?_; rintro e _ ⟨rfl, rfl⟩)
      | (go_at_call 106; refine (HP.out).mono ?_; rintro e _ ⟨rfl, rfl⟩))
    go_ret
    exact ⟨rfl, HQ.out, QOnly.refl _ _⟩
end
end Go.Proofs.Ytjobgnemklpiaaa
namespace Go.Proofs.Ytjobgnemklpiaaa
open Go.RowKit

theorem src_qsrc {W : World} {A : Option Addr} {l : List Nat} (h : Src W A (bts l)) : QSrcB W A (qbts l) := by
  intro h0
  obtain ⟨ad, rfl, hc⟩ := h h0
  obtain ⟨b, off, spot⟩ := ad
  have hspot : spot = none := by
    have h1 := hc 0 _ (List.getElem?_eq_getElem h0)
    simpa [Addr.add] using World.cell?_spot h1
  subst hspot
  refine ⟨b, off, rfl, fun j u hu => ?_⟩
  have h2 := hc j u hu
  have e : (⟨b, off, none⟩ : Addr).add j = ⟨b, off + j, none⟩ := by
    unfold Addr.add
    split
    · rename_i h; rw [h]; rfl
    · rfl
  rwa [e] at h2
theorem qsrc_src {W : World} {A : Option Addr} {l : List Nat} (h : QSrcB W A (qbts l)) : Src W A (bts l) := by
  intro h0
  obtain ⟨b, off, rfl, hc⟩ := h h0
  refine ⟨_, rfl, fun j u hu => ?_⟩
  have e : (⟨b, off, none⟩ : Addr).add j = ⟨b, off + j, none⟩ := by
    unfold Addr.add
    split
    · rename_i h; rw [h]; rfl
    · rfl
  rw [e]
  exact hc j u hu
/-- whatever is pushed: refused, or the last text -/
def PushAny (B p last : Nat) (room : Int) (ts : List Txt) (l : List Nat) (w : World) (e : Ending) (w' : World) : Prop :=
  ∃ (nid : Nat) (er : Int), e = .returned (.tuple #[.int .u64 nid, .int .i64 er]) ∧ QOnly B w w' ∧
    ((er = 0 ∧ nid = last + 1 ∧ 0 < l.length ∧ l.length ≤ 1000 ∧ ts.length < 64 ∧ (bytesF ts : Int) + l.length ≤ room ∧ ∃ t : Txt, t.id = last + 1 ∧ t.bs = l ∧ t.bg = false ∧ QRep B w' p room (last + 1) (ts ++ [t])) ∨
     (er ≠ 0 ∧ nid = 0 ∧ QRep B w' p room last ts ∧ (er = if l.length = 0 then 1 else if 1000 < l.length then 2 else 5) ∧ (0 < l.length → l.length ≤ 1000 → ts.length = 64 ∨ room < (bytesF ts : Int) + l.length)))
theorem push_all {B p last : Nat} {room : Int} {ts : List Txt} {w : World} (A : Option Addr) (l : List Nat) (c : Nat) (h : QRep B w p room last ts) (hr : 0 < room) (hr2 : room ≤ 20000) (hb : (bytesF ts : Int) ≤ room) (hts : ts.length ≤ 64) (hll : l.length ≤ 9223372036854775807) (hlast : last ≤ 1000000000)
    (hsrc : ∀ W, QOnly B w W → QSrcB W A (qbts l)) :
    Calls Try.prog 36 #[.pointer (some ⟨p, 0, none⟩), .slice A l.length c] w (PushAny B p last room ts l w) := by
  rcases Nat.eq_zero_or_pos l.length with h0 | h0
  · rw [h0]
    refine (push_arg A c h hr).mono ?_
    rintro e w' ⟨rfl, rfl⟩
    exact ⟨0, 1, rfl, QOnly.refl _ _, .inr ⟨by omega, rfl, h, by rw [if_pos h0], fun _ _ => by omega⟩⟩
  · rcases Nat.lt_or_ge 1000 l.length with h1 | h1
    · refine (push_long A l.length c h hr h1 hll).mono ?_
      rintro e w' ⟨rfl, rfl⟩
      exact ⟨0, 2, rfl, QOnly.refl _ _, .inr ⟨by omega, rfl, h, by rw [if_neg (by omega), if_pos h1], fun _ _ => by omega⟩⟩
    · by_cases hf : ts.length = 64 ∨ room < (bytesF ts : Int) + l.length
      · refine (push_full A l.length c h hr hr2 hb h0 h1 hts hf).mono ?_
        rintro e w' ⟨rfl, hbl⟩
        exact ⟨0, 5, rfl, QOnly.of_below hbl, .inr ⟨by omega, rfl, h.later hbl, by rw [if_neg (by omega), if_neg (by omega)], fun _ _ => hf⟩⟩
      · refine (push_ok A l c h hr hr2 h0 h1 (by omega) (by omega) hlast hsrc).mono ?_
        rintro e w' ⟨rfl, ⟨t, h2, h3, h4, h5⟩, h6⟩
        exact ⟨last + 1, 0, by simp, h6, .inl ⟨rfl, rfl, h0, h1, by omega, by omega, t, h2, h3, h4, h5⟩⟩
/-- the same; the text lies in new memory -/
def PushAnyG (B p last : Nat) (room : Int) (ts : List Txt) (l : List Nat) (w : World) (e : Ending) (w' : World) : Prop :=
  ∃ (nid : Nat) (er : Int), e = .returned (.tuple #[.int .u64 nid, .int .i64 er]) ∧ QOnly B w w' ∧
    ((er = 0 ∧ nid = last + 1 ∧ 0 < l.length ∧ l.length ≤ 1000 ∧ ts.length < 64 ∧ (bytesF ts : Int) + l.length ≤ room ∧ ∃ t : Txt, t.id = last + 1 ∧ t.bs = l ∧ t.bg = false ∧ w.heap.size ≤ t.g ∧ QRep B w' p room (last + 1) (ts ++ [t])) ∨
     (er ≠ 0 ∧ nid = 0 ∧ QRep B w' p room last ts ∧ (er = if l.length = 0 then 1 else if 1000 < l.length then 2 else 5) ∧ (0 < l.length → l.length ≤ 1000 → ts.length = 64 ∨ room < (bytesF ts : Int) + l.length)))
theorem push_allg {B p last : Nat} {room : Int} {ts : List Txt} {w : World} (A : Option Addr) (l : List Nat) (c : Nat) (h : QRep B w p room last ts) (hr : 0 < room) (hr2 : room ≤ 20000) (hb : (bytesF ts : Int) ≤ room) (hts : ts.length ≤ 64) (hll : l.length ≤ 9223372036854775807) (hlast : last ≤ 1000000000)
    (hsrc : ∀ W, QOnly B w W → QSrcB W A (qbts l)) :
    Calls Try.prog 36 #[.pointer (some ⟨p, 0, none⟩), .slice A l.length c] w (PushAnyG B p last room ts l w) := by
  rcases Nat.eq_zero_or_pos l.length with h0 | h0
  · rw [h0]
    refine (push_arg A c h hr).mono ?_
    rintro e w' ⟨rfl, rfl⟩
    exact ⟨0, 1, rfl, QOnly.refl _ _, .inr ⟨by omega, rfl, h, by rw [if_pos h0], fun _ _ => by omega⟩⟩
  · rcases Nat.lt_or_ge 1000 l.length with h1 | h1
    · refine (push_long A l.length c h hr h1 hll).mono ?_
      rintro e w' ⟨rfl, rfl⟩
      exact ⟨0, 2, rfl, QOnly.refl _ _, .inr ⟨by omega, rfl, h, by rw [if_neg (by omega), if_pos h1], fun _ _ => by omega⟩⟩
    · by_cases hf : ts.length = 64 ∨ room < (bytesF ts : Int) + l.length
      · refine (push_full A l.length c h hr hr2 hb h0 h1 hts hf).mono ?_
        rintro e w' ⟨rfl, hbl⟩
        exact ⟨0, 5, rfl, QOnly.of_below hbl, .inr ⟨by omega, rfl, h.later hbl, by rw [if_neg (by omega), if_neg (by omega)], fun _ _ => hf⟩⟩
      · refine (push_okg A l c h hr hr2 h0 h1 (by omega) (by omega) hlast hsrc).mono ?_
        rintro e w' ⟨rfl, ⟨t, h2, h3, h4, h45, h5⟩, h6⟩
        exact ⟨last + 1, 0, by simp, h6, .inl ⟨rfl, rfl, h0, h1, by omega, by omega, t, h2, h3, h4, h45, h5⟩⟩
/-- bytes from below a queue's memory -/
theorem src_q {B : Nat} {w0 w W : World} {A : Option Addr} {xs : List Value} (h0 : QSrcB w0 A xs) (hbw : Below w0.heap.size w0 w) (hB : w0.heap.size ≤ B) (hBw : B ≤ w.heap.size) (hq : QOnly B w W) : QSrcB W A xs :=
  h0.later (hbw.trans ((hq.below hBw).mono hB))
end Go.Proofs.Ytjobgnemklpiaaa
namespace Go.Proofs.Ytjobgnemklpiaaa
open Go.RowKit

theorem qrow_same {w : World} {k : Nat} {t u : TypeId} {cs ds : Array Value} (h : Row w k t cs) (h' : Row w k u ds) : t = u := by
  unfold Row at h h'
  rw [h] at h'
  injection h' with h'
  injection h' with _ h'

theorem OwnX.q {w w' : World} {B B' e size : Nat} {v : Value} {n : Nat} {xs : List Value} (h : OwnX w B' e size v n xs) (h1 : e ≠ 77) (h2 : e ≠ 167) (ho : QOnly B w w') : OwnX w' B' e size v n xs :=
  h.only ho fun k hk ⟨_, t, cs, hr, ht⟩ => by
    refine h.apart hr (fun e => ?_) hk
    subst e
    rcases ht with ht | ht
    · exact h1 ht
    · exact h2 ht

/-- blocks of one type that a queue has not -/
theorem QRep.apart {B : Nat} {w v : World} {p : Nat} {room : Int} {last : Nat} {ts : List Txt} {S : Nat → Prop} (h : QRep B w p room last ts) (ho : Only S w v) (hS : ∀ k, S k → ∀ t cs, Row w k t cs → t ≠ 77 ∧ t ≠ 167 ∧ t ≠ 5) : QRep B v p room last ts := by
  obtain ⟨h1, h2, sv, h3, h4, h5⟩ := h
  refine ⟨h1, by have := ho.size; omega, sv, h3.only ho (fun hk => (hS _ hk _ _ h3).1 rfl), h4.only ho (fun k hk hk' => ?_), fun t ht => ?_⟩
  · rcases h4.2 with ⟨rfl, _⟩ | ⟨g, cap, cur, rfl, _, hh, _⟩
    · simp [Value.ownBlock] at hk
    · have e : g = k := by simpa [Value.ownBlock] using hk
      subst e
      exact (hS _ hk' _ _ hh).2.1 rfl
  · obtain ⟨g1, g2, g3, cs, g4, g5⟩ := h5 t ht
    exact ⟨g1, g2, g3, cs, g4.only ho (fun hk => (hS _ hk _ _ g4).2.2 rfl), g5⟩
/-- blocks that are none of a queue's -/
theorem QRep.beside {B : Nat} {w v : World} {p : Nat} {room : Int} {last : Nat} {ts : List Txt} {S : Nat → Prop} (h : QRep B w p room last ts) (ho : Only S w v) (hS : ∀ k, S k → ∀ t cs, Row w k t cs → t = 5 ∧ ∀ x ∈ ts, x.g ≠ k) : QRep B v p room last ts := by
  obtain ⟨h1, h2, sv, h3, h4, h5⟩ := h
  refine ⟨h1, by have := ho.size; omega, sv, h3.only ho (fun hk => absurd (hS _ hk _ _ h3).1 (by decide)), h4.only ho (fun k hk hk' => ?_), fun t ht => ?_⟩
  · rcases h4.2 with ⟨rfl, _⟩ | ⟨g, cap, cur, rfl, _, hh, _⟩
    · simp [Value.ownBlock] at hk
    · have e : g = k := by simpa [Value.ownBlock] using hk
      subst e
      exact absurd (hS _ hk' _ _ hh).1 (by decide)
  · obtain ⟨g1, g2, g3, cs, g4, g5⟩ := h5 t ht
    exact ⟨g1, g2, g3, cs, g4.only ho (fun hk => (hS _ hk _ _ g4).2 t ht rfl), g5⟩
end Go.Proofs.Ytjobgnemklpiaaa
