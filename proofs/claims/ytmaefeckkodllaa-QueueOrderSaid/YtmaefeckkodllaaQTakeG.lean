/-
  Bytes taken of a queue's first text, told once more with where the rest lies: in the block where the text lay.
-/
import Derived.Test.YtmaefeckkodllaaQOwn
namespace Go.Proofs.Ytmaefeckkodllaa
open Go.RowKit
section
variable {B p last : Nat} {room : Int} {ts : List Txt} {w : World}
def TakeDoneG (B p last : Nat) (room : Int) (t : Txt) (r : List Txt) (n : Nat) (w : World) (e : Ending) (w' : World) : Prop :=
  ∃ g, e = .returned (.tuple #[.slice (some ⟨g, 0, none⟩) n n, .bool (n == t.bs.length), .int .i64 0]) ∧ w.heap.size ≤ g ∧ Bytes w' g (t.bs.take n) ∧ QOnly B w w' ∧
    ∃ t' : Txt, t'.id = t.id ∧ t'.bs = t.bs.drop n ∧ t'.bg = true ∧ t'.g = t.g ∧ QRep B w' p room last (if n = t.bs.length then r else t' :: r)
theorem TakeDoneG.intro {t : Txt} {r : List Txt} {n g : Nat} {v : Bool} {w' : World} (hv : (n == t.bs.length) = v) (h1 : w.heap.size ≤ g) (h2 : Bytes w' g (t.bs.take n)) (h3 : QOnly B w w') (t' : Txt) (h4 : t'.id = t.id) (h5 : t'.bs = t.bs.drop n) (h6 : t'.bg = true) (h8 : t'.g = t.g)
    (h7 : QRep B w' p room last (if n = t.bs.length then r else t' :: r)) : TakeDoneG B p last room t r n w (.returned (.tuple #[.slice (some ⟨g, 0, none⟩) n n, .bool v, .int .i64 0])) w' :=
  ⟨g, by rw [hv], h1, h2, h3, t', h4, h5, h6, h8, h7⟩

set_option maxRecDepth 100000 in
set_option maxHeartbeats 3200000 in
theorem take_okG {t : Txt} {r : List Txt} (n : Nat) (h : QRep B w p room last (t :: r)) (hr : 0 < room) (hn1 : 1 ≤ n) (hn2 : n ≤ t.bs.length) (hlen : t.bs.length ≤ 100000) (hrl : r.length ≤ 900) :
    Calls Try.prog 32 #[.pointer (some ⟨p, 0, none⟩), .int .i64 n] w (TakeDoneG B p last room t r n w) := by
  obtain ⟨hB, hB2, sv, hrow, hown, hl⟩ := id h
  obtain ⟨g, cap, rfl, hcap, hmx⟩ := hown.form (by simp)
  have c2 := hrow.read (i := 2) rfl
  have HR := Lib.hid hrow
  have hcell := hown.cells (g := g) rfl
  have d1 := hcell 1 _ (txc_at (ts := t :: r) (i := 0) rfl).2.1
  unfold Txt.waits at d1
  obtain ⟨l1, l2, l3, hsr⟩ := id (hl t (List.mem_cons_self ..))
  have HSRC := Lib.hid (src_take (hl t (List.mem_cons_self ..)).src n)
  have HTL := Lib.hid (show (t.bs.take n).length = n by simp; omega)
  have HQ := Lib.hid h
  have HOWN := Lib.hid hown
  have hrr : (t :: r).length = r.length + 1 := rfl
  have HLN := Lib.hid hrr
  generalize hNN : (t :: r).length = N at *
  have HNN := Lib.hid hNN
  have hN : 0 < N := by omega
  have hN0 : ((N : Int) == 0) = false := by simp; omega
  unfold maxLen at hmx
  clear hrow hown hcell hrr hl h hNN hsr
  obtain ⟨m, hm⟩ : ∃ m, t.bs.length = m := ⟨_, rfl⟩
  rw [hm] at hn2 hlen l2 d1
  have HM := Lib.hid hm
  clear hm
  have hi1 : (n : Int) ≤ (m : Int) := by omega
  have hi2 : ¬ (m : Int) < (n : Int) := by omega
  go_enter Try.func32, Try.ntmps32
  go_wp2_with (go_at_call 58; refine (none_not HR.out hr).mono ?_; rintro e _ ⟨rfl, rfl⟩)
  have HC := Lib.hid (copied_any (some ⟨t.g, t.off, none⟩) t.cap (t.bs.take n) w HSRC.out (by rw [HTL.out]; omega) (by rw [HTL.out]; omega))
  rw [HTL.out] at HC
  refine (HC.out).mono ?_
  rintro e w2 ⟨g2, rfl, hg2, hby, hb2⟩
  rw [HTL.out]
  have HG2 := Lib.hid hg2
  have HBY := Lib.hid (show Bytes w2 g2 (t.bs.take n) from hby)
  have HB2 := Lib.hid hb2
  obtain ⟨_, hB3, sv2, hrow2, hown2, hl2⟩ := HQ.out.later hb2
  have esv : sv2 = .slice (some ⟨g, 0, none⟩) N cap := by
    have := HR.out.later hb2
    unfold Row at this hrow2
    rw [hrow2] at this
    injection this with this
    injection this with this _
    injection this with this
    injection this with _ this
    injection this with _ this
    injection this with this _
  subst esv
  rw [HNN.out] at hown2
  have k2 := hrow2.read (i := 2) rfl
  have hcell2 := hown2.cells (g := g) rfl
  have e1 := hcell2 1 _ (txc_at (ts := t :: r) (i := 0) rfl).2.1
  have e2 := hcell2 2 _ (txc_at (ts := t :: r) (i := 0) rfl).2.2
  unfold Txt.waits at e1
  rw [HM.out] at e1
  have f1 := hown2.free (g := g) rfl 1
  have f2 := hown2.free (g := g) rfl 2
  have HTK := fun off' (ho : n < t.bs.length → off' = t.off + n) => took_rep (g := g) (cap := cap) (t := t) (r := r) (n := n) (off' := off') hB hB3 (by rw [HNN.out]; exact hrow2) (by rw [HNN.out]; exact hown2) hl2 (by rw [HM.out]; exact hn2) ho
  rw [HM.out] at HTK
  have HTK := Lib.hid HTK
  have HQ2 := Lib.hid (QOnly.of_below (B := B) hb2)
  clear hg2 hby hb2 hrow2 hown2 hl2 hcell2 hB3
  have hn1' : (1 : Int) ≤ (n : Int) := by omega
  rcases Nat.lt_or_ge n m with hlt | hge
  · have hce : ¬ t.cap = n := by omega
    obtain ⟨t', ht1, ht2, ht3, ht4, ht5, ht6⟩ := HTK.out (t.off + n) (fun _ => rfl)
    have HT4 := Lib.hid ht4
    have HT5 := Lib.hid ht5
    have htg : t'.g = t.g := by have h9 := ht6; unfold Txt.waits at h9; injection h9 with h9 _ _; injection h9 with h9; injection h9
    have HT1 := Lib.hid (And.intro ht1 (And.intro ht2 (And.intro ht3 htg)))
    have hpos : (0 : Int) < ((m - n : Nat) : Int) := by omega
    have hposn : 0 < m - n := by omega
    have heq : (n == t.bs.length) = false := by rw [HM.out]; simp; omega
    have HEQ := Lib.hid heq
    have hne : ¬ n = t.bs.length := by rw [HM.out]; omega
    have HNE := Lib.hid hne
    clear htg ht1 ht2 ht3 ht4 ht5 ht6 heq hne
    go_wp2
    go_ret3
    refine TakeDoneG.intro HEQ.out HG2.out (HBY.out.q HT5.out) (HQ2.out.trans HT5.out) t' HT1.out.1 HT1.out.2.1 HT1.out.2.2.1 HT1.out.2.2.2 ?_
    rw [if_neg HNE.out]
    exact HT4.out
  · obtain rfl : m = n := by omega
    have hrm : 0 < (Txt.mk 0 0 0 0 [] false :: r).length := by simp
    by_cases hce : t.cap = m
    · obtain ⟨t', ht1, ht2, ht3, ht4, ht5, ht6⟩ := HTK.out t.off (fun h => by omega)
      rw [Nat.sub_self, hce, Nat.sub_self] at ht4 ht5
      have HT4 := Lib.hid ht4
      have HT5 := Lib.hid ht5
      have htg : t'.g = t.g := by have h9 := ht6; unfold Txt.waits at h9; injection h9 with h9 _ _; injection h9 with h9; injection h9
      have HT1 := Lib.hid (And.intro ht1 (And.intro ht2 (And.intro ht3 htg)))
      have heq : (m == t.bs.length) = true := by rw [HM.out]; simp
      have HEQ := Lib.hid heq
      clear htg ht1 ht2 ht3 ht4 ht5 ht6 heq
      go_wp2_with fail
      refine (remove_any (k := 0) HT4.out (by simp) (by simp; omega)).mono ?_
      rintro e w3 ⟨rfl, hq3, ho3⟩
      have HQ3 := Lib.hid hq3
      have HO3 := Lib.hid ho3
      clear hq3 ho3
      go_wp2
      go_ret3
      refine TakeDoneG.intro HEQ.out HG2.out ((HBY.out.q HT5.out).q HO3.out) ((HQ2.out.trans HT5.out).trans HO3.out) t' HT1.out.1 HT1.out.2.1 HT1.out.2.2.1 HT1.out.2.2.2 ?_
      rw [if_pos HM.out.symm]
      exact HQ3.out
    · obtain ⟨t', ht1, ht2, ht3, ht4, ht5, ht6⟩ := HTK.out (t.off + m) (fun h => by omega)
      rw [Nat.sub_self] at ht4 ht5
      have HT4 := Lib.hid ht4
      have HT5 := Lib.hid ht5
      have htg : t'.g = t.g := by have h9 := ht6; unfold Txt.waits at h9; injection h9 with h9 _ _; injection h9 with h9; injection h9
      have HT1 := Lib.hid (And.intro ht1 (And.intro ht2 (And.intro ht3 htg)))
      have heq : (m == t.bs.length) = true := by rw [HM.out]; simp
      have HEQ := Lib.hid heq
      clear htg ht1 ht2 ht3 ht4 ht5 ht6 heq
      go_wp2_with fail
      refine (remove_any (k := 0) HT4.out (by simp) (by simp; omega)).mono ?_
      rintro e w3 ⟨rfl, hq3, ho3⟩
      have HQ3 := Lib.hid hq3
      have HO3 := Lib.hid ho3
      clear hq3 ho3
      go_wp2
      go_ret3
      refine TakeDoneG.intro HEQ.out HG2.out ((HBY.out.q HT5.out).q HO3.out) ((HQ2.out.trans HT5.out).trans HO3.out) t' HT1.out.1 HT1.out.2.1 HT1.out.2.2.1 HT1.out.2.2.2 ?_
      rw [if_pos HM.out.symm]
      exact HQ3.out
end
end Go.Proofs.Ytmaefeckkodllaa
