/-
  rxwin: the window and the document's one together. rxwin: both windows are as at first. RxwinLives: the walk. A law's row follows from its walk: the call returns true, and below the heap's old size the world is as it was; then every argument reads as it did.
-/
import Derived.Test.YtgdpjaojlhdhdaaJRxwinLives06
import Derived.Deep.DeepCutAuto
import Derived.Deep.CutBlock
import Derived.Test.YtgdpjaojlhdhdaaRows
import Derived.WalkKit
import Derived.ProofKit
import Derived.OpenShut
namespace Go.Proofs.Ytgdpjaojlhdhdaa
open Go.RowKit Go.Maps

/-- which are whole, from the first number on, of those that are counted on -/
def lz (D : List Bool) (R H : Nat) : List Bool := (gro D H).drop R
theorem list_eq {l k : List Bool} (h1 : l.length = k.length) (h2 : ∀ j, l.getD j false = k.getD j false) : l = k := by
  refine List.ext_getElem h1 fun i a b => ?_
  have := h2 i
  rw [getD_at a, getD_at b] at this
  exact this
theorem lz_len {D : List Bool} {R H : Nat} (h : D.length ≤ H) : (lz D R H).length = H - R := by unfold lz; rw [List.length_drop, gro_length]; omega
theorem lz_getD {D : List Bool} {R H j : Nat} : (lz D R H).getD j false = D.getD (R + j) false := by unfold lz; rw [drop_getD, gro_getD]
theorem opn_uniq {l : List Bool} {i o : Nat} (h1 : i ≤ o) (h2 : l.getD o false = false) (h3 : ∀ j, i ≤ j → j < o → l.getD j false = true) : opn l i = o := by
  have a := opn_ge (l := l) (c := i)
  have b := opn_at (l := l) i
  rcases Nat.lt_trichotomy (opn l i) o with h | h | h
  · rw [h3 _ a h] at b; cases b
  · exact h
  · rw [opn_in i o h1 h] at h2; cases h2
theorem opn_shift {l D : List Bool} {R i : Nat} (h : ∀ j, l.getD j false = D.getD (R + j) false) : opn D (R + i) = R + opn l i := by
  refine opn_uniq (by have := opn_ge (l := l) (c := i); omega) (by rw [← h]; exact opn_at i) fun j h1 h2 => ?_
  have := opn_in (l := l) i (j - R) (by omega) (by omega)
  rw [h, show R + (j - R) = j by omega] at this
  exact this
theorem miss_congr {N f : Int} {l k : List Bool} {c : Nat} (h : ∀ j, l.getD j false = k.getD j false) : miss N f l c = miss N f k c := by
  induction c with
  | zero => rfl
  | succ c ih => rw [miss_succ, miss_succ, ih, h]
theorem mark_count {D : List Bool} {k : Nat} (h : D.getD k false = false) : (mark D k).count true = D.count true + 1 := by
  unfold mark
  rw [count_put (get_false (by rw [gro_getD]; exact h) (by rw [gro_length]; omega)), gro_count]
theorem pre_count {D : List Bool} {R : Nat} (h : ∀ j, j < R → D.getD j false = true) : R ≤ D.count true := by
  have hl : R ≤ D.length := by
    rcases Nat.eq_zero_or_pos R with h0 | h0
    · omega
    · have := getD_lt (h (R - 1) (by omega)); omega
  have ht : D.take R = List.replicate R true := by
    refine list_eq (by simp; omega) fun j => ?_
    by_cases hj : j < R
    · have e1 : (D.take R).getD j false = D.getD j false := by
        rw [List.getD_eq_getElem?_getD, List.getD_eq_getElem?_getD, List.getElem?_take, if_pos hj]
      rw [e1, h j hj, List.getD_eq_getElem?_getD, List.getElem?_replicate, if_pos hj]; rfl
    · rw [getD_out (by simp; omega), getD_out (by simp; omega)]
  have := (List.take_sublist R D).count_le true
  rw [ht, List.count_replicate] at this
  simpa using this
structure XB (w : World) (x m y B : Nat) (b size : Int) (cnt R M H : Nat) (D : List Bool) : Prop where
  c : RX w x m b size ((R : Int) % sz b) (M - R) (lz D R H)
  r : RY w y B b size R M H D
  hx : B ≤ x ∧ B ≤ m
  hy : B ≤ y
  hB : B ≤ w.heap.size
  pre : ∀ j, j < R → D.getD j false = true
  cnt : D.count true ≤ cnt
def XMY (x m y k : Nat) : Prop := k = x ∨ k = m ∨ k = y
section
variable {w v u : World} {x m y B : Nat} {b size n : Int} {cnt R M H : Nat} {D : List Bool}
theorem row_same {g : Nat} {t t' : TypeId} {cs cs' : Array Value} (h : Row w g t cs) (h' : Row w g t' cs') : t = t' := by
  unfold Row at h h'
  rw [h] at h'
  have e := Option.some.inj h'
  cases e
  rfl
theorem RX.by_y {f : Int} {c : Nat} {l : List Bool} (hw : RX w x m b size f c l) (hr : RY w y B b size R M H D) (h : Only (fun k => k = y) w v) : RX v x m b size f c l := by
  obtain ⟨A, q, hr1, _⟩ := hr.row
  exact hw.only h (fun e => by subst e; exact absurd (row_same hw.mem.row hr1) (by decide)) (fun e => by subst e; exact hw.mem.set.row_ne hr1 rfl)
theorem RY.by_x {f : Int} {c : Nat} {l : List Bool} (hr : RY w y B b size R M H D) (hw : RX w x m b size f c l) (h : Only (XM x m) w v) : RY v y B b size R M H D := by
  obtain ⟨A, q, hr1, _⟩ := hr.row
  refine hr.only h ?_ fun g cs hc => ?_
  · rintro (rfl | rfl)
    · exact absurd (row_same hw.mem.row hr1) (by decide)
    · exact hw.mem.set.row_ne hr1 rfl
  · rintro (rfl | rfl)
    · exact absurd (row_same hw.mem.row hc) (by decide)
    · exact hw.mem.set.row_ne hc rfl
theorem only_x (h : Only (XM x m) w v) : Only (XMY x m y) w v := h.weaker (fun _ _ hk => hk.elim .inl (fun e => .inr (.inl e)))
theorem only_y (h : Only (fun k => k = y) w v) : Only (XMY x m y) w v := h.weaker (fun _ _ hk => .inr (.inr hk))
theorem XB.later (h : XB w x m y B b size cnt R M H D) (hb : Below w.heap.size w v) : XB v x m y B b size cnt R M H D :=
  { h with c := h.c.later hb, r := h.r.later hb, hB := Nat.le_trans h.hB hb.size }
theorem XB.more (h : XB w x m y B b size cnt R M H D) : XB w x m y B b size (cnt + 1) R M H D := { h with cnt := Nat.le_succ_of_le h.cnt }
theorem both_came (h : XB w x m y B b size cnt R M H D) (n : Int) : ∃ q : Int, Calls Try.prog 51 #[.pointer (some ⟨x, 0, none⟩), .int .i64 n] w fun e w1 => e = .returned (.int .i64 q) ∧ Only (XMY x m y) w w1 ∧
    Calls Try.prog 60 #[.pointer (some ⟨y, 0, none⟩), .int .i64 n] w1 fun e w3 => e = .returned (.int .i64 q) ∧ Only (XMY x m y) w1 w3 ∧ ∃ H', XB w3 x m y B b size cnt R M H' D := by
  by_cases hq : fltx b size ((R : Int) % sz b) n = 0
  · obtain ⟨hn, hi⟩ := flt_zero hq
    refine ⟨0, (xcame_ok h.c hn hi).mono ?_⟩
    rintro e w1 ⟨rfl, hw, ho⟩
    have hr := h.r.by_x h.c ho
    refine ⟨rfl, only_x ho, (ycame_ok hr hn hi).mono ?_⟩
    rintro e w3 ⟨rfl, hr3, ho3⟩
    refine ⟨rfl, only_y ho3, _, ⟨?_, hr3, h.hx, h.hy, Nat.le_trans h.hB (Nat.le_trans ho.size ho3.size), h.pre, h.cnt⟩⟩
    have hw3 := hw.by_y hr ho3
    have h1 := h.r.h1
    have h2 := h.r.h2
    have h4 := h.r.h4
    generalize ix (sz b) ((R : Int) % sz b) n = i at *
    have e : gro (lz D R H) (i + 1) = lz D R (max H (R + i + 1)) := list_eq (by rw [gro_length, lz_len h4, lz_len (by omega)]; omega) fun j => by rw [gro_getD, lz_getD, lz_getD]
    rw [e] at hw3
    exact hw3
  · refine ⟨fltx b size ((R : Int) % sz b) n, (xcame_bad h.c hq).mono ?_⟩
    rintro e w1 ⟨rfl, hb⟩
    refine ⟨rfl, Only.of_below hb, (ycame_bad (h.r.later hb) hq).mono ?_⟩
    rintro e w3 ⟨rfl, hd⟩
    exact ⟨rfl, Only.of_below hd.below, H, (h.later hb).later hd.below⟩
theorem both_late (h : XB w x m y B b size cnt R M H D) (n : Int) : ∃ q : Int, Calls Try.prog 53 #[.pointer (some ⟨x, 0, none⟩), .int .i64 n] w fun e w1 => e = .returned (.int .i64 q) ∧ Only (XMY x m y) w w1 ∧
    Calls Try.prog 63 #[.pointer (some ⟨y, 0, none⟩), .int .i64 n] w1 fun e w3 => e = .returned (.int .i64 q) ∧ Only (XMY x m y) w1 w3 ∧ ∃ M', XB w3 x m y B b size cnt R M' H D := by
  cases hn : okn b n
  · refine ⟨1, (xlate_no h.c hn).mono ?_⟩
    rintro e w1 ⟨rfl, hb⟩
    refine ⟨rfl, Only.of_below hb, (ylate_no (h.r.later hb) hn).mono ?_⟩
    rintro e w3 ⟨rfl, rfl⟩
    exact ⟨rfl, Only.refl _ _, M, h.later hb⟩
  · have h1 := h.r.h1
    have h2 := h.r.h2
    have h4 := h.r.h4
    have hl := lz_len (R := R) h4
    by_cases hf : H < R + ix (sz b) ((R : Int) % sz b) n
    · refine ⟨11, (xlate_far h.c hn (by rw [hl]; omega)).mono ?_⟩
      rintro e w1 ⟨rfl, hb⟩
      refine ⟨rfl, Only.of_below hb, (ylate_far (h.r.later hb) hn hf).mono ?_⟩
      rintro e w3 ⟨rfl, hd⟩
      exact ⟨rfl, Only.of_below hd.below, M, (h.later hb).later hd.below⟩
    · refine ⟨0, (xlate_ok h.c hn (by rw [hl]; omega)).mono ?_⟩
      rintro e w1 ⟨rfl, hw, ho⟩
      have hr := h.r.by_x h.c ho
      refine ⟨rfl, only_x ho, (ylate_ok hr hn (by omega)).mono ?_⟩
      rintro e w3 ⟨rfl, hr3, ho3⟩
      refine ⟨rfl, only_y ho3, _, ⟨?_, hr3, h.hx, h.hy, Nat.le_trans h.hB (Nat.le_trans ho.size ho3.size), h.pre, h.cnt⟩⟩
      have hw3 := hw.by_y hr ho3
      generalize ix (sz b) ((R : Int) % sz b) n = i at *
      have hs := opn_shift (i := i) (fun j => lz_getD (D := D) (R := R) (H := H) (j := j))
      by_cases hg : M ≤ R + i
      · rw [if_pos hg, hs]
        rw [if_pos (by omega)] at hw3
        rw [show R + opn (lz D R H) i - R = opn (lz D R H) i by omega]
        exact hw3
      · rw [if_neg hg]
        rw [if_neg (by omega)] at hw3
        exact hw3
theorem both_whole (h : XB w x m y B b size cnt R M H D) (hc : cnt ≤ 900) (n : Int) : ∃ (q : Int) (k : Nat) (xs : List Int), xs.length = k ∧ k ≤ 100000 ∧ Calls Try.prog 52 #[.pointer (some ⟨x, 0, none⟩), .int .i64 n] w fun e w1 => ∃ A1, e = .returned (.tuple #[.slice A1 k k, .int .i64 q]) ∧ SlAt w.heap.size 3 w1 A1 (ints xs) ∧ Only (XMY x m y) w w1 ∧
    Calls Try.prog 61 #[.pointer (some ⟨y, 0, none⟩), .int .i64 n] w1 fun e w3 => ∃ A2 c2, e = .returned (.tuple #[.slice A2 k c2, .int .i64 q]) ∧ SlAt w1.heap.size 3 w3 A2 (ints xs) ∧ Only (XMY x m y) w1 w3 ∧ ∃ R' M' H' D', XB w3 x m y B b size (cnt + 1) R' M' H' D' := by
  by_cases hq : fltx b size ((R : Int) % sz b) n = 0
  · obtain ⟨hn, hi⟩ := flt_zero hq
    have h1 := h.r.h1
    have h2 := h.r.h2
    have h4 := h.r.h4
    have hlz := fun j => lz_getD (D := D) (R := R) (H := H) (j := j)
    cases ha : D.getD (R + ix (sz b) ((R : Int) % sz b) n) false
    · have ha2 : ak (sz b) ((R : Int) % sz b) (lz D R H) n = false := by unfold ak; rw [hlz]; exact ha
      have hmk : ∀ j, (mark (lz D R H) (ix (sz b) ((R : Int) % sz b) n)).getD j false = (mark D (R + ix (sz b) ((R : Int) % sz b) n)).getD (R + j) false := fun j => by
        rw [mark_getD, mark_getD, hlz]
        by_cases e : j = ix (sz b) ((R : Int) % sz b) n
        · rw [if_pos e, if_pos (by omega)]
        · rw [if_neg e, if_neg (by omega)]
      have hsl := h.c.slid (ix (sz b) ((R : Int) % sz b) n)
      have hxw := xwhole_ok h.c hn hi ha2
      have hmc := mark_count ha
      have hs0 := opn_shift (i := 0) hmk
      have hsM := opn_shift (i := M - R) hmk
      rw [Nat.add_zero] at hs0
      rw [show R + (M - R) = M by omega] at hsM
      have hpre : ∀ j, j < opn (mark D (R + ix (sz b) ((R : Int) % sz b) n)) R → (mark D (R + ix (sz b) ((R : Int) % sz b) n)).getD j false = true := fun j hj => by
        by_cases e : j < R
        · rw [mark_getD, h.pre j e]; simp
        · exact opn_in R j (by omega) hj
      have hR1 : opn (mark D (R + ix (sz b) ((R : Int) % sz b) n)) R ≤ 1000 := by
        have := pre_count hpre
        have := h.cnt
        omega
      have hml := mark_length (l := lz D R H) (i := ix (sz b) ((R : Int) % sz b) n)
      have hmD := mark_length (l := D) (i := R + ix (sz b) ((R : Int) % sz b) n)
      rw [lz_len h4] at hml
      refine ⟨0, opn (mark (lz D R H) (ix (sz b) ((R : Int) % sz b) n)) 0, past (sz b) ((R : Int) % sz b) (opn (mark (lz D R H) (ix (sz b) ((R : Int) % sz b) n)) 0), past_length, by omega, hxw.mono ?_⟩
      rintro e w1 ⟨A1, rfl, hA1, hw, ho⟩
      have hr := h.r.by_x h.c ho
      refine ⟨A1, rfl, hA1, only_x ho, (ywhole_ok hr hn hi ha hR1 (Nat.le_trans h.hB ho.size)).mono ?_⟩
      rintro e w3 ⟨A2, c2, rfl, hA2, hr3, ho3⟩
      have hw3 := hw.by_y hr ho3
      rw [show opn (mark D (R + ix (sz b) ((R : Int) % sz b) n)) R - R = opn (mark (lz D R H) (ix (sz b) ((R : Int) % sz b) n)) 0 by omega] at hA2 ⊢
      refine ⟨A2, c2, rfl, hA2, only_y ho3, _, _, _, _, ⟨?_, hr3, h.hx, h.hy, Nat.le_trans h.hB (Nat.le_trans ho.size ho3.size), hpre, by have := h.cnt; omega⟩⟩
      rw [mod_add, ← hs0] at hw3
      have e1 : opn (mark (lz D R H) (ix (sz b) ((R : Int) % sz b) n)) (M - R) - opn (mark (lz D R H) (ix (sz b) ((R : Int) % sz b) n)) 0 = max (opn (mark D (R + ix (sz b) ((R : Int) % sz b) n)) M) (opn (mark D (R + ix (sz b) ((R : Int) % sz b) n)) R) - opn (mark D (R + ix (sz b) ((R : Int) % sz b) n)) R := by omega
      have e2 : (mark (lz D R H) (ix (sz b) ((R : Int) % sz b) n)).drop (opn (mark (lz D R H) (ix (sz b) ((R : Int) % sz b) n)) 0) = lz (mark D (R + ix (sz b) ((R : Int) % sz b) n)) (opn (mark D (R + ix (sz b) ((R : Int) % sz b) n)) R) (max H (R + ix (sz b) ((R : Int) % sz b) n + 1)) := by
        refine list_eq ?_ fun j => ?_
        · rw [List.length_drop, lz_len (by omega), hml]; omega
        · rw [drop_getD, hmk, lz_getD, hs0, Nat.add_assoc]
      rw [e1, e2] at hw3
      exact hw3
    · have ha2 : ak (sz b) ((R : Int) % sz b) (lz D R H) n = true := by unfold ak; rw [hlz]; exact ha
      refine ⟨12, 0, [], rfl, by omega, (xwhole_twice h.c hn hi ha2).mono ?_⟩
      rintro e w1 ⟨rfl, hb⟩
      refine ⟨none, rfl, slat_nil w1, Only.of_below hb, (ywhole_twice (h.r.later hb) hn hi ha).mono ?_⟩
      rintro e w3 ⟨rfl, hb3⟩
      exact ⟨none, 0, rfl, slat_nil w3, Only.of_below hb3, R, M, H, D, ((h.later hb).later hb3).more⟩
  · refine ⟨fltx b size ((R : Int) % sz b) n, 0, [], rfl, by omega, (xwhole_bad h.c hq).mono ?_⟩
    rintro e w1 ⟨rfl, hb⟩
    refine ⟨none, rfl, slat_nil w1, Only.of_below hb, (ywhole_bad (h.r.later hb) hq).mono ?_⟩
    rintro e w3 ⟨rfl, hd⟩
    exact ⟨none, 0, rfl, slat_nil w3, Only.of_below hd.below, R, M, H, D, ((h.later hb).later hd.below).more⟩
theorem both_state (h : XB w x m y B b size cnt R M H D) : ∃ p q r : Int, (∀ v, Below w.heap.size w v → Calls Try.prog 54 #[.pointer (some ⟨x, 0, none⟩)] v fun e w1 => e = .returned (.agg #[.int .i64 p, .int .i64 q, .int .i64 r]) ∧ Below v.heap.size v w1) ∧
    ∀ v, Below w.heap.size w v → Calls Try.prog 65 #[.pointer (some ⟨y, 0, none⟩)] v fun e w1 => e = .returned (.agg #[.int .i64 p, .int .i64 q, .int .i64 r]) ∧ Below v.heap.size v w1 := by
  refine ⟨_, _, _, fun v hb => xstate_any (h.c.later hb).mem.row, fun v hb => ?_⟩
  have h1 := ystate_any (h.r.later hb)
  rw [mod_add, lz_len h.r.h4, mod_add, show R + (M - R) = M by have := h.r.h1; omega, show R + (H - R) = H by have := h.r.h1; have := h.r.h2; omega]
  exact h1
theorem both_missing (h : XB w x m y B b size cnt R M H D) : ∃ xs : List Int, xs.length ≤ 100000 ∧ (∀ v, Below w.heap.size w v → Calls Try.prog 57 #[.pointer (some ⟨x, 0, none⟩)] v fun e w1 => ∃ A, e = .returned (.slice A xs.length xs.length) ∧ SlAt v.heap.size 3 w1 A (ints xs) ∧ Below v.heap.size v w1) ∧
    ∀ v, Below w.heap.size w v → Calls Try.prog 66 #[.pointer (some ⟨y, 0, none⟩)] v fun e w1 => ∃ A c, e = .returned (.slice A xs.length c) ∧ SlAt v.heap.size 3 w1 A (ints xs) ∧ Below v.heap.size v w1 := by
  have e : miss (sz b) ((R : Int) % sz b) (lz D R H) (M - R) = miss (sz b) ((R : Int) % sz b) (D.drop R) (M - R) := miss_congr fun j => by rw [lz_getD, drop_getD]
  have hle := miss_le (N := sz b) (f := (R : Int) % sz b) (l := lz D R H) (k := M - R)
  have h2 := h.r.h2
  have h3 := h.r.h3
  have h5 := h.r.hs2
  have h6 := h.r.pos
  refine ⟨miss (sz b) ((R : Int) % sz b) (lz D R H) (M - R), by omega, fun v hb => xmissing_any (h.c.later hb), fun v hb => ?_⟩
  rw [e]
  exact ymissing_any (h.r.later hb)
theorem both_is (h : XB w x m y B b size cnt R M H D) (hn : (Lit.int .i64 n).wf = true) : ∃ p : Bool, (∀ v, Below w.heap.size w v → Calls Try.prog 56 #[.pointer (some ⟨x, 0, none⟩), .int .i64 n] v fun e w1 => e = .returned (.bool p) ∧ Below v.heap.size v w1) ∧
    ∀ v, Below w.heap.size w v → Calls Try.prog 69 #[.pointer (some ⟨y, 0, none⟩), .int .i64 n] v fun e w1 => e = .returned (.bool p) ∧ Below v.heap.size v w1 := by
  refine ⟨_, fun v hb => xis_any (h.c.later hb).mem hn, fun v hb => (yis_any (h.r.later hb) n).mono ?_⟩
  rintro e w1 ⟨rfl, hd⟩
  refine ⟨?_, hd.below⟩
  unfold ak
  rw [lz_getD]
  cases ho : okn b n
  · rw [inx_no ho]
  · rw [inx_ix ho]
    by_cases hi : (ix (sz b) ((R : Int) % sz b) n : Int) < size
    · rw [decide_eq_true hi]
    · rw [decide_eq_false hi, getD_out (by have := h.r.h3; have := h.r.h4; omega)]; rfl
theorem both_in (h : XB w x m y B b size cnt R M H D) (n : Int) : ∃ p : Bool, (∀ v, Below w.heap.size w v → Calls Try.prog 58 #[.pointer (some ⟨x, 0, none⟩), .int .i64 n] v fun e w1 => e = .returned (.bool p) ∧ Below v.heap.size v w1) ∧
    ∀ v, Below w.heap.size w v → Calls Try.prog 67 #[.pointer (some ⟨y, 0, none⟩), .int .i64 n] v fun e w1 => e = .returned (.bool p) ∧ Below v.heap.size v w1 := by
  refine ⟨_, fun v hb => xin_any (h.c.later hb).mem n, fun v hb => (yin_any (h.r.later hb) n).mono ?_⟩
  rintro e w1 ⟨rfl, hd⟩
  exact ⟨rfl, hd.below⟩
theorem both_far (h : XB w x m y B b size cnt R M H D) (n : Int) : ∃ p : Int, (∀ v, Below w.heap.size w v → Calls Try.prog 55 #[.pointer (some ⟨x, 0, none⟩), .int .i64 n] v fun e w1 => e = .returned (.int .i64 p) ∧ Below v.heap.size v w1) ∧
    ∀ v, Below w.heap.size w v → Calls Try.prog 68 #[.pointer (some ⟨y, 0, none⟩), .int .i64 n] v fun e w1 => e = .returned (.int .i64 p) ∧ Below v.heap.size v w1 := by
  refine ⟨_, fun v hb => xfar_any (h.c.later hb).mem n, fun v hb => (yfar_any (h.r.later hb) n).mono ?_⟩
  rintro e w1 ⟨rfl, hd⟩
  exact ⟨rfl, hd.below⟩
end
end Go.Proofs.Ytgdpjaojlhdhdaa
namespace Go.Proofs.Ytgdpjaojlhdhdaa
open Go.RowKit Go.Maps

section
variable {w v u : World} {x m y B : Nat} {b size n : Int} {cnt R M H : Nat} {D : List Bool}
theorem both_reset (h : XB w x m y B b size cnt R M H D) : Calls Try.prog 64 #[.pointer (some ⟨x, 0, none⟩)] w fun e w1 => e = .returned (.tuple #[]) ∧ Only (XMY x m y) w w1 ∧ RX w1 x m b size 0 0 [] ∧ ∃ u : Value, Row w1 y 97 (YC b size R M H u) := by
  refine (xreset_any h.c).mono ?_
  rintro e w1 ⟨rfl, hw, ho⟩
  obtain ⟨A, c, hr, _⟩ := (h.r.by_x h.c ho).row
  exact ⟨rfl, only_x ho, hw, _, hr⟩
/-- the document's row, as at first -/
def Y0 (w : World) (y : Nat) : World := (((w.setCell ⟨y, 2, none⟩ (.int .i64 0)).setCell ⟨y, 3, none⟩ (.int .i64 0)).setCell ⟨y, 4, none⟩ (.int .i64 0)).setCell ⟨y, 5, none⟩ (.slice none 0 0)
theorem both_anew {u : Value} (hw : RX w x m b size 0 0 []) (hr : Row w y 97 (YC b size R M H u)) (hx : B ≤ x ∧ B ≤ m) (hy : B ≤ y) (hB : B ≤ w.heap.size) : XB (Y0 w y) x m y B b size cnt 0 0 0 [] ∧ Only (XMY x m y) w (Y0 w y) := by
  have hset : Only (fun k => k = y) w (Y0 w y) := (((((Only.refl (fun k => k = y) w).set (p := ⟨y, 2, none⟩) (.inl rfl) _).set (p := ⟨y, 3, none⟩) (.inl rfl) _).set (p := ⟨y, 4, none⟩) (.inl rfl) _).set (p := ⟨y, 5, none⟩) (.inl rfl) _)
  have hrow : Row (Y0 w y) y 97 (YC b size 0 0 0 (.slice none 0 0)) := (((hr.written 2 _).written 3 _).written 4 _).written 5 _
  refine ⟨⟨?_, ⟨⟨none, 0, hrow, World.ownsRow_nil _ _ _ _⟩, hw.mem.rt, hw.mem.hs, hw.mem.hs2, Nat.le_refl _, Nat.le_refl _, by have := hw.mem.hs; omega, Nat.le_refl _, by omega⟩, hx, hy, Nat.le_trans hB hset.size, fun j hj => by omega, by simp⟩, only_y hset⟩
  have e : lz [] 0 0 = [] := rfl
  rw [e, show ((0 : Nat) : Int) % sz b = 0 by simp]
  exact hw.only hset (fun e => by subst e; exact absurd (row_same hw.mem.row hr) (by decide)) (fun e => by subst e; exact hw.mem.set.row_ne hr rfl)
theorem both_new (hw : RX w x m b size 0 0 []) (hx : B ≤ x ∧ B ≤ m) (hB : B ≤ w.heap.size) : XB (w.alloc (.cells #[.int .i64 b, .int .i64 size, .int .i64 0, .int .i64 0, .int .i64 0, .slice none 0 0] 97)) x m w.heap.size B b size 0 0 0 0 [] := by
  have hb := bl_alloc (Below.refl w.heap.size w) (.cells #[.int .i64 b, .int .i64 size, .int .i64 0, .int .i64 0, .int .i64 0, .slice none 0 0] 97)
  refine ⟨?_, ⟨⟨none, 0, Row.made w _ _, World.ownsRow_nil _ _ _ _⟩, hw.mem.rt, hw.mem.hs, hw.mem.hs2, Nat.le_refl _, Nat.le_refl _, by have := hw.mem.hs; omega, Nat.le_refl _, by omega⟩, hx, hB, Nat.le_trans hB hb.size, fun j hj => by omega, by simp⟩
  have e : lz [] 0 0 = [] := rfl
  rw [e, show ((0 : Nat) : Int) % sz b = 0 by simp]
  exact hw.later hb
end
end Go.Proofs.Ytgdpjaojlhdhdaa
namespace Go.Proofs.Ytgdpjaojlhdhdaa
open Go.RowKit Go.Maps

section
variable {w v : World} {x m y B : Nat} {b size : Int} {cnt R M H : Nat} {D : List Bool}
theorem XB.row_other (h : XB w x m y B b size cnt R M H D) {g : Nat} {t : TypeId} {cs : Array Value} (hr : Row w g t cs) (h1 : t ≠ 103) (h2 : t ≠ 97) (ho : Only (XMY x m y) w v) : Row v g t cs := by
  obtain ⟨A, c, hy, _⟩ := h.r.row
  refine hr.only ho ?_
  rintro (e | e | e)
  · subst e; exact h1 (row_same hr h.c.mem.row)
  · subst e; exact h.c.mem.set.row_ne hr rfl
  · subst e; exact h2 (row_same hr hy)
theorem XB.below (h : XB w x m y B b size cnt R M H D) (ho : Only (XMY x m y) w v) : Below B w v :=
  ho.below h.hB (fun k hk hs => by have h1 := h.hx; have h2 := h.hy; rcases hs with e | e | e <;> omega)
theorem XB.inside (h : XB w x m y B b size cnt R M H D) : x < w.heap.size ∧ m < w.heap.size ∧ y < w.heap.size := by
  obtain ⟨A, c, hy, _⟩ := h.r.row
  exact ⟨h.c.mem.row.inside, h.c.mem.set.inside, hy.inside⟩
theorem XMY_above {n g : Nat} (h : x < n ∧ m < n ∧ y < n) (hg : n ≤ g) : ¬ XMY x m y g := by
  rintro (e | e | e) <;> omega
theorem op_cells2 {g : Nat} {kd nn : Int} (h : Row w g 83 #[.int .i64 kd, .int .i64 nn]) : w.cell? ⟨g, 0, none⟩ = some (.int .i64 kd) ∧ w.cell? ⟨g, 1, none⟩ = some (.int .i64 nn) := ⟨h.read rfl, h.read rfl⟩
set_option maxRecDepth 100000 in
set_option maxHeartbeats 1600000 in
theorem xlives_bad (A0 : Option Addr) (n0 c0 : Nat) (bits size ask : Int) (W : World) (h : size < 1 ∨ sz bits / 2 < size) : Calls Try.prog 9 #[.int .i64 bits, .int .i64 size, .slice A0 n0 c0, .int .i64 ask] W fun e w' => e = .returned (.bool true) ∧ Below W.heap.size W w' := by
  have HN := Lib.hid (xnew_bad bits size W h)
  have HA := Lib.hid xalive_any
  have HS := Lib.hid (fun W => q2size_any bits W)
  have hz := sz_bd bits
  generalize sz bits = N at *
  obtain ⟨hz1, hz2⟩ := hz
  by_cases h1 : size < 1
  · clear h
    by_cases h0 : N = 0
    · have h0b : (N == 0) = true := by simpa using h0
      clear h0
      go_enter Try.func9, Try.ntmps9
      go_wp2_with (first
        | (go_at_call 49; (with_reducible refine HN.out.mono ?_); rintro e w1 ⟨rfl, hb⟩; (have HB1 := Lib.hid hb; clear hb))
        | (go_at_call 59; (with_reducible refine (HS.out _).mono ?_); rintro e w2 ⟨rfl, rfl⟩)
        | (go_at_call 50; (with_reducible refine (HA.out _).mono ?_); rintro e w3 ⟨rfl, hb⟩; (have HB2 := Lib.hid (bl_step HB1.out hb); clear hb)))
      go_ret
      exact ⟨rfl, HB2.out⟩
    · have h0b : (N == 0) = false := by simpa using h0
      clear h0
      go_enter Try.func9, Try.ntmps9
      go_wp2_with (first
        | (go_at_call 49; (with_reducible refine HN.out.mono ?_); rintro e w1 ⟨rfl, hb⟩; (have HB1 := Lib.hid hb; clear hb))
        | (go_at_call 59; (with_reducible refine (HS.out _).mono ?_); rintro e w2 ⟨rfl, rfl⟩)
        | (go_at_call 50; (with_reducible refine (HA.out _).mono ?_); rintro e w3 ⟨rfl, hb⟩; (have HB2 := Lib.hid (bl_step HB1.out hb); clear hb)))
      go_ret
      exact ⟨rfl, HB2.out⟩
  · have h2 : N / 2 < size := by omega
    clear h
    by_cases h0 : N = 0
    · have h0b : (N == 0) = true := by simpa using h0
      clear h0
      go_enter Try.func9, Try.ntmps9
      go_wp2_with (first
        | (go_at_call 49; (with_reducible refine HN.out.mono ?_); rintro e w1 ⟨rfl, hb⟩; (have HB1 := Lib.hid hb; clear hb))
        | (go_at_call 59; (with_reducible refine (HS.out _).mono ?_); rintro e w2 ⟨rfl, rfl⟩)
        | (go_at_call 50; (with_reducible refine (HA.out _).mono ?_); rintro e w3 ⟨rfl, hb⟩; (have HB2 := Lib.hid (bl_step HB1.out hb); clear hb)))
      go_ret
      exact ⟨rfl, HB2.out⟩
    · have h0b : (N == 0) = false := by simpa using h0
      clear h0
      go_enter Try.func9, Try.ntmps9
      go_wp2_with (first
        | (go_at_call 49; (with_reducible refine HN.out.mono ?_); rintro e w1 ⟨rfl, hb⟩; (have HB1 := Lib.hid hb; clear hb))
        | (go_at_call 59; (with_reducible refine (HS.out _).mono ?_); rintro e w2 ⟨rfl, rfl⟩)
        | (go_at_call 50; (with_reducible refine (HA.out _).mono ?_); rintro e w3 ⟨rfl, hb⟩; (have HB2 := Lib.hid (bl_step HB1.out hb); clear hb)))
      go_ret
      exact ⟨rfl, HB2.out⟩
set_option maxRecDepth 100000 in
set_option maxHeartbeats 25600000 in
theorem xlives_ok (A0 : Option Addr) (n0 c0 : Nat) (bits size ask : Int) (l0 : List (Int × Int)) (W : World) (hl0 : l0.length = n0) (hm0 : n0 ≤ 9223372036854775807) (hs0 : OpSrc W A0 l0) (ht : rt bits = true) (h1 : 1 ≤ size) (h2 : size ≤ sz bits / 2) (hask : (Lit.int .i64 ask).wf = true) :
    Calls Try.prog 9 #[.int .i64 bits, .int .i64 size, .slice A0 n0 c0, .int .i64 ask] W fun e w' => e = .returned (.bool true) ∧ Below W.heap.size W w' := by
  have HN := Lib.hid (xnew_ok bits size W ht h1 h2)
  have HA := Lib.hid xalive_any
  have HS := Lib.hid (fun W => q2size_any bits W)
  have HS0 := Lib.hid hs0
  have HL0 := Lib.hid hl0
  have hz := rt_pos ht
  have heq := eq_arr3
  have HASK := Lib.hid hask
  generalize hN0 : sz bits = N at HS hz h2
  obtain ⟨hz1, hz2⟩ := hz
  have h0b : (N == 0) = false := by simp; omega
  clear hs0 hl0 ht hask hN0
  go_enter Try.func9, Try.ntmps9
  go_wp2_with (first
    | (go_at_call 49; (with_reducible refine HN.out.mono ?_); rintro e w1 ⟨x, m, rfl, hw, hb, hx, hm⟩; (have HB1 := Lib.hid hb; have HBO := Lib.hid (both_new hw (And.intro hx hm) hb.size); have HBY := Lib.hid (bl_alloc hb (.cells #[.int .i64 bits, .int .i64 size, .int .i64 0, .int .i64 0, .int .i64 0, .slice none 0 0] 97)); clear hw hb hx hm))
    | (go_at_call 59; (with_reducible refine (HS.out _).mono ?_); rintro e w2 ⟨rfl, rfl⟩))
  generalize hY : w1.heap.size = y at *
  clear hY
  go_loopw [13] (fun s13 wr => ∃ (i R M H : Nat) (D : List Bool), i ≤ 100 ∧ i ≤ n0 ∧ s13 = .int .i64 i ∧ Hid (XB wr x m y W.heap.size bits size i R M H D) ∧ Hid (Below W.heap.size W wr)) (fun s13 _ => 100 - (intOf s13).toNat)
  case atStart => exact ⟨0, 0, 0, 0, [], by omega, by omega, rfl, HBO, HBY⟩
  case round =>
    obtain ⟨i, R, M, H, D, hi, hin, rfl, HBr, HWr⟩ := hrel
    by_cases hlt : i < n0 ∧ i < 100
    · obtain ⟨hlt1, hlt2⟩ := hlt
      have hi1 : (i : Int) < n0 := by omega
      have hi2 : (i : Int) < 100 := by omega
      have hi0 : (0 : Int) ≤ i := by omega
      have HI := Lib.hid (And.intro hlt1 hlt2)
      obtain ⟨o, ho⟩ : ∃ o, l0[i]? = some o := ⟨_, List.getElem?_eq_getElem (by rw [HL0.out]; exact hlt1)⟩
      obtain ⟨bq, off, rfl, hq⟩ := HS0.out (by rw [HL0.out]; omega)
      obtain ⟨q0, q1, q2⟩ := hq i o ho
      have z0 := kept_box HWr.out q0
      have z1 := kept_box HWr.out q1
      obtain ⟨kd, nn⟩ := o
      simp only at z0 z1 q2
      have HOB := Lib.hid (Row.made wr 83 #[.int .i64 kd, .int .i64 nn])
      have HXo := Lib.hid (HBr.out.later (bl_alloc (Below.refl _ _) (.cells #[.int .i64 kd, .int .i64 nn] 83)))
      have HWo := Lib.hid (bl_alloc HWr.out (.cells #[.int .i64 kd, .int .i64 nn] 83))
      clear ho hq q0 q1 q2 hlt1 hlt2 hi hin
      go_upto_region 12 with fail
      generalize hQ : (wr.alloc (.cells #[.int .i64 kd, .int .i64 nn] 83)) = wq at *
      clear hQ
      generalize hOO : wr.heap.size = oo at *
      clear hOO z0 z1
      have d0 := HOB.out.read (i := 0) (x := .int .i64 kd) rfl
      have d1 := HOB.out.read (i := 1) (x := .int .i64 nn) rfl
      go_upto_block 2 with fail
      go_cut [15] (fun s15 wx => ∃ (wy : World) (R' M' H' : Nat) (D' : List Bool), wy = wx ∧ s15 = .bool true ∧ Hid (XB wy x m y W.heap.size bits size (i + 1) R' M' H' D') ∧ Hid (Below W.heap.size W wy))
      case first =>
        rcases Classical.em (kd = 0) with hk0 | hk0
        · subst hk0
          obtain ⟨q, hcc⟩ := both_came (HXo.out.later (bl_drew (Below.refl _ _))) nn
          have HN1 := Lib.hid hcc
          have k0 : wq.drew.cell? ⟨oo, 1, none⟩ = some (.int .i64 nn) := HOB.out.drawn.read rfl
          have HXd := Lib.hid (HXo.out.later (bl_drew (Below.refl _ _)))
          have HWd := Lib.hid (bl_drew HWo.out)
          clear hcc
          go_wp2
          go_region_held3 (fun w' => w'.cell? ⟨oo, 1, none⟩ = some (.int .i64 nn)) (first | with_reducible exact k0 | exact HO3.out.read rfl | exact HO4.out.read rfl | go_keep)
            (first
              | (go_at_call 51; (with_reducible refine HN1.out.mono ?_); rintro e w3 ⟨rfl, ho3, hc3⟩; (have HP3 := Lib.hid ho3; have HN2 := Lib.hid hc3; have HO3 := Lib.hid (HXd.out.row_other HOB.out.drawn (by decide) (by decide) ho3); clear ho3 hc3))
              | (go_at_call 60; (with_reducible refine HN2.out.mono ?_); rintro e w4 ⟨rfl, ho4, H4, hb4⟩; (have HB4 := Lib.hid hb4; have HP4 := Lib.hid (HP3.out.andThen ho4 (fun _ _ hk => hk)); have HO4 := Lib.hid (HXd.out.row_other HOB.out.drawn (by decide) (by decide) HP4.out); clear ho4 hb4)))
          go_wp2
          go_meet
          exact ⟨_, _, _, _, _, rfl, by simp, Lib.hid HB4.out.more, Lib.hid (HWd.out.trans (HXd.out.below HP4.out))⟩
        · have e0 : (kd == 0) = false := by simpa using hk0
          rcases Classical.em (kd = 1) with hk1 | hk1
          · subst hk1
            obtain ⟨q, k, xs, hxl, hxk, hcc⟩ := both_whole HXo.out (by have := HI.out.2; omega) nn
            have HN1 := Lib.hid hcc
            have HXK := Lib.hid (And.intro hxl hxk)
            clear hcc hxl hxk
            go_wp2_with (first
              | (go_at_call 52; (with_reducible refine HN1.out.mono ?_); rintro e w3 ⟨A1, rfl, ha3, ho3, hc3⟩; (have HP3 := Lib.hid ho3; have HN2 := Lib.hid hc3; have HA3 := Lib.hid ha3; have HO3 := Lib.hid (HXo.out.row_other HOB.out (by decide) (by decide) ho3); clear ho3 hc3 ha3 d0 d1; obtain ⟨d0, d1⟩ := op_cells2 HO3.out))
              | (go_at_call 61; (with_reducible refine HN2.out.mono ?_); rintro e w4 ⟨A2, c2, rfl, ha4, ho4, R4, M4, H4, D4, hb4⟩; (have HB4 := Lib.hid hb4; have HP4 := Lib.hid (HP3.out.andThen ho4 (fun _ _ hk => hk)); have HA4 := Lib.hid ha4; have HA3b := Lib.hid (HA3.out.only ho4 (fun g cs _ hg => XMY_above HXo.out.inside hg)); clear ho4 hb4 ha4 d0 d1))
              | (go_at_call 62; (with_reducible refine (xsame_any _ _ xs _ HXK.out.1 HXK.out.2 HA3b.out HA4.out).mono ?_); rintro e w5 ⟨rfl, hb5⟩; (have HB5 := Lib.hid hb5; clear hb5)))
            go_meet
            exact ⟨_, _, _, _, _, rfl, by simp, Lib.hid (HB4.out.later HB5.out), Lib.hid (bl_step (HWo.out.trans (HXo.out.below HP4.out)) HB5.out)⟩
          · have e1 : (kd == 1) = false := by simpa using hk1
            rcases Classical.em (kd = 2) with hk2 | hk2
            · subst hk2
              obtain ⟨q, hcc⟩ := both_late (HXo.out.later (bl_drew (Below.refl _ _))) nn
              have HN1 := Lib.hid hcc
              have k0 : wq.drew.cell? ⟨oo, 1, none⟩ = some (.int .i64 nn) := HOB.out.drawn.read rfl
              have HXd := Lib.hid (HXo.out.later (bl_drew (Below.refl _ _)))
              have HWd := Lib.hid (bl_drew HWo.out)
              clear hcc
              go_wp2
              go_region_held3 (fun w' => w'.cell? ⟨oo, 1, none⟩ = some (.int .i64 nn)) (first | with_reducible exact k0 | exact HO3.out.read rfl | exact HO4.out.read rfl | go_keep)
                (first
                  | (go_at_call 53; (with_reducible refine HN1.out.mono ?_); rintro e w3 ⟨rfl, ho3, hc3⟩; (have HP3 := Lib.hid ho3; have HN2 := Lib.hid hc3; have HO3 := Lib.hid (HXd.out.row_other HOB.out.drawn (by decide) (by decide) ho3); clear ho3 hc3))
                  | (go_at_call 63; (with_reducible refine HN2.out.mono ?_); rintro e w4 ⟨rfl, ho4, M4, hb4⟩; (have HB4 := Lib.hid hb4; have HP4 := Lib.hid (HP3.out.andThen ho4 (fun _ _ hk => hk)); have HO4 := Lib.hid (HXd.out.row_other HOB.out.drawn (by decide) (by decide) HP4.out); clear ho4 hb4)))
              go_wp2
              go_meet
              exact ⟨_, _, _, _, _, rfl, by simp, Lib.hid HB4.out.more, Lib.hid (HWd.out.trans (HXd.out.below HP4.out))⟩
            · have e2 : (kd == 2) = false := by simpa using hk2
              rcases Classical.em (kd = 3) with hk3 | hk3
              · subst hk3
                have HN1 := Lib.hid (both_reset HXo.out)
                have HXY := Lib.hid (And.intro HXo.out.hx HXo.out.hy)
                go_wp2_with (go_at_call 64; (with_reducible refine HN1.out.mono ?_); rintro e w3 ⟨rfl, ho3, hw3, u3, hr3⟩; (
                  obtain ⟨hb4, hp4⟩ := both_anew (cnt := i + 1) hw3 hr3 HXY.out.1 HXY.out.2 (Nat.le_trans HXo.out.hB ho3.size)
                  have HB4 := Lib.hid hb4
                  have HP4 := Lib.hid (ho3.andThen hp4 (fun _ _ hk => hk))
                  have f2 := hr3.free 2
                  have f3 := hr3.free 3
                  have f4 := hr3.free 4
                  have f5 := hr3.free 5
                  obtain ⟨c0, c1, c2, c3, c4, c5⟩ := ycells hr3
                  clear ho3 hw3 hr3 hb4 hp4))
                go_meet
                exact ⟨_, _, _, _, _, rfl, rfl, HB4, Lib.hid (HWo.out.trans (HXo.out.below HP4.out))⟩
              · have e3 : (kd == 3) = false := by simpa using hk3
                go_wp2
                go_meet
                exact ⟨_, _, _, _, _, rfl, rfl, Lib.hid HXo.out.more, HWo⟩
      case rest =>
        obtain ⟨wy, R', M', H', D', hwy, rfl, HXy, HWy⟩ := hcut
        subst hwy
        clear HXo HWo HBr HWr HOB d0 d1
        obtain ⟨p1, p2, p3, hst, hst2⟩ := both_state HXy.out
        obtain ⟨xs, hxl, hms, hms2⟩ := both_missing HXy.out
        obtain ⟨pin, hin1, hin2⟩ := both_in HXy.out ask
        obtain ⟨pf, hf1, hf2⟩ := both_far HXy.out ask
        obtain ⟨pis, his1, his2⟩ := both_is HXy.out HASK.out
        have HST := Lib.hid (And.intro hst hst2)
        have HMS := Lib.hid (And.intro hms hms2)
        have HIN := Lib.hid (And.intro hin1 hin2)
        have HFR := Lib.hid (And.intro hf1 hf2)
        have HIS := Lib.hid (And.intro his1 his2)
        have HXL := Lib.hid hxl
        generalize hxn : xs.length = xn at *
        have HXN := Lib.hid hxn
        clear hst hst2 hms hms2 hin1 hin2 hf1 hf2 his1 his2 hxl hxn
        go_wp2_with (first
          | (go_at_call 54; (with_reducible refine (HST.out.1 _ (Below.refl _ _)).mono ?_); rintro e w3 ⟨rfl, hb⟩; (have HB3 := Lib.hid hb; clear hb))
          | (go_at_call 65; (with_reducible refine (HST.out.2 _ HB3.out).mono ?_); rintro e w4 ⟨rfl, hb⟩; (have HB4 := Lib.hid (bl_step HB3.out hb); clear hb))
          | (go_at_call 57; (with_reducible refine (HMS.out.1 _ HB4.out).mono ?_); rintro e w5 ⟨A5, rfl, hs5, hb⟩; (have HB5 := Lib.hid (bl_step HB4.out hb); have HS5 := Lib.hid hs5; clear hb hs5))
          | (go_at_call 66; (with_reducible refine (HMS.out.2 _ HB5.out).mono ?_); rintro e w6 ⟨A6, c6, rfl, hs6, hb⟩; (have HB6 := Lib.hid (bl_step HB5.out hb); have HS6 := Lib.hid hs6; have HS5b := Lib.hid (HS5.out.later hb); clear hb hs6))
          | (go_at_call 62; (with_reducible refine (xsame_any _ _ xs _ HXN.out HXL.out HS5b.out HS6.out).mono ?_); rintro e w7 ⟨rfl, hb⟩; (have HB7 := Lib.hid (bl_step HB6.out hb); clear hb))
          | (go_at_call 58; (with_reducible refine (HIN.out.1 _ HB7.out).mono ?_); rintro e w8 ⟨rfl, hb⟩; (have HB8 := Lib.hid (bl_step HB7.out hb); clear hb))
          | (go_at_call 67; (with_reducible refine (HIN.out.2 _ HB8.out).mono ?_); rintro e w9 ⟨rfl, hb⟩; (have HB9 := Lib.hid (bl_step HB8.out hb); clear hb))
          | (go_at_call 55; (with_reducible refine (HFR.out.1 _ HB9.out).mono ?_); rintro e w10 ⟨rfl, hb⟩; (have HB10 := Lib.hid (bl_step HB9.out hb); clear hb))
          | (go_at_call 68; (with_reducible refine (HFR.out.2 _ HB10.out).mono ?_); rintro e w11 ⟨rfl, hb⟩; (have HB11 := Lib.hid (bl_step HB10.out hb); clear hb))
          | (go_at_call 56; (with_reducible refine (HIS.out.1 _ HB11.out).mono ?_); rintro e w12 ⟨rfl, hb⟩; (have HB12 := Lib.hid (bl_step HB11.out hb); clear hb))
          | (go_at_call 69; (with_reducible refine (HIS.out.2 _ HB12.out).mono ?_); rintro e w13 ⟨rfl, hb⟩; (have HB13 := Lib.hid (bl_step HB12.out hb); clear hb)))
        go_roundw
        case rel => exact ⟨i + 1, R', M', H', D', by have := HI.out.2; omega, by have := HI.out.1; omega, by go_num, Lib.hid (HXy.out.later HB13.out), Lib.hid (bl_step HWy.out HB13.out)⟩
        case measure => have := HI.out.2; simp [intOf]; omega
    · have HB3 := Lib.hid (bl_alloc (Below.refl wr.heap.size wr) (.cells ZX 103))
      have HZ3 := Lib.hid (Row.made wr 103 ZX)
      rcases Nat.lt_or_ge i n0 with hc | hc
      all_goals
        first
          | (have hi1 : (i : Int) < n0 := (by omega); have hi2 : ¬ (i : Int) < 100 := (by omega))
          | (have hi1 : ¬ (i : Int) < n0 := (by omega))
        clear hlt hc hi hin
        go_wp2_with (first
          | (go_at_call 64; (with_reducible refine (xn_reset _).mono ?_); rintro e w4 ⟨rfl, hb⟩; (have HB4 := Lib.hid (bl_step HB3.out hb); have HZ4 := Lib.hid (HZ3.out.later hb); clear hb))
          | (go_at_call 52; (with_reducible refine (xn_whole 0 _).mono ?_); rintro e w5 ⟨rfl, hb⟩; (have HB5 := Lib.hid (bl_step HB4.out hb); have HZ5 := Lib.hid (HZ4.out.later hb); clear hb))
          | (go_at_call 50; (with_reducible refine (HA.out _).mono ?_); rintro e w6 ⟨rfl, hb⟩; (have HB6 := Lib.hid (bl_step HB5.out hb); have HZ6 := Lib.hid (HZ5.out.later hb); clear hb))
          | (go_at_call 51; (with_reducible refine (xz_came HZ6.out 0).mono ?_); rintro e w7 ⟨rfl, hb⟩; (have HB7 := Lib.hid (bl_step HB6.out hb); have HZ7 := Lib.hid (HZ6.out.later hb); clear hb))
          | (go_at_call 53; (with_reducible refine (xn_late 0 _).mono ?_); rintro e w8 ⟨rfl, hb⟩; (have HB8 := Lib.hid (bl_step HB7.out hb); have HZ8 := Lib.hid (HZ7.out.later hb); clear hb))
          | (go_at_call 58; (with_reducible refine (xn_in 0 _).mono ?_); rintro e w9 ⟨rfl, hb⟩; (have HB9 := Lib.hid (bl_step HB8.out hb); have HZ9 := Lib.hid (HZ8.out.later hb); clear hb))
          | (go_at_call 56; (with_reducible refine (xz_is HZ9.out 0).mono ?_); rintro e w10 ⟨rfl, hb⟩; (have HB10 := Lib.hid (bl_step HB9.out hb); have HZ10 := Lib.hid (HZ9.out.later hb); clear hb))
          | (go_at_call 54; (with_reducible refine (xn_state _).mono ?_); rintro e w11 ⟨rfl, hb⟩; (have HB11 := Lib.hid (bl_step HB10.out hb); have HZ11 := Lib.hid (HZ10.out.later hb); clear hb))
          | (go_at_call 55; (with_reducible refine (xn_far 0 _).mono ?_); rintro e w12 ⟨rfl, hb⟩; (have HB12 := Lib.hid (bl_step HB11.out hb); have HZ12 := Lib.hid (HZ11.out.later hb); clear hb))
          | (go_at_call 57; (with_reducible refine (xz_missing HZ12.out).mono ?_); rintro e w13 ⟨rfl, hb⟩; (have HB13 := Lib.hid (bl_step HB12.out hb); clear hb)))
        go_ret
        exact ⟨rfl, bl_step HWr.out HB13.out⟩
theorem xlives_every (A0 : Option Addr) (n0 c0 : Nat) (bits size ask : Int) (l0 : List (Int × Int)) (W : World) (hl0 : l0.length = n0) (hm0 : n0 ≤ 9223372036854775807) (hs0 : OpSrc W A0 l0) (hask : (Lit.int .i64 ask).wf = true) :
    Calls Try.prog 9 #[.int .i64 bits, .int .i64 size, .slice A0 n0 c0, .int .i64 ask] W fun e w' => e = .returned (.bool true) ∧ Below W.heap.size W w' := by
  rcases sz_lt (b := bits) (size := size) with h | h | ⟨ht, h1, h2⟩
  · exact xlives_bad A0 n0 c0 bits size ask W (.inl h)
  · exact xlives_bad A0 n0 c0 bits size ask W (.inr h)
  · exact xlives_ok A0 n0 c0 bits size ask l0 W hl0 hm0 hs0 ht h1 h2 hask
end
end Go.Proofs.Ytgdpjaojlhdhdaa
namespace Go.Proofs.Ytgdpjaojlhdhdaa
open Go.ChangeShapes Go.WideShapes Go.ChangeAt Go.RowKit

theorem lawOwn : ownKnob Try.prog.godebug = none := by kernel_rfl
theorem lawLaid : laidOutB Try.prog = true := by kernel_rfl

section
variable {H : Type} {enc : TypeId × Value → H} {P : Program}
/-- what was read in the old world is read in the new one -/
theorem args_stay (hl : laidOutB P = true) {W W' : World} (hb : Below W.heap.size W W') : ∀ (ts : List TypeId) (vs : List Value) (ds : List (DataW H)) (ps : List MemPlace),
    (∀ t ∈ ts, P.readableRec t = true ∧ t < P.types.size) → DataW.TrodAll enc P W 0 (fun _ => true) true ts vs ds ps → (∀ x ∈ ps, x.block < W.heap.size) →
    DataW.TrodAll enc P W' 0 (fun b => decide (b < W.heap.size)) true ts vs ds ps := by
  intro ts
  induction ts with
  | nil =>
    intro vs ds ps _ h _
    obtain ⟨rfl, rfl, rfl⟩ := trodAll_nil h
    exact trodAll_mk0
  | cons t ts ih =>
    intro vs ds ps hr h hlt
    obtain ⟨v, vs', d, ds', p, q, rfl, rfl, rfl, h1, h2⟩ := trodAll_cons h
    have ht := hr t (List.mem_cons_self ..)
    exact trodAll_cons_mk (Below.trod hl ht.1 ht.2 h1 hb fun x hx => hlt x (List.mem_append_left _ hx))
      (ih vs' ds' q (fun u hu => hr u (List.mem_cons_of_mem _ hu)) h2 fun x hx => hlt x (List.mem_append_right _ hx))

theorem law_post {f : Func} {s : ChangeSpec} {W W' : World} {args : Array Value} {ds gs : List (DataW H)} {before : List MemPlace} {B : TypeId}
    (hl : laidOutB P = true) (hr : f.params.toList.all (fun t => P.readableRec t && decide (t < P.types.size)) = true) (hv : s.vars = [])
    (hW : DataW.Whole enc P f.params.toList s.vars false W args.toList ds gs before)
    (hs : s.fn H (ds ++ gs) = { results := [.lit (.bool true)], args := ds }) (ht : f.resultTypes = #[B]) (hB : P.underlying B = some .bool)
    (hb : Below W.heap.size W W') : s.post enc P f false true false false W args (.bool true) W' := by
  have hW' := hW
  obtain ⟨p, q, hA, hV, rfl, _, _⟩ := hW
  rw [hv] at hV
  obtain ⟨rfl, rfl⟩ := trodVars_none hV
  refine ⟨ds, [], p ++ [], [], p, [], hW', ?_, ?_, ?_, hb.frame _, fun h => by cases h⟩
  · rw [hs, ht]
    exact trodAll_mk1 (shut_bool hB true)
  · rw [hs]
    exact args_stay hl hb _ _ _ _ (fun t h => by have := List.all_eq_true.1 hr t h; simpa using this) hA fun x hx => hW'.lt x (List.mem_append_left _ hx)
  · rw [hs, hv]
    exact rfl
end
end Go.Proofs.Ytgdpjaojlhdhdaa
