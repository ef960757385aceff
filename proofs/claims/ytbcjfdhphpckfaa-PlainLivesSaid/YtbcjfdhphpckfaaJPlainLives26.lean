/-
  queue: the code's queue and the document's one together: a text discarded, all cleared, the bytes, the numbers. queue: the code's queue and the document's one together: all cleared. queue: the code's queue and the document's one together: the first text, and its bytes taken. queue: the code's queue and the document's one together: the bytes that wait, and the numbers. law04: same, of two lists of numbers that hold the same. What a plain entity answers to fixed calls. queue: the code's queue and the document's one together: made; what an entry's bytes read as. plain: each call by the queue's; of none; what Build and Hear refuse; the document's Build and Hear.
-/
import Derived.Test.YtbcjfdhphpckfaaJPlainLives20
import Derived.Test.YtbcjfdhphpckfaaJPlainLives25
import Derived.Test.YtbcjfdhphpckfaaJPlainLives03
import Derived.Test.YtbcjfdhphpckfaaJPlainLives17
namespace Go.Proofs.Ytbcjfdhphpckfaa
open Go.RowKit

section
variable {w v u : World} {p y B : Nat} {room : Int} {ts : List Txt} {E : List Ent} {n : Nat}
theorem find_at {A C : List (Nat × List Nat × Bool)} {id : Nat} {q : List Nat × Bool} (h : ∀ p ∈ A, p.1 ≠ id) : (A ++ (id, q) :: C).findIdx (fun p => p.1 == id) = A.length := by
  rw [find_part h, List.findIdx_cons]
  simp
theorem eraseIdx_at {A C : List (Nat × List Nat × Bool)} {q : Nat × List Nat × Bool} : (A ++ q :: C).eraseIdx A.length = A ++ C := by
  rw [List.eraseIdx_append_of_length_le (Nat.le_refl _)]
  simp
theorem tx_erase : ∀ (ts : List Txt) (i : Nat), tx (ts.eraseIdx i) = (tx ts).eraseIdx i
  | [], _ => by simp [tx]
  | t :: r, 0 => by simp [tx]
  | t :: r, i + 1 => by
    have h := tx_erase r i
    unfold tx at h ⊢
    rw [List.eraseIdx_cons_succ, List.map_cons, List.map_cons, List.eraseIdx_cons_succ, h]
theorem tx_at (ts : List Txt) (i : Nat) : (tx ts)[i]? = ts[i]?.map fun t => (t.id, t.bs, t.bg) := by unfold tx; rw [List.getElem?_map]
theorem bytes_erase : ∀ (ts : List Txt) (i : Nat), bytesF (ts.eraseIdx i) ≤ bytesF ts
  | [], _ => by simp [bytesF]
  | t :: r, 0 => by rw [bytesF_cons]; simp
  | t :: r, i + 1 => by rw [List.eraseIdx_cons_succ, bytesF_cons, bytesF_cons]; have := bytes_erase r i; omega
/-- a number that does not wait is no text's -/
theorem disc_none (h : tx ts = live 0 E) (he : ∀ e, atN E n = some e → e.gone = true) : discE n ts = 4 ∧ discF n ts = ts := by
  have hno : ts[placeF n ts]? = none := by
    have h1 : (tx ts).findIdx (fun p => p.1 == n) = (tx ts).length := by
      refine List.findIdx_eq_length.2 fun p hp => ?_
      rw [h] at hp
      have hid := live_id E 0 p hp
      by_cases e : p.1 = n
      · exfalso
        have hn : 1 ≤ n := by omega
        have hl : n - 1 < E.length := by omega
        have hg := he E[n - 1] (by unfold atN; rw [if_neg (by omega)]; exact List.getElem?_eq_getElem hl)
        rw [live_parts hn (List.getElem?_eq_getElem hl), if_pos hg, List.nil_append, List.mem_append] at hp
        rcases hp with hp | hp
        · have := live_id _ 0 p hp
          rw [List.length_take] at this
          omega
        · have := live_id _ n p hp
          omega
      · simpa using e
    rw [List.getElem?_eq_none]
    rw [placeF_tx, h1, tx_len]
    exact Nat.le_refl _
  unfold discE discF
  rw [hno]
  exact ⟨rfl, rfl⟩
theorem disc_some {e : Ent} (h : tx ts = live 0 E) (hn : 1 ≤ n) (he : E[n - 1]? = some e) (hg : e.gone = false) : discE n ts = (if 0 < e.tk then 7 else 0) ∧ tx (discF n ts) = if 0 < e.tk then tx ts else live 0 (E.take (n - 1)) ++ live n (E.drop n) := by
  have hp := live_parts hn he
  rw [if_neg (by rw [hg]; exact Bool.false_ne_true), ← h] at hp
  have hA : ∀ p ∈ live 0 (E.take (n - 1)), p.1 ≠ n := fun p hp => by
    have := live_id _ 0 p hp
    rw [List.length_take] at this
    omega
  have hpl : placeF n ts = (live 0 (E.take (n - 1))).length := by
    rw [placeF_tx, hp]
    exact find_at hA
  have hat : (tx ts)[placeF n ts]? = some (n, e.bs.drop e.tk, decide (0 < e.tk)) := by
    rw [hpl, hp, List.getElem?_append_right (Nat.le_refl _)]
    simp
  rw [tx_at] at hat
  obtain ⟨t, ht, hte⟩ := Option.map_eq_some_iff.1 hat
  injection hte with _ hte
  injection hte with _ hbg
  unfold discE discF
  rw [ht]
  simp only [hbg]
  by_cases h0 : 0 < e.tk
  · rw [decide_eq_true h0, if_pos h0, if_pos h0]
    exact ⟨rfl, rfl⟩
  · rw [decide_eq_false h0, if_neg h0, if_neg h0]
    refine ⟨rfl, ?_⟩
    rw [if_neg (by simp), tx_erase, hpl, hp]
    exact eraseIdx_at
theorem both_disc (h : QB w p y B room ts E) (n : Nat) (hn : n < 18446744073709551616) : ∃ er : Int, Calls Try.prog 19 #[.pointer (some ⟨p, 0, none⟩), .int .u64 n] w fun e w1 => e = .returned (.int .i64 er) ∧ KR XQ B w w1 ∧
    Calls Try.prog 20 #[.pointer (some ⟨y, 0, none⟩), .int .u64 n] w1 fun e w3 => e = .returned (.int .i64 er) ∧ KR XQ B w1 w3 ∧ ∃ ts' E', QB w3 p y B room ts' E' ∧ E'.length = E.length := by
  have hq : ∀ {W : World}, QOnly B w W → KR XQ B w W := fun ho => (ho.kr h.hB).weaker (fun t e => by unfold XQ; rcases e with e | e; exact .inl e; exact .inr (.inl e))
  refine ⟨discE n ts, (discard_any n h.c h.r0 (by have := h.ln; omega)).mono ?_⟩
  rintro e w1 ⟨rfl, hq1, ho1⟩
  have hr1 := h.r.byQ ho1
  have hB1 := Nat.le_trans h.hB ho1.size
  refine ⟨rfl, hq ho1, ?_⟩
  by_cases hx : ∀ e, atN E n = some e → e.gone = true
  · obtain ⟨a1, a2⟩ := disc_none h.link hx
    rw [a2] at hq1
    rw [a1]
    refine (rq_discard_none n hn hr1 hx).mono ?_
    rintro e w3 ⟨rfl, hb3⟩
    exact ⟨rfl, KR.of_below hB1 hb3, ts, E, ⟨hq1.later hb3, hr1.later hb3, h.hy, Nat.le_trans hB1 hb3.size, h.link, h.r0, h.r1, h.bt, h.ln, h.b8⟩, rfl⟩
  · obtain ⟨e, hx⟩ := Classical.not_forall.1 hx
    obtain ⟨he, hg⟩ := Classical.not_imp.1 hx
    have hg : e.gone = false := by simpa using hg
    have hn1 : 1 ≤ n := by
      rcases Nat.eq_zero_or_pos n with q | q
      · subst q; unfold atN at he; rw [if_pos rfl] at he; cases he
      · exact q
    unfold atN at he
    rw [if_neg (by omega)] at he
    obtain ⟨a1, a2⟩ := disc_some h.link hn1 he hg
    by_cases h0 : 0 < e.tk
    · rw [if_pos h0] at a1 a2
      rw [a1]
      refine (rq_discard_state n hr1 hn1 he hg h0).mono ?_
      rintro e3 w3 ⟨rfl, hb3⟩
      have hF : discF n ts = ts := by
        unfold discE at a1
        unfold discF
        split at a1
        · cases a1
        · rename_i t ht
          split at a1
          · rename_i hb
            rw [if_pos hb]
          · cases a1
      rw [hF] at hq1
      exact ⟨rfl, KR.of_below hB1 hb3, ts, E, ⟨hq1.later hb3, hr1.later hb3, h.hy, Nat.le_trans hB1 hb3.size, h.link, h.r0, h.r1, h.bt, h.ln, h.b8⟩, rfl⟩
    · rw [if_neg h0] at a1 a2
      rw [a1]
      refine (rq_discard n hr1 hn1 he hg (by omega)).mono ?_
      rintro e3 w3 ⟨rfl, hr3, ho3⟩
      have hk3 := KR.of34 ho3 hB1
      have hbe : bytesF (discF n ts) ≤ bytesF ts ∧ (discF n ts).length ≤ ts.length := by
        unfold discF
        split
        · exact ⟨Nat.le_refl _, Nat.le_refl _⟩
        · split
          · exact ⟨Nat.le_refl _, Nat.le_refl _⟩
          · exact ⟨bytes_erase _ _, List.length_eraseIdx_le _ _⟩
      have hbt := h.bt
      have hln := h.ln
      refine ⟨rfl, hk3.weaker (fun t e => by unfold XQ; rcases e with e | e <;> simp [e]), discF n ts, E.set (n - 1) { e with tk := e.tk, gone := true }, ⟨?_, hr3, h.hy, Nat.le_trans hB1 hk3.size, ?_, h.r0, h.r1, by omega, by omega, b8_set h.b8 (h.b8 e (List.mem_of_getElem? he))⟩, by simp⟩
      · rw [List.length_set]
        exact hq1.kr hk3 (by decide) (by decide) (by decide)
      · rw [a2, live_erase hn1 he _ rfl]
end
end Go.Proofs.Ytbcjfdhphpckfaa
namespace Go.Proofs.Ytbcjfdhphpckfaa
open Go.RowKit

section
variable {w v u : World} {p y B : Nat} {room : Int} {ts : List Txt} {E : List Ent} {n : Nat}
theorem live_all : ∀ (E : List Ent) (k : Nat), live k (allGone E E.length) = [] := fun E => live_gone (fun e he => by
  unfold allGone at he
  rw [List.take_length, List.drop_length, List.append_nil] at he
  obtain ⟨e', _, rfl⟩ := List.mem_map.1 he
  rfl)
theorem QB.idl (h : QB w p y B room ts E) : u64v (idk E E.length) = idv ts := by
  rw [ids_live, ← h.link]
  unfold u64v tx idv
  simp [List.map_map, Function.comp_def]
theorem both_clear (h : QB w p y B room ts E) : Calls Try.prog 22 #[.pointer (some ⟨p, 0, none⟩)] w fun e w1 => ∃ g, e = .returned (.slice (some ⟨g, 0, none⟩) ts.length ts.length) ∧ w.heap.size ≤ g ∧ Row w1 g 37 (idv ts).toArray ∧ KR XQ B w w1 ∧
    Calls Try.prog 23 #[.pointer (some ⟨y, 0, none⟩)] w1 fun e w3 => ∃ A c, e = .returned (.slice A ts.length c) ∧ SlAt w1.heap.size 37 w3 A (idv ts) ∧ KR XQ B w1 w3 ∧ QB w3 p y B room [] (allGone E E.length) ∧ (allGone E E.length).length = E.length := by
  refine (qclear_any h.c h.r0 (by have := h.ln; omega)).mono ?_
  rintro e w1 ⟨g, rfl, hg, hrow, hq1, ho1⟩
  have hB1 := Nat.le_trans h.hB ho1.size
  refine ⟨g, rfl, hg, hrow, (ho1.kr h.hB).weaker (fun t e => by unfold XQ; rcases e with e | e; exact .inl e; exact .inr (.inl e)), ?_⟩
  have hr1 := h.r.byQ ho1
  have hids := h.ids
  have hv := h.idl
  refine (rq_clear hr1).mono ?_
  rintro e w3 ⟨A, c, rfl, hs3, hr3, ho3⟩
  have hk3 := KR.of34 ho3 hB1
  rw [hv] at hs3
  rw [hids]
  have hr0 := h.r0
  refine ⟨A, c, rfl, hs3, hk3.weaker (fun t e => by unfold XQ; rcases e with e | e <;> simp [e]), ⟨?_, hr3, h.hy, Nat.le_trans hB1 hk3.size, ?_, h.r0, h.r1, ?_, by simp, fun e he => ?_⟩, allGone_len E _⟩
  · rw [allGone_len]
    exact hq1.kr hk3 (by decide) (by decide) (by decide)
  · rw [live_all]; rfl
  · simp [bytesF]; omega
  · unfold allGone at he
    rw [List.take_length, List.drop_length, List.append_nil] at he
    obtain ⟨e', he', rfl⟩ := List.mem_map.1 he
    exact h.b8 e' he'
end
end Go.Proofs.Ytbcjfdhphpckfaa
namespace Go.Proofs.Ytbcjfdhphpckfaa
open Go.RowKit

section
variable {w v u : World} {p y B : Nat} {room : Int} {ts r : List Txt} {t : Txt} {E : List Ent} {n : Nat}
theorem QB.empty (h : QB w p y B room [] E) : fE E = E.length := by
  have hl := h.link
  have h1 : fE E ≤ E.length := fE_le
  rcases Nat.lt_or_ge (fE E) E.length with q | q
  · rw [live_first (List.getElem?_eq_getElem q)] at hl
    cases hl
  · omega
theorem QB.head (h : QB w p y B room (t :: r) E) : ∃ e, E[fE E]? = some e ∧ t.id = fE E + 1 ∧ t.bs = e.bs.drop e.tk ∧ t.bg = decide (0 < e.tk) ∧ tx r = live (fE E + 1) (E.drop (fE E + 1)) := by
  have hl := h.link
  have h1 : fE E ≤ E.length := fE_le
  rcases Nat.lt_or_ge (fE E) E.length with q | q
  · rw [live_first (List.getElem?_eq_getElem q), Nat.zero_add] at hl
    unfold tx at hl ⊢
    rw [List.map_cons] at hl
    injection hl with h2 h3
    injection h2 with h4 h5
    injection h5 with h6 h7
    exact ⟨_, List.getElem?_eq_getElem q, h4, h6, h7, h3⟩
  · rw [live_none (by omega)] at hl
    cases hl
theorem both_front_none (h : QB w p y B room [] E) : Calls Try.prog 24 #[.pointer (some ⟨p, 0, none⟩)] w fun e w1 => e = .returned (.tuple #[.int .u64 0, .slice none 0 0, .bool false]) ∧ w = w1 ∧
    Calls Try.prog 25 #[.pointer (some ⟨y, 0, none⟩)] w1 fun e w3 => e = .returned (.tuple #[.int .u64 0, .slice none 0 0, .bool false]) ∧ w1 = w3 := by
  refine (front_none h.c h.r0).mono ?_
  rintro e _ ⟨rfl, rfl⟩
  exact ⟨rfl, rfl, rq_front_none h.r h.empty⟩
theorem both_front (h : QB w p y B room (t :: r) E) : ∃ e : Ent, e ∈ E ∧ t.bs = e.bs.drop e.tk ∧ Calls Try.prog 24 #[.pointer (some ⟨p, 0, none⟩)] w fun e' w1 => FrontDone t w e' w1 ∧ KR XQ B w w1 ∧
    Calls Try.prog 25 #[.pointer (some ⟨y, 0, none⟩)] w1 fun r' w3 => r' = .returned (.tuple #[.int .u64 t.id, .slice (some ⟨e.g, e.tk, none⟩) t.bs.length (e.c - e.tk), .bool t.bg]) ∧ KR XQ B w1 w3 ∧ QB w3 p y B room (t :: r) E ∧ e.ok B w3 := by
  obtain ⟨e, he, h1, h2, h3, h4⟩ := h.head
  have hm := List.mem_of_getElem? he
  have hok := h.r.ent e hm
  have hg := fE_at he
  have hl : t.bs.length = e.bs.length - e.tk := by rw [h2, List.length_drop]
  have hlo : 0 < t.bs.length ∧ t.bs.length ≤ 1000 := by
    obtain ⟨e1, e2, e3, e4, e5, e6, _⟩ := hok
    have := e4 hg
    omega
  refine ⟨e, hm, h2, (front_ok h.c h.r0 hlo.1 (by omega)).mono ?_⟩
  intro e' w1 hd
  obtain ⟨g, _, _, _, hb1⟩ := id hd
  have h' := h.later hb1
  refine ⟨hd, KR.of_below h.hB hb1, (rq_front h'.r he).mono ?_⟩
  rintro r' w3 ⟨rfl, hb3⟩
  have h3' := h'.later hb3
  refine ⟨?_, KR.of_below h'.hB hb3, h3', h3'.r.ent e hm⟩
  rw [h1, hl, h3]
  simp
theorem both_take_none (n : Int) (h : QB w p y B room [] E) : Calls Try.prog 17 #[.pointer (some ⟨p, 0, none⟩), .int .i64 n] w fun e w1 => e = .returned (.tuple #[.slice none 0 0, .bool false, .int .i64 4]) ∧ w = w1 ∧
    Calls Try.prog 18 #[.pointer (some ⟨y, 0, none⟩), .int .i64 n] w1 fun e w3 => e = .returned (.tuple #[.slice none 0 0, .bool false, .int .i64 4]) ∧ w1 = w3 := by
  refine (take_none n h.c h.r0).mono ?_
  rintro e _ ⟨rfl, rfl⟩
  exact ⟨rfl, rfl, rq_take_none n h.r h.empty⟩
theorem both_take_bad (n : Int) (h : QB w p y B room (t :: r) E) (hn : n < 1 ∨ (t.bs.length : Int) < n) : Calls Try.prog 17 #[.pointer (some ⟨p, 0, none⟩), .int .i64 n] w fun e w1 => e = .returned (.tuple #[.slice none 0 0, .bool false, .int .i64 1]) ∧ w = w1 ∧
    Calls Try.prog 18 #[.pointer (some ⟨y, 0, none⟩), .int .i64 n] w1 fun e w3 => e = .returned (.tuple #[.slice none 0 0, .bool false, .int .i64 1]) ∧ KR XQ B w1 w3 ∧ QB w3 p y B room (t :: r) E := by
  obtain ⟨e, he, h1, h2, h3, h4⟩ := h.head
  refine (take_bad n h.c h.r0 hn).mono ?_
  rintro e1 _ ⟨rfl, rfl⟩
  refine ⟨rfl, rfl, (rq_take_bad n h.r he (by rw [h2, List.length_drop] at hn; exact hn)).mono ?_⟩
  rintro e1 w3 ⟨rfl, hb3⟩
  exact ⟨rfl, KR.of_below h.hB hb3, h.later hb3⟩
theorem both_take (n : Nat) (h : QB w p y B room (t :: r) E) (hn1 : 1 ≤ n) (hn2 : n ≤ t.bs.length) : ∃ e : Ent, e ∈ E ∧ t.bs = e.bs.drop e.tk ∧ Calls Try.prog 17 #[.pointer (some ⟨p, 0, none⟩), .int .i64 n] w fun e' w1 => (∃ g, e' = .returned (.tuple #[.slice (some ⟨g, 0, none⟩) n n, .bool (n == t.bs.length), .int .i64 0]) ∧ w.heap.size ≤ g ∧ QBytes w1 g (t.bs.take n)) ∧ KR XQ B w w1 ∧
    Calls Try.prog 18 #[.pointer (some ⟨y, 0, none⟩), .int .i64 n] w1 fun r' w3 => (∃ c, r' = .returned (.tuple #[.slice (some ⟨e.g, e.tk, none⟩) n c, .bool (n == t.bs.length), .int .i64 0])) ∧ KR XQ B w1 w3 ∧ (∃ ts' E', QB w3 p y B room ts' E' ∧ E'.length = E.length) ∧ e.ok B w3 := by
  obtain ⟨e, he, h1, h2, h3, h4⟩ := h.head
  have hm := List.mem_of_getElem? he
  have hok := h.r.ent e hm
  have hg := fE_at he
  have hl : t.bs.length = e.bs.length - e.tk := by rw [h2, List.length_drop]
  have hbt := h.bt
  have hln := h.ln
  have hbc := bytesF_cons t r
  have hlo : 0 < t.bs.length ∧ t.bs.length ≤ 1000 := by
    obtain ⟨e1, e2, e3, e4, e5, e6, _⟩ := hok
    have := e4 hg
    omega
  rw [List.length_cons] at hln
  refine ⟨e, hm, h2, (take_okg n h.c h.r0 hn1 hn2 (by omega) (by omega)).mono ?_⟩
  rintro e' w1 ⟨g, rfl, hge, hqb, ho1, t', k1, k2, ⟨k3, _⟩, hq1⟩
  have hr1 := h.r.byQ ho1
  have hB1 := Nat.le_trans h.hB ho1.size
  refine ⟨⟨g, rfl, hge, hqb⟩, (ho1.kr h.hB).weaker (fun t e => by unfold XQ; rcases e with e | e; exact .inl e; exact .inr (.inl e)), (rq_take n hr1 he hn1 (by omega)).mono ?_⟩
  rintro r' w3 ⟨c, rfl, hr3, ho3⟩
  have hk3 := KR.of34 ho3 hB1
  have hok3 : e.ok B w3 := by
    obtain ⟨e1, e2, e3, e4, e5, e6, e7, cs, e8, e9⟩ := hr1.ent e hm
    exact ⟨e1, e2, e3, e4, e5, e6, e7, cs, hk3.rows _ _ _ e8 (by decide), e9⟩
  refine ⟨⟨c, by rw [hl]⟩, hk3.weaker (fun t e => by unfold XQ; rcases e with e | e <;> simp [e]), ⟨if n = t.bs.length then r else t' :: r, _, ⟨?_, hr3, h.hy, Nat.le_trans hB1 hk3.size, ?_, h.r0, h.r1, ?_, ?_, b8_set h.b8 (h.b8 e hm)⟩, by simp⟩, hok3⟩
  · rw [List.length_set]
    exact hq1.kr hk3 (by decide) (by decide) (by decide)
  · rw [live_set he, Nat.zero_add]
    by_cases c0 : n = t.bs.length
    · rw [if_pos c0, if_pos (by simp; omega), h4]
      rfl
    · rw [if_neg c0, if_neg (by simp; omega), ← h4]
      show (t'.id, t'.bs, t'.bg) :: tx r = _
      rw [k1, k2, k3, h1, h2, List.drop_drop]
      simp
      omega
  · split
    · omega
    · rw [bytesF_cons, k2, List.length_drop]; omega
  · split
    · omega
    · rw [List.length_cons]; omega
end
end Go.Proofs.Ytbcjfdhphpckfaa
namespace Go.Proofs.Ytbcjfdhphpckfaa
open Go.RowKit

section
variable {w v u : World} {p y B : Nat} {room : Int} {ts r : List Txt} {t : Txt} {E : List Ent} {n : Nat}
theorem both_bytes (h : QB w p y B room ts E) : Calls Try.prog 26 #[.pointer (some ⟨p, 0, none⟩)] w fun e w1 => e = .returned (.int .i64 (bytesF ts : Nat)) ∧ KR XQ B w w1 ∧
    Calls Try.prog 27 #[.pointer (some ⟨y, 0, none⟩)] w1 fun e w3 => e = .returned (.int .i64 (bytesF ts : Nat)) ∧ KR XQ B w1 w3 ∧ QB w3 p y B room ts E := by
  refine (qbytes_any h.c h.r0 (by have := h.bt; have := h.r1; omega)).mono ?_
  rintro e w1 ⟨rfl, hb1⟩
  have h' := h.later hb1
  refine ⟨rfl, KR.of_below h.hB hb1, (rq_bytes h'.r).mono ?_⟩
  rintro e w3 ⟨rfl, hb3⟩
  exact ⟨by rw [h.bytes], KR.of_below h'.hB hb3, h'.later hb3⟩
theorem both_ids (h : QB w p y B room ts E) : Calls Try.prog 28 #[.pointer (some ⟨p, 0, none⟩)] w fun e w1 => ∃ g, e = .returned (.slice (some ⟨g, 0, none⟩) ts.length ts.length) ∧ w.heap.size ≤ g ∧ Row w1 g 37 (idv ts).toArray ∧ KR XQ B w w1 ∧
    Calls Try.prog 29 #[.pointer (some ⟨y, 0, none⟩)] w1 fun e w3 => ∃ A c, e = .returned (.slice A ts.length c) ∧ SlAt w1.heap.size 37 w3 A (idv ts) ∧ KR XQ B w1 w3 ∧ QB w3 p y B room ts E := by
  refine (ids_any h.c h.r0 (by have := h.ln; omega)).mono ?_
  rintro e w1 ⟨g, rfl, hg, hrow, hb1⟩
  have h' := h.later hb1
  refine ⟨g, rfl, hg, hrow, KR.of_below h.hB hb1, (rq_ids h'.r).mono ?_⟩
  rintro e w3 ⟨A, c, rfl, hs3, hb3⟩
  rw [h.idl] at hs3
  rw [h.ids]
  exact ⟨A, c, rfl, hs3, KR.of_below h'.hB hb3, h'.later hb3⟩
end
end Go.Proofs.Ytbcjfdhphpckfaa
namespace Go.Proofs.Ytbcjfdhphpckfaa
open Go.RowKit

section
set_option maxRecDepth 100000 in
set_option maxHeartbeats 1600000 in
theorem qsame_any {A1 A2 : Option Addr} {B1 B2 n : Nat} (c1 c2 : Nat) (xs : List Nat) (w : World) (hn : xs.length = n) (hb : n ≤ 100000) (h1 : SlAt B1 37 w A1 (u64v xs)) (h2 : SlAt B2 37 w A2 (u64v xs)) :
    Calls Try.prog 21 #[.slice A1 n c1, .slice A2 n c2] w fun e w' => e = .returned (.bool true) ∧ Below w.heap.size w w' := by
  have H1 := Lib.hid h1
  have H2 := Lib.hid h2
  have HN := Lib.hid hn
  clear h1 h2 hn
  go_enter Try.func21, Try.ntmps21
  go_wp2
  go_loopw [5] (fun s5 wr => ∃ i : Nat, i ≤ n ∧ s5 = .int .i64 i ∧ Hid (Below w.heap.size w wr)) (fun s5 _ => n - (intOf s5).toNat)
  case atStart => exact ⟨0, by omega, rfl, Lib.hid (Below.refl _ _)⟩
  case round =>
    obtain ⟨i, hi, rfl, HB⟩ := hrel
    by_cases hlt : i < n
    · have h1 : (i : Int) < n := by omega
      have h0 : (0 : Int) ≤ i := by omega
      obtain ⟨v, hv⟩ : ∃ v, xs[i]? = some v := ⟨_, List.getElem?_eq_getElem (by rw [HN.out]; exact hlt)⟩
      have hvv : (u64v xs)[i]? = some (.int .u64 (v : Int)) := by unfold u64v; rw [List.getElem?_map, hv]; rfl
      obtain ⟨g1, rfl, z1⟩ := (H1.out.later HB.out).cell hvv
      obtain ⟨g2, rfl, z2⟩ := (H2.out.later HB.out).cell hvv
      have HLT := Lib.hid hlt
      clear hv hvv hlt
      go_wp2
      go_quiet (fail)
      go_wp2
      go_roundw
      case rel => exact ⟨i + 1, by have := HLT.out; omega, by go_num, Lib.hid (below_drewN HB.out _)⟩
      case measure => have := HLT.out; simp [intOf]; omega
    · have h1 : ¬ (i : Int) < n := by omega
      clear hlt
      go_wp2
      go_ret
      exact ⟨rfl, HB.out⟩
theorem idv_u64 (ts : List Txt) : idv ts = u64v (ts.map Txt.id) := by unfold idv u64v; rw [List.map_map]; rfl
theorem row_slat {w : World} {g m E : Nat} {xs : List Value} (hm : m ≤ g) (h : Row w g E xs.toArray) : SlAt m E w (some ⟨g, 0, none⟩) xs :=
  fun _ => ⟨g, _, rfl, hm, h, fun i u hu => by simpa using hu⟩
end
end Go.Proofs.Ytbcjfdhphpckfaa
namespace Go.Proofs.Ytbcjfdhphpckfaa
open Go.RowKit

theorem RowF.q {B : Nat} {w v : World} {g : Nat} {t : TypeId} {cs : Array Value} (h : RowF w g t cs) (h1 : t ≠ 51) (h2 : t ≠ 177) (ho : QOnly B w v) : RowF v g t cs :=
  h.only ho (fun ⟨_, t', cs', hr, ht⟩ => by
    obtain ⟨fr, h⟩ := h
    unfold Row at hr
    rw [h] at hr
    injection hr with hr
    injection hr with _ hr
    subst hr
    rcases ht with ht | ht
    · exact h1 ht
    · exact h2 ht)
theorem qb_src {w : World} {g : Nat} {l : List Nat} (h : QBytes w g l) : Src w (some ⟨g, 0, none⟩) (bts l) := by
  obtain ⟨cs, h1, h2⟩ := h
  intro _
  refine ⟨_, rfl, fun j u hu => ?_⟩
  have hj : j < l.length := by have := (List.getElem?_eq_some_iff.1 hu).1; rw [length_bts] at this; exact this
  have hb := bts_at (List.getElem?_eq_getElem hj)
  rw [hu] at hb
  injection hb with hb
  rw [hb, add_zero_addr]
  exact h1.read (h2 j _ (List.getElem?_eq_getElem hj))
theorem qb_conv {w : World} {g : Nat} {l : List Nat} (n c : Nat) (hl : l.length = n) (h : QBytes w g l) (hb : ∀ b ∈ l, b < 256) : (convert 34 9 (.slice (some ⟨g, 0, none⟩) n c)).run Try.prog w = .ok (.string (strOf l)) w := conv_src n c hl (qb_src h) hb
def us0 : Cf := ⟨0, 0, 0, 0, 0, 0, 0, 0, 0, 5000⟩
theorem us0_any (w : World) : Calls Try.prog 140 #[.int .i64 0] w fun e w' => e = .returned (.agg us0.a) ∧ Below w.heap.size w w' := pusual_any 0 w
theorem us0_new (w : World) : Calls Try.prog 53 #[.agg us0.a] w fun e w' => ∃ x q : Nat, e = .returned (.tuple #[.pointer (some ⟨x, 0, none⟩), .int .i64 0]) ∧ Row w' x 101 (ECells us0 (.pointer (some ⟨q, 0, none⟩))) ∧ QRep w.heap.size w' q 5000 0 [] ∧ Below w.heap.size w w' ∧ w.heap.size ≤ x :=
  enew_ok 0 0 0 0 0 0 0 0 5000 w (by decide +kernel) (by omega) (by omega)
def us1 : Cf := ⟨1, 5, 16, 4, 0, 0, 0, 0, 0, 5000⟩
theorem us1_any (w : World) : Calls Try.prog 140 #[.int .i64 1] w fun e w' => e = .returned (.agg us1.a) ∧ Below w.heap.size w w' := pusual_any 1 w
theorem us1_new (w : World) : Calls Try.prog 53 #[.agg us1.a] w fun e w' => e = .returned (.tuple #[.pointer none, .int .i64 9]) ∧ Below w.heap.size w w' :=
  enew_kind 1 5 16 4 0 0 0 0 0 5000 w (by decide +kernel) (by omega)
theorem hear0 {x q : Nat} {A : Option Addr} {bs : List Nat} (n cap : Nat) (w : World) (hE : Row w x 101 (ECells us0 (.pointer (some ⟨q, 0, none⟩)))) (hn : bs.length = n) (h0 : 0 < n) (hm : n ≤ 1000) (hs : Src w A (bts bs)) (hb : ∀ b ∈ bs, b < 256) :
    Calls Try.prog 57 #[.pointer (some ⟨x, 0, none⟩), .slice A n cap] w fun e w' => ∃ g, e = .returned (.tuple #[.slice (some ⟨g, 0, none⟩) n n, .int .i64 0]) ∧ QBytes w' g bs ∧ Below w.heap.size w w' :=
  ehear_ok 0 0 0 0 0 0 0 0 5000 n cap w hE (by decide +kernel) hn h0 hm hs hb
theorem pla1 {x q B : Nat} {w : World} (hE : Row w x 101 (ECells us0 (.pointer (some ⟨q, 0, none⟩)))) (h : QRep B w q 5000 0 []) :
    Calls Try.prog 55 #[.pointer (some ⟨x, 0, none⟩), .slice (some ⟨w.heap.size, 0, none⟩) 2 2] (w.alloc (.cells #[.int .u8 97, .int .u8 98] 5 (2, 3))) fun e w' => e = .returned (.tuple #[.int .u64 1, .int .i64 0]) ∧ Row w' x 101 (ECells us0 (.pointer (some ⟨q, 0, none⟩))) ∧ (∃ t, t.id = 1 ∧ t.bs = [97, 98] ∧ QRep B w' q 5000 1 [t]) ∧ Below B w w' := by
  have hb0 := bl_alloc (Below.refl w.heap.size w) (.cells #[.int .u8 97, .int .u8 98] 5 (2, 3))
  have hB2 : B ≤ w.heap.size := h.2.1
  have hE2 := hE.later hb0
  refine (epush_all (l := [97, 98]) (some ⟨w.heap.size, 0, none⟩) 2 2 rfl hE2 (h.later hb0) (by omega) (by omega) (by simp [bytesF]) (by simp) (by omega) (by omega) (fun V hV => ((RowF.made w 5 #[.int .u8 97, .int .u8 98] (2, 3)).q (by decide) (by decide) hV).src (l := [97, 98]))).mono ?_
  rintro e w' ⟨nid, er, rfl, ho, ⟨h1, h2, _, _, _, _, t, h3, h4, _, h5⟩ | ⟨h1, _, _, _, h2⟩⟩
  · subst h1 h2
    exact ⟨rfl, ho.row hE2 (by decide) (by decide), ⟨t, h3, h4, h5⟩, (hb0.mono hB2).trans (ho.below (Nat.le_trans hB2 hb0.size))⟩
  · have := h2 (by simp) (by simp)
    simp [bytesF] at this
set_option maxRecDepth 100000 in
set_option maxHeartbeats 3200000 in
theorem ealive_any (w : World) : Calls Try.prog 61 #[] w fun e w' => e = .returned (.bool true) ∧ Below w.heap.size w w' := by
  have kc := fun w => Lib.run_convert_bytes_const (P := Try.prog) w 34 5 #[.int .u8 97, .int .u8 98] 2 2 Try.underlying34 Try.underlying5
  have HU0 := Lib.hid us0_any
  have HN0 := Lib.hid us0_new
  have HU1 := Lib.hid us1_any
  have HN1 := Lib.hid us1_new
  generalize us0.a = u0 at *
  generalize us1.a = u1 at *
  go_enter Try.func61, Try.ntmps61
  go_wp2_with (first
    | (go_at_call 140; (with_reducible refine (HU0.out _).mono ?_); rintro e w1 ⟨rfl, hb1⟩; (have HB1 := Lib.hid hb1; clear hb1))
    | (go_at_call 53; (with_reducible refine (HN0.out _).mono ?_); rintro e w2 ⟨x, q, rfl, he2, hq2, hb2, hx2⟩; (have HE2 := Lib.hid he2; have HQ2 := Lib.hid hq2; have HB2 := Lib.hid (bl_step HB1.out hb2); clear he2 hq2 hb2 hx2))
    | (go_at_call 55; (with_reducible refine (pla1 HE2.out HQ2.out).mono ?_); rintro e w3 ⟨rfl, he3, ⟨t, ht1, ht2, hq3⟩, hb3⟩; (have HE3 := Lib.hid he3; have HQ3 := Lib.hid hq3; have HB3 := Lib.hid hb3; have HT := Lib.hid (And.intro ht1 ht2); have HG := Lib.hid (ebuild_grant 1 he3 hq3 (by omega) (by omega) (by omega) (by rw [ht2]; decide) (by rw [ht2]; decide) (by rw [ht2]; decide)); clear he3 hq3 hb3 ht1 ht2))
    | (go_at_call 56; (with_reducible refine HG.out.mono ?_); rintro e w4 ⟨rfl, hb4⟩; (have HE4 := Lib.hid (HE3.out.later hb4); have HQ4 := Lib.hid (HQ3.out.later hb4); have HB4 := Lib.hid hb4; have HG2 := Lib.hid (ebuild_ok 2 (HE3.out.later hb4) (HQ3.out.later hb4) (by omega) (by omega) (by rw [HT.out.2]; decide) (by rw [HT.out.2]; decide) (by rw [HT.out.2]; decide) (by simp)); clear hb4))
    | (go_at_call 56; (with_reducible refine HG2.out.mono ?_); rintro e w5 ⟨g5, rfl, hg5, hby5, ho5, hq5⟩; (rw [HT.out.2] at hby5 ⊢; rw [HT.out.1]; have HE5 := Lib.hid (ho5.row HE4.out (by decide) (by decide)); have HY5 := Lib.hid hby5; have HO5 := Lib.hid ho5; have HH := Lib.hid (hear0 2 2 w5 HE5.out rfl (by omega) (by omega) (qb_src hby5) (by simp)); clear hg5 hby5 ho5 hq5))
    | (go_at_call 57; (with_reducible refine HH.out.mono ?_); rintro e w6 ⟨g6, rfl, hby6, hb6⟩; (have HY6 := Lib.hid hby6; have HY56 := Lib.hid (HY5.out.later hb6); have HB6 := Lib.hid hb6; clear hby6 hb6))
    | (go_at_call 140; (with_reducible refine (HU1.out _).mono ?_); rintro e w7 ⟨rfl, hb7⟩; (have HB7 := Lib.hid hb7; clear hb7))
    | (go_at_call 53; (with_reducible refine (HN1.out _).mono ?_); rintro e w8 ⟨rfl, hb8⟩; (have HB8 := Lib.hid (bl_step HB7.out hb8); clear hb8; have cv5 := qb_conv 2 2 rfl (HY56.out.later HB8.out) (by simp); have cv6 := qb_conv 2 2 rfl (HY6.out.later HB8.out) (by simp); have z2 : strOf [97, 98] = ⟨#[97, 98]⟩ := rfl; rw [z2] at cv5 cv6; clear z2)))
  go_ret
  refine ⟨rfl, ?_⟩
  have s2 := HQ2.out.2.1
  have s3 := HQ3.out.2.1
  have s4 := HQ4.out.2.1
  have s1 := HB1.out.size
  have s5 := HO5.out.size
  have s6 := HB6.out.size
  have b3 := HB2.out.trans (HB3.out.mono s1)
  have b4 := b3.trans (HB4.out.mono (Nat.le_trans s1 s3))
  have b5 := b4.trans ((HO5.out.below s4).mono s1)
  have b6 := b5.trans (HB6.out.mono (Nat.le_trans (Nat.le_trans s1 s4) s5))
  exact b6.trans (HB8.out.mono (Nat.le_trans (Nat.le_trans (Nat.le_trans s1 s4) s5) s6))
end Go.Proofs.Ytbcjfdhphpckfaa
namespace Go.Proofs.Ytbcjfdhphpckfaa
open Go.RowKit

section
variable {w v : World} {p y B : Nat} {room : Int} {ts r : List Txt} {t : Txt} {E : List Ent} {e : Ent}
theorem both_qnew (h : QRep B w p room 0 []) (h1 : 1 ≤ room) (h2 : room ≤ 20000) (hB : B ≤ w.heap.size) : QB (w.alloc (.cells #[.int .i64 room, .slice none 0 0, .slice none 0 0, .slice none 0 0] 33)) p w.heap.size B room [] [] := by
  have hb := bl_alloc (Below.refl w.heap.size w) (.cells #[.int .i64 room, .slice none 0 0, .slice none 0 0, .slice none 0 0] 33)
  refine ⟨h.later hb, ⟨⟨none, 0, none, 0, none, 0, Row.made w _ _, ⟨World.ownsRow_nil _ _ _ _, World.ownsRow_nil _ _ _ _, World.ownsRow_nil _ _ _ _⟩⟩, (fun e he => by cases he), by simp⟩, hB, Nat.le_trans hB hb.size, rfl, by omega, h2, by simp [bytesF]; omega, by simp, fun e he => by cases he⟩
/-- an entry's bytes from where it is taken on, the first n of them, as a string -/
theorem Ent.conv (h : e.ok B w) (hb : ∀ b ∈ e.bs, b < 256) (n c : Nat) (hn : e.tk + n ≤ e.bs.length) : (convert 34 9 (.slice (some ⟨e.g, e.tk, none⟩) n c)).run Try.prog w = .ok (.string (strOf ((e.bs.drop e.tk).take n))) w := by
  obtain ⟨e1, e2, e3, e4, e5, e6, e7, cs, e8, e9⟩ := h
  refine conv_src n c (by rw [List.length_take, List.length_drop]; omega) (qsrc_src fun _ => ⟨e.g, e.tk, rfl, fun j u hu => ?_⟩) (fun b hb' => hb b (List.mem_of_mem_drop (List.mem_of_mem_take hb')))
  unfold qbts at hu
  rw [List.getElem?_map] at hu
  obtain ⟨b, hb', rfl⟩ := Option.map_eq_some_iff.1 hu
  rw [List.getElem?_take] at hb'
  split at hb'
  · rw [List.getElem?_drop] at hb'
    exact e8.read (e9 _ _ hb')
  · cases hb'
theorem Ent.conv_rest (h : e.ok B w) (hb : ∀ b ∈ e.bs, b < 256) (c : Nat) : (convert 34 9 (.slice (some ⟨e.g, e.tk, none⟩) (e.bs.drop e.tk).length c)).run Try.prog w = .ok (.string (strOf (e.bs.drop e.tk))) w := by
  have h1 := Ent.conv h hb (e.bs.drop e.tk).length c (by rw [List.length_drop]; have := h.2.2.1; omega)
  rw [List.take_length] at h1
  exact h1
/-- a row of no type of either queue's stays -/
theorem KR.other {X : TypeId → Prop} (h : KR X B w v) {g : Nat} {t : TypeId} {cs : Array Value} (hr : Row w g t cs) (ht : ¬ X t) : Row v g t cs := h.rows g t cs hr ht
end
end Go.Proofs.Ytbcjfdhphpckfaa
namespace Go.Proofs.Ytbcjfdhphpckfaa
open Go.RowKit

section
variable {w : World} {X : Option Addr} {v : Option Addr}
set_option maxHeartbeats 800000 in
theorem via_push {P : World → Prop} {S : Value} {a b : Int} (hq : Calls Try.prog 138 #[.pointer X] w fun e w' => e = .returned (.pointer v) ∧ w = w') (H : Calls Try.prog 15 #[.pointer v, S] w fun e w1 => e = .returned (.tuple #[.int .u64 a, .int .i64 b]) ∧ P w1) :
    Calls Try.prog 55 #[.pointer X, S] w fun e w1 => e = .returned (.tuple #[.int .u64 a, .int .i64 b]) ∧ P w1 := by
  have HQ := Lib.hid hq
  have HP := Lib.hid H
  clear hq H
  go_enter Try.func55, Try.ntmps55
  go_wp2_with (first
    | (go_at_call 138; (with_reducible refine HQ.out.mono ?_); rintro e w1 ⟨rfl, rfl⟩)
    | (go_at_call 15; (with_reducible refine HP.out.mono ?_); rintro e w1 ⟨rfl, hp⟩; (have H1 := Lib.hid hp; clear hp)))
  go_ret2
  exact ⟨rfl, H1.out⟩
set_option maxHeartbeats 800000 in
theorem via_disc {P : World → Prop} {S : Value} {a : Int} (hq : Calls Try.prog 138 #[.pointer X] w fun e w' => e = .returned (.pointer v) ∧ w = w') (H : Calls Try.prog 19 #[.pointer v, S] w fun e w1 => e = .returned (.int .i64 a) ∧ P w1) :
    Calls Try.prog 58 #[.pointer X, S] w fun e w1 => e = .returned (.int .i64 a) ∧ P w1 := by
  have HQ := Lib.hid hq
  have HP := Lib.hid H
  clear hq H
  go_enter Try.func58, Try.ntmps58
  go_wp2_with (first
    | (go_at_call 138; (with_reducible refine HQ.out.mono ?_); rintro e w1 ⟨rfl, rfl⟩)
    | (go_at_call 19; (with_reducible refine HP.out.mono ?_); rintro e w1 ⟨rfl, hp⟩; (have H1 := Lib.hid hp; clear hp)))
  go_ret
  exact ⟨rfl, H1.out⟩
set_option maxHeartbeats 800000 in
theorem via_bytes {P : World → Prop} {a : Int} (hq : Calls Try.prog 138 #[.pointer X] w fun e w' => e = .returned (.pointer v) ∧ w = w') (H : Calls Try.prog 26 #[.pointer v] w fun e w1 => e = .returned (.int .i64 a) ∧ P w1) :
    Calls Try.prog 59 #[.pointer X] w fun e w1 => e = .returned (.int .i64 a) ∧ P w1 := by
  have HQ := Lib.hid hq
  have HP := Lib.hid H
  clear hq H
  go_enter Try.func59, Try.ntmps59
  go_wp2_with (first
    | (go_at_call 138; (with_reducible refine HQ.out.mono ?_); rintro e w1 ⟨rfl, rfl⟩)
    | (go_at_call 26; (with_reducible refine HP.out.mono ?_); rintro e w1 ⟨rfl, hp⟩; (have H1 := Lib.hid hp; clear hp)))
  go_ret
  exact ⟨rfl, H1.out⟩
set_option maxHeartbeats 800000 in
theorem via_clear {P : Option Addr → World → Prop} {n : Nat} (hq : Calls Try.prog 138 #[.pointer X] w fun e w' => e = .returned (.pointer v) ∧ w = w') (H : Calls Try.prog 22 #[.pointer v] w fun e w1 => ∃ A, e = .returned (.slice A n n) ∧ P A w1) :
    Calls Try.prog 60 #[.pointer X] w fun e w1 => ∃ A, e = .returned (.slice A n n) ∧ P A w1 := by
  have HQ := Lib.hid hq
  have HP := Lib.hid H
  clear hq H
  go_enter Try.func60, Try.ntmps60
  go_wp2_with (first
    | (go_at_call 138; (with_reducible refine HQ.out.mono ?_); rintro e w1 ⟨rfl, rfl⟩)
    | (go_at_call 22; (with_reducible refine HP.out.mono ?_); rintro e w1 ⟨A, rfl, hp⟩; (have H1 := Lib.hid hp; clear hp)))
  go_ret
  exact ⟨A, rfl, H1.out⟩
set_option maxRecDepth 100000 in
set_option maxHeartbeats 1600000 in
theorem ebuild_of_none (g : Int) (hq : Calls Try.prog 138 #[.pointer X] w fun e w' => e = .returned (.pointer none) ∧ w = w') :
    Calls Try.prog 56 #[.pointer X, .int .i64 g] w fun e w' => e = .returned (.tuple #[.slice none 0 0, .int .u64 0, .int .i64 6]) ∧ w = w' := by
  have HQ := Lib.hid hq
  have HP := Lib.hid (front_nil w)
  clear hq
  go_enter Try.func56, Try.ntmps56
  go_wp2
  refine st_scope_through 0 (fun _ _ => False) (fun _ _ => 0) rfl (fun _ => ?_) (fun _ _ h => h.elim)
  go_wp2_with (first
    | (go_at_call 138; (with_reducible refine HQ.out.mono ?_); rintro e w1 ⟨rfl, rfl⟩)
    | (go_at_call 24; (with_reducible refine HP.out.mono ?_); rintro e w1 ⟨rfl, rfl⟩))
  try simp only [Exit.jump]
  go_ret3
  exact ⟨rfl, rfl⟩
set_option maxRecDepth 100000 in
set_option maxHeartbeats 1600000 in
theorem ehear_of_none {S : Value} (hq : Calls Try.prog 138 #[.pointer X] w fun e w' => e = .returned (.pointer none) ∧ w = w') :
    Calls Try.prog 57 #[.pointer X, S] w fun e w' => e = .returned (.tuple #[.slice none 0 0, .int .i64 6]) ∧ w = w' := by
  have HQ := Lib.hid hq
  clear hq
  go_enter Try.func57, Try.ntmps57
  go_wp2_with (go_at_call 138; (with_reducible refine HQ.out.mono ?_); rintro e w1 ⟨rfl, rfl⟩)
  go_ret2
  exact ⟨rfl, rfl⟩
end
section
variable {B x q y last : Nat} {c : Cf} {room : Int} {ts r : List Txt} {t : Txt} {w : World} {E : List Ent} {e : Ent}
set_option maxRecDepth 100000 in
set_option maxHeartbeats 1600000 in
theorem ebuild_arg (g : Int) (hE : Row w x 101 (ECells c (.pointer (some ⟨q, 0, none⟩)))) (h : QRep B w q room last ts) (hr : 0 < room) (ht : ∀ t ∈ ts, 0 < t.bs.length ∧ t.bs.length ≤ 100000) (hg : g < 0 ∨ 4096 < g) :
    Calls Try.prog 56 #[.pointer (some ⟨x, 0, none⟩), .int .i64 g] w fun e w' => e = .returned (.tuple #[.slice none 0 0, .int .u64 0, .int .i64 1]) ∧ Below w.heap.size w w' := by
  have HQ := Lib.hid (equeue_any hE)
  have HP : Hid (Calls Try.prog 24 #[.pointer (some ⟨q, 0, none⟩)] w fun e w' => (∃ (a : Int) (A : Option Addr) (n c : Nat) (b : Bool), e = .returned (.tuple #[.int .u64 a, .slice A n c, .bool b])) ∧ Below w.heap.size w w') := by
    refine Lib.hid ?_
    cases ts with
    | nil =>
      refine (front_none h hr).mono ?_
      rintro e w1 ⟨rfl, rfl⟩
      exact ⟨⟨_, _, _, _, _, rfl⟩, Below.refl _ _⟩
    | cons t r =>
      have h1 := ht t (List.mem_cons_self ..)
      refine (front_ok h hr h1.1 h1.2).mono ?_
      rintro e w1 ⟨g1, rfl, _, _, hb⟩
      exact ⟨⟨_, _, _, _, _, rfl⟩, hb⟩
  clear hE h ht
  by_cases h0 : g < 0
  · clear hg
    go_enter Try.func56, Try.ntmps56
    go_wp2
    refine st_scope_through 0 (fun _ _ => False) (fun _ _ => 0) rfl (fun _ => ?_) (fun _ _ h => h.elim)
    go_wp2_with (first
      | (go_at_call 138; (with_reducible refine HQ.out.mono ?_); rintro e w1 ⟨rfl, rfl⟩)
      | (go_at_call 24; (with_reducible refine HP.out.mono ?_); rintro e w1 ⟨⟨a, A, n, c, b, rfl⟩, hbl⟩; (have HB := Lib.hid hbl; clear hbl)))
    try simp only [Exit.jump]
    go_ret3
    exact ⟨rfl, HB.out⟩
  · have h1 : 4096 < g := by omega
    clear hg
    go_enter Try.func56, Try.ntmps56
    go_wp2
    refine st_scope_through 0 (fun _ _ => False) (fun _ _ => 0) rfl (fun _ => ?_) (fun _ _ h => h.elim)
    go_wp2_with (first
      | (go_at_call 138; (with_reducible refine HQ.out.mono ?_); rintro e w1 ⟨rfl, rfl⟩)
      | (go_at_call 24; (with_reducible refine HP.out.mono ?_); rintro e w1 ⟨⟨a, A, n, c, b, rfl⟩, hbl⟩; (have HB := Lib.hid hbl; clear hbl)))
    try simp only [Exit.jump]
    go_ret3
    exact ⟨rfl, HB.out⟩
set_option maxRecDepth 100000 in
set_option maxHeartbeats 3200000 in
theorem ehear_no {A : Option Addr} {bs : List Nat} (bits win reo prx pro ppd pby mrx qb : Int) (n cap : Nat) (w : World) (hE : Row w x 101 (ECells ⟨0, bits, win, reo, prx, pro, ppd, pby, mrx, qb⟩ (.pointer (some ⟨q, 0, none⟩)))) (hck : checkF ⟨0, bits, win, reo, prx, pro, ppd, pby, mrx, qb⟩ = 0)
    (hn : bs.length = n) (hm : n = 0 ∨ 1000 < n) (hs : Src w A (bts bs)) (hb : ∀ b ∈ bs, b < 256) :
    Calls Try.prog 57 #[.pointer (some ⟨x, 0, none⟩), .slice A n cap] w fun e w' => e = .returned (.tuple #[.slice none 0 0, .int .i64 (if n = 0 then 8 else 2)]) ∧ Below w.heap.size w w' := by
  have HQ := Lib.hid (equeue_any hE)
  have HR := Lib.hid (pread_tm_err (A := A) bits win reo prx pro ppd pby mrx qb (if n = 0 then 8 else 2) n cap w hck (fun V hV => by
    have h := pkind_any (A := A) (bs := bs) 0 n cap V hn (src_later hs hV) hb
    exact h) (by split <;> decide) (fun V hV => ptext_no n cap V hm))
  unfold ECells at hE
  have c0 := hE.read (i := 0) (x := .int .i64 0) rfl
  have c1 := hE.read (i := 1) (x := .int .i64 bits) rfl
  have c2 := hE.read (i := 2) (x := .int .i64 win) rfl
  have c3 := hE.read (i := 3) (x := .int .i64 reo) rfl
  have c4 := hE.read (i := 4) (x := .int .i64 prx) rfl
  have c5 := hE.read (i := 5) (x := .int .i64 pro) rfl
  have c6 := hE.read (i := 6) (x := .int .i64 ppd) rfl
  have c7 := hE.read (i := 7) (x := .int .i64 pby) rfl
  have c8 := hE.read (i := 8) (x := .int .i64 mrx) rfl
  have c9 := hE.read (i := 9) (x := .int .i64 qb) rfl
  generalize (if n = 0 then (8 : Int) else 2) = er at *
  clear hE hs hb hck hm
  go_enter Try.func57, Try.ntmps57
  go_wp2_with (first
    | (go_at_call 138; (with_reducible refine HQ.out.mono ?_); rintro e w1 ⟨rfl, rfl⟩)
    | (go_at_call 139; (with_reducible refine HR.out.mono ?_); rintro e w1 ⟨rfl, hbl⟩; (have HBL := Lib.hid hbl; clear hbl)))
  go_ret2
  exact ⟨rfl, bl_alloc HBL.out _⟩
set_option maxRecDepth 100000 in
set_option maxHeartbeats 1600000 in
theorem rhear_any {A : Option Addr} (n cap : Nat) (w : World) : Calls Try.prog 63 #[.slice A n cap] w fun e w' => e = .returned (.tuple (if n = 0 then #[.slice none 0 0, .int .i64 8] else if 1000 < n then #[.slice none 0 0, .int .i64 2] else #[.slice A n cap, .int .i64 0])) ∧ w = w' := by
  by_cases h0 : n = 0
  · rw [if_pos h0]
    subst h0
    go_enter Try.func63, Try.ntmps63
    go_wp2
    go_ret2
    exact ⟨rfl, rfl⟩
  · rw [if_neg h0]
    have h1 : ((n : Int) == 0) = false := by simp; omega
    by_cases h2 : 1000 < n
    · rw [if_pos h2]
      have h3 : (1000 : Int) < n := by omega
      go_enter Try.func63, Try.ntmps63
      go_wp2
      go_ret2
      exact ⟨rfl, rfl⟩
    · rw [if_neg h2]
      have h3 : ¬ (1000 : Int) < n := by omega
      go_enter Try.func63, Try.ntmps63
      go_wp2
      go_ret2
      exact ⟨rfl, rfl⟩
set_option maxRecDepth 100000 in
set_option maxHeartbeats 1600000 in
theorem rbuild_arg {a : Value} (g : Int) (w : World) (hg : g < 0 ∨ 4096 < g) : Calls Try.prog 62 #[a, .int .i64 g] w fun e w' => e = .returned (.tuple #[.slice none 0 0, .int .u64 0, .int .i64 1]) ∧ w = w' := by
  by_cases h0 : g < 0
  · clear hg
    go_enter Try.func62, Try.ntmps62
    go_wp2
    go_ret3
    exact ⟨rfl, rfl⟩
  · have h1 : 4096 < g := by omega
    clear hg
    go_enter Try.func62, Try.ntmps62
    go_wp2
    go_ret3
    exact ⟨rfl, rfl⟩
set_option maxRecDepth 100000 in
set_option maxHeartbeats 1600000 in
theorem rbuild_none (g : Int) (hg0 : 0 ≤ g) (hg1 : g ≤ 4096) (H : Calls Try.prog 25 #[.pointer (some ⟨y, 0, none⟩)] w fun e w3 => e = .returned (.tuple #[.int .u64 0, .slice none 0 0, .bool false]) ∧ w = w3) :
    Calls Try.prog 62 #[.pointer (some ⟨y, 0, none⟩), .int .i64 g] w fun e w' => e = .returned (.tuple #[.slice none 0 0, .int .u64 0, .int .i64 4]) ∧ w = w' := by
  have HF := Lib.hid H
  have h0 : ¬ g < 0 := by omega
  have h1 : ¬ 4096 < g := by omega
  clear H hg0 hg1
  go_enter Try.func62, Try.ntmps62
  go_wp2_with (go_at_call 25; (with_reducible refine HF.out.mono ?_); rintro e w1 ⟨rfl, rfl⟩)
  go_ret3
  exact ⟨rfl, rfl⟩
set_option maxRecDepth 100000 in
set_option maxHeartbeats 1600000 in
theorem rbuild_grant {P : World → Prop} {A : Option Addr} {id n c : Nat} {b : Bool} (g : Int) (hg0 : 0 ≤ g) (hg1 : g ≤ 4096) (hid : 0 < id) (hn : g < (n : Int)) (H : Calls Try.prog 25 #[.pointer (some ⟨y, 0, none⟩)] w fun e w3 => e = .returned (.tuple #[.int .u64 id, .slice A n c, .bool b]) ∧ P w3) :
    Calls Try.prog 62 #[.pointer (some ⟨y, 0, none⟩), .int .i64 g] w fun e w' => e = .returned (.tuple #[.slice none 0 0, .int .u64 0, .int .i64 16]) ∧ P w' := by
  have HF := Lib.hid H
  have h0 : ¬ g < 0 := by omega
  have h1 : ¬ 4096 < g := by omega
  have hz : ((id : Int) == 0) = false := by simp; omega
  clear H hg0 hg1 hid
  go_enter Try.func62, Try.ntmps62
  go_wp2_with (go_at_call 25; (with_reducible refine HF.out.mono ?_); rintro e w1 ⟨rfl, hp⟩; (have HP := Lib.hid hp; clear hp))
  go_ret3
  exact ⟨rfl, HP.out⟩
set_option maxRecDepth 100000 in
set_option maxHeartbeats 1600000 in
theorem rbuild_ok {P : World → Prop} {A : Option Addr} {id n c : Nat} {b : Bool} (g : Int) (hg1 : g ≤ 4096) (hid : 0 < id) (hn : (n : Int) ≤ g) (H : Calls Try.prog 25 #[.pointer (some ⟨y, 0, none⟩)] w fun e w3 => e = .returned (.tuple #[.int .u64 id, .slice A n c, .bool b]) ∧
      Calls Try.prog 18 #[.pointer (some ⟨y, 0, none⟩), .int .i64 n] w3 fun e w4 => (∃ a b c, e = .returned (.tuple #[a, b, c])) ∧ P w4) :
    Calls Try.prog 62 #[.pointer (some ⟨y, 0, none⟩), .int .i64 g] w fun e w' => e = .returned (.tuple #[.slice A n c, .int .u64 id, .int .i64 0]) ∧ P w' := by
  have HF := Lib.hid H
  have h0 : ¬ g < 0 := by omega
  have h1 : ¬ 4096 < g := by omega
  have h2 : ¬ g < (n : Int) := by omega
  have hz : ((id : Int) == 0) = false := by simp; omega
  clear H hg1 hid hn
  go_enter Try.func62, Try.ntmps62
  go_wp2_with (first
    | (go_at_call 25; (with_reducible refine HF.out.mono ?_); rintro e w1 ⟨rfl, hp⟩; (have HP := Lib.hid hp; clear hp))
    | (go_at_call 18; (with_reducible refine HP.out.mono ?_); rintro e w2 ⟨⟨a1, a2, a3, rfl⟩, hp⟩; (have HP2 := Lib.hid hp; clear hp)))
  go_ret3
  exact ⟨rfl, HP2.out⟩
end
end Go.Proofs.Ytbcjfdhphpckfaa
