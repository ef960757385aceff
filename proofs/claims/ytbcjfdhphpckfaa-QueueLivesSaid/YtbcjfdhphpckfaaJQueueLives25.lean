/-
  queue: the code's queue and the document's one together: a text discarded, all cleared, the bytes, the numbers. queue: the code's queue and the document's one together: all cleared. queue: the code's queue and the document's one together: the first text, and its bytes taken. queue: the code's queue and the document's one together: the bytes that wait, and the numbers. law04: same, of two lists of numbers that hold the same. glue: what is held, what is lost, what is told: plain lists. glue: a glue in memory; its small calls. glue: a field comes. glue: a field comes, and what is whole is told. glue: what one field of a packet does. glue: all fields of a packet, one by one. glue: what may not be. glue: fields are put together. glue: what was told stays; literal fields. What a config is, and bytes that a queue keeps. queue: the code's queue and the document's one together: made; what an entry's bytes read as. A call of two numbers and bytes, and where calls lie.
-/
import Derived.Test.YtbcjfdhphpckfaaJQueueLives13
import Derived.Test.YtbcjfdhphpckfaaJQueueLives24
import Derived.Test.YtbcjfdhphpckfaaJQueueLives04
import Derived.Test.YtbcjfdhphpckfaaJQueueLives01
import Derived.Test.YtbcjfdhphpckfaaJQueueLives19
import Derived.Test.YtbcjfdhphpckfaaJQueueLives03
import Derived.Test.YtbcjfdhphpckfaaJQueueLives10
import Derived.Test.YtbcjfdhphpckfaaJQueueLives18
namespace Go.Proofs.Ytbcjfdhphpckfaa
open Go.RowKit

section
variable {w v u : World} {p y B : Nat} {room : Int} {ts : List Txt} {E : List Ent} {n : Nat}
theorem find_at {A C : List (Nat × List Nat × Bool)} {id : Nat} {q : List Nat × Bool} (h : ∀ p ∈ A, p.1 ≠ id) : (A ++ (id, q) :: C).findIdx (fun p => p.1 == id) = A.length := by
  rw [find_part h, List.findIdx_cons]
  simp
theorem eraseIdx_at {A C : List (Nat × List Nat × Bool)} {q : Nat × List Nat × Bool} : (A ++ q :: C).eraseIdx A.length = A ++ C := by
  rw [List.eraseIdx_append_of_length_le (Nat.le_refl _)]
  simp
theorem tx_erase : ∀ (ts : List Txt) (i : Nat), tx (ts.eraseIdx i) = (tx ts).eraseIdx i
  | [], _ => by simp [tx]
  | t :: r, 0 => by simp [tx]
  | t :: r, i + 1 => by
    have h := tx_erase r i
    unfold tx at h ⊢
    rw [List.eraseIdx_cons_succ, List.map_cons, List.map_cons, List.eraseIdx_cons_succ, h]
theorem tx_at (ts : List Txt) (i : Nat) : (tx ts)[i]? = ts[i]?.map fun t => (t.id, t.bs, t.bg) := by unfold tx; rw [List.getElem?_map]
theorem bytes_erase : ∀ (ts : List Txt) (i : Nat), bytesF (ts.eraseIdx i) ≤ bytesF ts
  | [], _ => by simp [bytesF]
  | t :: r, 0 => by rw [bytesF_cons]; simp
  | t :: r, i + 1 => by rw [List.eraseIdx_cons_succ, bytesF_cons, bytesF_cons]; have := bytes_erase r i; omega
/-- a number that does not wait is no text's -/
theorem disc_none (h : tx ts = live 0 E) (he : ∀ e, atN E n = some e → e.gone = true) : discE n ts = 4 ∧ discF n ts = ts := by
  have hno : ts[placeF n ts]? = none := by
    have h1 : (tx ts).findIdx (fun p => p.1 == n) = (tx ts).length := by
      refine List.findIdx_eq_length.2 fun p hp => ?_
      rw [h] at hp
      have hid := live_id E 0 p hp
      by_cases e : p.1 = n
      · exfalso
        have hn : 1 ≤ n := by omega
        have hl : n - 1 < E.length := by omega
        have hg := he E[n - 1] (by unfold atN; rw [if_neg (by omega)]; exact List.getElem?_eq_getElem hl)
        rw [live_parts hn (List.getElem?_eq_getElem hl), if_pos hg, List.nil_append, List.mem_append] at hp
        rcases hp with hp | hp
        · have := live_id _ 0 p hp
          rw [List.length_take] at this
          omega
        · have := live_id _ n p hp
          omega
      · simpa using e
    rw [List.getElem?_eq_none]
    rw [placeF_tx, h1, tx_len]
    exact Nat.le_refl _
  unfold discE discF
  rw [hno]
  exact ⟨rfl, rfl⟩
theorem disc_some {e : Ent} (h : tx ts = live 0 E) (hn : 1 ≤ n) (he : E[n - 1]? = some e) (hg : e.gone = false) : discE n ts = (if 0 < e.tk then 7 else 0) ∧ tx (discF n ts) = if 0 < e.tk then tx ts else live 0 (E.take (n - 1)) ++ live n (E.drop n) := by
  have hp := live_parts hn he
  rw [if_neg (by rw [hg]; exact Bool.false_ne_true), ← h] at hp
  have hA : ∀ p ∈ live 0 (E.take (n - 1)), p.1 ≠ n := fun p hp => by
    have := live_id _ 0 p hp
    rw [List.length_take] at this
    omega
  have hpl : placeF n ts = (live 0 (E.take (n - 1))).length := by
    rw [placeF_tx, hp]
    exact find_at hA
  have hat : (tx ts)[placeF n ts]? = some (n, e.bs.drop e.tk, decide (0 < e.tk)) := by
    rw [hpl, hp, List.getElem?_append_right (Nat.le_refl _)]
    simp
  rw [tx_at] at hat
  obtain ⟨t, ht, hte⟩ := Option.map_eq_some_iff.1 hat
  injection hte with _ hte
  injection hte with _ hbg
  unfold discE discF
  rw [ht]
  simp only [hbg]
  by_cases h0 : 0 < e.tk
  · rw [decide_eq_true h0, if_pos h0, if_pos h0]
    exact ⟨rfl, rfl⟩
  · rw [decide_eq_false h0, if_neg h0, if_neg h0]
    refine ⟨rfl, ?_⟩
    rw [if_neg (by simp), tx_erase, hpl, hp]
    exact eraseIdx_at
theorem both_disc (h : QB w p y B room ts E) (n : Nat) (hn : n < 18446744073709551616) : ∃ er : Int, Calls Try.prog 19 #[.pointer (some ⟨p, 0, none⟩), .int .u64 n] w fun e w1 => e = .returned (.int .i64 er) ∧ KR XQ B w w1 ∧
    Calls Try.prog 20 #[.pointer (some ⟨y, 0, none⟩), .int .u64 n] w1 fun e w3 => e = .returned (.int .i64 er) ∧ KR XQ B w1 w3 ∧ ∃ ts' E', QB w3 p y B room ts' E' ∧ E'.length = E.length := by
  have hq : ∀ {W : World}, QOnly B w W → KR XQ B w W := fun ho => (ho.kr h.hB).weaker (fun t e => by unfold XQ; rcases e with e | e; exact .inl e; exact .inr (.inl e))
  refine ⟨discE n ts, (discard_any n h.c h.r0 (by have := h.ln; omega)).mono ?_⟩
  rintro e w1 ⟨rfl, hq1, ho1⟩
  have hr1 := h.r.byQ ho1
  have hB1 := Nat.le_trans h.hB ho1.size
  refine ⟨rfl, hq ho1, ?_⟩
  by_cases hx : ∀ e, atN E n = some e → e.gone = true
  · obtain ⟨a1, a2⟩ := disc_none h.link hx
    rw [a2] at hq1
    rw [a1]
    refine (rq_discard_none n hn hr1 hx).mono ?_
    rintro e w3 ⟨rfl, hb3⟩
    exact ⟨rfl, KR.of_below hB1 hb3, ts, E, ⟨hq1.later hb3, hr1.later hb3, h.hy, Nat.le_trans hB1 hb3.size, h.link, h.r0, h.r1, h.bt, h.ln, h.b8⟩, rfl⟩
  · obtain ⟨e, hx⟩ := Classical.not_forall.1 hx
    obtain ⟨he, hg⟩ := Classical.not_imp.1 hx
    have hg : e.gone = false := by simpa using hg
    have hn1 : 1 ≤ n := by
      rcases Nat.eq_zero_or_pos n with q | q
      · subst q; unfold atN at he; rw [if_pos rfl] at he; cases he
      · exact q
    unfold atN at he
    rw [if_neg (by omega)] at he
    obtain ⟨a1, a2⟩ := disc_some h.link hn1 he hg
    by_cases h0 : 0 < e.tk
    · rw [if_pos h0] at a1 a2
      rw [a1]
      refine (rq_discard_state n hr1 hn1 he hg h0).mono ?_
      rintro e3 w3 ⟨rfl, hb3⟩
      have hF : discF n ts = ts := by
        unfold discE at a1
        unfold discF
        split at a1
        · cases a1
        · rename_i t ht
          split at a1
          · rename_i hb
            rw [if_pos hb]
          · cases a1
      rw [hF] at hq1
      exact ⟨rfl, KR.of_below hB1 hb3, ts, E, ⟨hq1.later hb3, hr1.later hb3, h.hy, Nat.le_trans hB1 hb3.size, h.link, h.r0, h.r1, h.bt, h.ln, h.b8⟩, rfl⟩
    · rw [if_neg h0] at a1 a2
      rw [a1]
      refine (rq_discard n hr1 hn1 he hg (by omega)).mono ?_
      rintro e3 w3 ⟨rfl, hr3, ho3⟩
      have hk3 := KR.of34 ho3 hB1
      have hbe : bytesF (discF n ts) ≤ bytesF ts ∧ (discF n ts).length ≤ ts.length := by
        unfold discF
        split
        · exact ⟨Nat.le_refl _, Nat.le_refl _⟩
        · split
          · exact ⟨Nat.le_refl _, Nat.le_refl _⟩
          · exact ⟨bytes_erase _ _, List.length_eraseIdx_le _ _⟩
      have hbt := h.bt
      have hln := h.ln
      refine ⟨rfl, hk3.weaker (fun t e => by unfold XQ; rcases e with e | e <;> simp [e]), discF n ts, E.set (n - 1) { e with tk := e.tk, gone := true }, ⟨?_, hr3, h.hy, Nat.le_trans hB1 hk3.size, ?_, h.r0, h.r1, by omega, by omega, b8_set h.b8 (h.b8 e (List.mem_of_getElem? he))⟩, by simp⟩
      · rw [List.length_set]
        exact hq1.kr hk3 (by decide) (by decide) (by decide)
      · rw [a2, live_erase hn1 he _ rfl]
end
end Go.Proofs.Ytbcjfdhphpckfaa
namespace Go.Proofs.Ytbcjfdhphpckfaa
open Go.RowKit

section
variable {w v u : World} {p y B : Nat} {room : Int} {ts : List Txt} {E : List Ent} {n : Nat}
theorem live_all : ∀ (E : List Ent) (k : Nat), live k (allGone E E.length) = [] := fun E => live_gone (fun e he => by
  unfold allGone at he
  rw [List.take_length, List.drop_length, List.append_nil] at he
  obtain ⟨e', _, rfl⟩ := List.mem_map.1 he
  rfl)
theorem QB.idl (h : QB w p y B room ts E) : u64v (idk E E.length) = idv ts := by
  rw [ids_live, ← h.link]
  unfold u64v tx idv
  simp [List.map_map, Function.comp_def]
theorem both_clear (h : QB w p y B room ts E) : Calls Try.prog 22 #[.pointer (some ⟨p, 0, none⟩)] w fun e w1 => ∃ g, e = .returned (.slice (some ⟨g, 0, none⟩) ts.length ts.length) ∧ w.heap.size ≤ g ∧ Row w1 g 37 (idv ts).toArray ∧ KR XQ B w w1 ∧
    Calls Try.prog 23 #[.pointer (some ⟨y, 0, none⟩)] w1 fun e w3 => ∃ A c, e = .returned (.slice A ts.length c) ∧ SlAt w1.heap.size 37 w3 A (idv ts) ∧ KR XQ B w1 w3 ∧ QB w3 p y B room [] (allGone E E.length) ∧ (allGone E E.length).length = E.length := by
  refine (qclear_any h.c h.r0 (by have := h.ln; omega)).mono ?_
  rintro e w1 ⟨g, rfl, hg, hrow, hq1, ho1⟩
  have hB1 := Nat.le_trans h.hB ho1.size
  refine ⟨g, rfl, hg, hrow, (ho1.kr h.hB).weaker (fun t e => by unfold XQ; rcases e with e | e; exact .inl e; exact .inr (.inl e)), ?_⟩
  have hr1 := h.r.byQ ho1
  have hids := h.ids
  have hv := h.idl
  refine (rq_clear hr1).mono ?_
  rintro e w3 ⟨A, c, rfl, hs3, hr3, ho3⟩
  have hk3 := KR.of34 ho3 hB1
  rw [hv] at hs3
  rw [hids]
  have hr0 := h.r0
  refine ⟨A, c, rfl, hs3, hk3.weaker (fun t e => by unfold XQ; rcases e with e | e <;> simp [e]), ⟨?_, hr3, h.hy, Nat.le_trans hB1 hk3.size, ?_, h.r0, h.r1, ?_, by simp, fun e he => ?_⟩, allGone_len E _⟩
  · rw [allGone_len]
    exact hq1.kr hk3 (by decide) (by decide) (by decide)
  · rw [live_all]; rfl
  · simp [bytesF]; omega
  · unfold allGone at he
    rw [List.take_length, List.drop_length, List.append_nil] at he
    obtain ⟨e', he', rfl⟩ := List.mem_map.1 he
    exact h.b8 e' he'
end
end Go.Proofs.Ytbcjfdhphpckfaa
namespace Go.Proofs.Ytbcjfdhphpckfaa
open Go.RowKit

section
variable {w v u : World} {p y B : Nat} {room : Int} {ts r : List Txt} {t : Txt} {E : List Ent} {n : Nat}
theorem QB.empty (h : QB w p y B room [] E) : fE E = E.length := by
  have hl := h.link
  have h1 : fE E ≤ E.length := fE_le
  rcases Nat.lt_or_ge (fE E) E.length with q | q
  · rw [live_first (List.getElem?_eq_getElem q)] at hl
    cases hl
  · omega
theorem QB.head (h : QB w p y B room (t :: r) E) : ∃ e, E[fE E]? = some e ∧ t.id = fE E + 1 ∧ t.bs = e.bs.drop e.tk ∧ t.bg = decide (0 < e.tk) ∧ tx r = live (fE E + 1) (E.drop (fE E + 1)) := by
  have hl := h.link
  have h1 : fE E ≤ E.length := fE_le
  rcases Nat.lt_or_ge (fE E) E.length with q | q
  · rw [live_first (List.getElem?_eq_getElem q), Nat.zero_add] at hl
    unfold tx at hl ⊢
    rw [List.map_cons] at hl
    injection hl with h2 h3
    injection h2 with h4 h5
    injection h5 with h6 h7
    exact ⟨_, List.getElem?_eq_getElem q, h4, h6, h7, h3⟩
  · rw [live_none (by omega)] at hl
    cases hl
theorem both_front_none (h : QB w p y B room [] E) : Calls Try.prog 24 #[.pointer (some ⟨p, 0, none⟩)] w fun e w1 => e = .returned (.tuple #[.int .u64 0, .slice none 0 0, .bool false]) ∧ w = w1 ∧
    Calls Try.prog 25 #[.pointer (some ⟨y, 0, none⟩)] w1 fun e w3 => e = .returned (.tuple #[.int .u64 0, .slice none 0 0, .bool false]) ∧ w1 = w3 := by
  refine (front_none h.c h.r0).mono ?_
  rintro e _ ⟨rfl, rfl⟩
  exact ⟨rfl, rfl, rq_front_none h.r h.empty⟩
theorem both_front (h : QB w p y B room (t :: r) E) : ∃ e : Ent, e ∈ E ∧ t.bs = e.bs.drop e.tk ∧ Calls Try.prog 24 #[.pointer (some ⟨p, 0, none⟩)] w fun e' w1 => FrontDone t w e' w1 ∧ KR XQ B w w1 ∧
    Calls Try.prog 25 #[.pointer (some ⟨y, 0, none⟩)] w1 fun r' w3 => r' = .returned (.tuple #[.int .u64 t.id, .slice (some ⟨e.g, e.tk, none⟩) t.bs.length (e.c - e.tk), .bool t.bg]) ∧ KR XQ B w1 w3 ∧ QB w3 p y B room (t :: r) E ∧ e.ok B w3 := by
  obtain ⟨e, he, h1, h2, h3, h4⟩ := h.head
  have hm := List.mem_of_getElem? he
  have hok := h.r.ent e hm
  have hg := fE_at he
  have hl : t.bs.length = e.bs.length - e.tk := by rw [h2, List.length_drop]
  have hlo : 0 < t.bs.length ∧ t.bs.length ≤ 1000 := by
    obtain ⟨e1, e2, e3, e4, e5, e6, _⟩ := hok
    have := e4 hg
    omega
  refine ⟨e, hm, h2, (front_ok h.c h.r0 hlo.1 (by omega)).mono ?_⟩
  intro e' w1 hd
  obtain ⟨g, _, _, _, hb1⟩ := id hd
  have h' := h.later hb1
  refine ⟨hd, KR.of_below h.hB hb1, (rq_front h'.r he).mono ?_⟩
  rintro r' w3 ⟨rfl, hb3⟩
  have h3' := h'.later hb3
  refine ⟨?_, KR.of_below h'.hB hb3, h3', h3'.r.ent e hm⟩
  rw [h1, hl, h3]
  simp
theorem both_take_none (n : Int) (h : QB w p y B room [] E) : Calls Try.prog 17 #[.pointer (some ⟨p, 0, none⟩), .int .i64 n] w fun e w1 => e = .returned (.tuple #[.slice none 0 0, .bool false, .int .i64 4]) ∧ w = w1 ∧
    Calls Try.prog 18 #[.pointer (some ⟨y, 0, none⟩), .int .i64 n] w1 fun e w3 => e = .returned (.tuple #[.slice none 0 0, .bool false, .int .i64 4]) ∧ w1 = w3 := by
  refine (take_none n h.c h.r0).mono ?_
  rintro e _ ⟨rfl, rfl⟩
  exact ⟨rfl, rfl, rq_take_none n h.r h.empty⟩
theorem both_take_bad (n : Int) (h : QB w p y B room (t :: r) E) (hn : n < 1 ∨ (t.bs.length : Int) < n) : Calls Try.prog 17 #[.pointer (some ⟨p, 0, none⟩), .int .i64 n] w fun e w1 => e = .returned (.tuple #[.slice none 0 0, .bool false, .int .i64 1]) ∧ w = w1 ∧
    Calls Try.prog 18 #[.pointer (some ⟨y, 0, none⟩), .int .i64 n] w1 fun e w3 => e = .returned (.tuple #[.slice none 0 0, .bool false, .int .i64 1]) ∧ KR XQ B w1 w3 ∧ QB w3 p y B room (t :: r) E := by
  obtain ⟨e, he, h1, h2, h3, h4⟩ := h.head
  refine (take_bad n h.c h.r0 hn).mono ?_
  rintro e1 _ ⟨rfl, rfl⟩
  refine ⟨rfl, rfl, (rq_take_bad n h.r he (by rw [h2, List.length_drop] at hn; exact hn)).mono ?_⟩
  rintro e1 w3 ⟨rfl, hb3⟩
  exact ⟨rfl, KR.of_below h.hB hb3, h.later hb3⟩
theorem both_take (n : Nat) (h : QB w p y B room (t :: r) E) (hn1 : 1 ≤ n) (hn2 : n ≤ t.bs.length) : ∃ e : Ent, e ∈ E ∧ t.bs = e.bs.drop e.tk ∧ Calls Try.prog 17 #[.pointer (some ⟨p, 0, none⟩), .int .i64 n] w fun e' w1 => (∃ g, e' = .returned (.tuple #[.slice (some ⟨g, 0, none⟩) n n, .bool (n == t.bs.length), .int .i64 0]) ∧ w.heap.size ≤ g ∧ QBytes w1 g (t.bs.take n)) ∧ KR XQ B w w1 ∧
    Calls Try.prog 18 #[.pointer (some ⟨y, 0, none⟩), .int .i64 n] w1 fun r' w3 => (∃ c, r' = .returned (.tuple #[.slice (some ⟨e.g, e.tk, none⟩) n c, .bool (n == t.bs.length), .int .i64 0])) ∧ KR XQ B w1 w3 ∧ (∃ ts' E', QB w3 p y B room ts' E' ∧ E'.length = E.length) ∧ e.ok B w3 := by
  obtain ⟨e, he, h1, h2, h3, h4⟩ := h.head
  have hm := List.mem_of_getElem? he
  have hok := h.r.ent e hm
  have hg := fE_at he
  have hl : t.bs.length = e.bs.length - e.tk := by rw [h2, List.length_drop]
  have hbt := h.bt
  have hln := h.ln
  have hbc := bytesF_cons t r
  have hlo : 0 < t.bs.length ∧ t.bs.length ≤ 1000 := by
    obtain ⟨e1, e2, e3, e4, e5, e6, _⟩ := hok
    have := e4 hg
    omega
  rw [List.length_cons] at hln
  refine ⟨e, hm, h2, (take_okg n h.c h.r0 hn1 hn2 (by omega) (by omega)).mono ?_⟩
  rintro e' w1 ⟨g, rfl, hge, hqb, ho1, t', k1, k2, ⟨k3, _⟩, hq1⟩
  have hr1 := h.r.byQ ho1
  have hB1 := Nat.le_trans h.hB ho1.size
  refine ⟨⟨g, rfl, hge, hqb⟩, (ho1.kr h.hB).weaker (fun t e => by unfold XQ; rcases e with e | e; exact .inl e; exact .inr (.inl e)), (rq_take n hr1 he hn1 (by omega)).mono ?_⟩
  rintro r' w3 ⟨c, rfl, hr3, ho3⟩
  have hk3 := KR.of34 ho3 hB1
  have hok3 : e.ok B w3 := by
    obtain ⟨e1, e2, e3, e4, e5, e6, e7, cs, e8, e9⟩ := hr1.ent e hm
    exact ⟨e1, e2, e3, e4, e5, e6, e7, cs, hk3.rows _ _ _ e8 (by decide), e9⟩
  refine ⟨⟨c, by rw [hl]⟩, hk3.weaker (fun t e => by unfold XQ; rcases e with e | e <;> simp [e]), ⟨if n = t.bs.length then r else t' :: r, _, ⟨?_, hr3, h.hy, Nat.le_trans hB1 hk3.size, ?_, h.r0, h.r1, ?_, ?_, b8_set h.b8 (h.b8 e hm)⟩, by simp⟩, hok3⟩
  · rw [List.length_set]
    exact hq1.kr hk3 (by decide) (by decide) (by decide)
  · rw [live_set he, Nat.zero_add]
    by_cases c0 : n = t.bs.length
    · rw [if_pos c0, if_pos (by simp; omega), h4]
      rfl
    · rw [if_neg c0, if_neg (by simp; omega), ← h4]
      show (t'.id, t'.bs, t'.bg) :: tx r = _
      rw [k1, k2, k3, h1, h2, List.drop_drop]
      simp
      omega
  · split
    · omega
    · rw [bytesF_cons, k2, List.length_drop]; omega
  · split
    · omega
    · rw [List.length_cons]; omega
end
end Go.Proofs.Ytbcjfdhphpckfaa
namespace Go.Proofs.Ytbcjfdhphpckfaa
open Go.RowKit

section
variable {w v u : World} {p y B : Nat} {room : Int} {ts r : List Txt} {t : Txt} {E : List Ent} {n : Nat}
theorem both_bytes (h : QB w p y B room ts E) : Calls Try.prog 26 #[.pointer (some ⟨p, 0, none⟩)] w fun e w1 => e = .returned (.int .i64 (bytesF ts : Nat)) ∧ KR XQ B w w1 ∧
    Calls Try.prog 27 #[.pointer (some ⟨y, 0, none⟩)] w1 fun e w3 => e = .returned (.int .i64 (bytesF ts : Nat)) ∧ KR XQ B w1 w3 ∧ QB w3 p y B room ts E := by
  refine (qbytes_any h.c h.r0 (by have := h.bt; have := h.r1; omega)).mono ?_
  rintro e w1 ⟨rfl, hb1⟩
  have h' := h.later hb1
  refine ⟨rfl, KR.of_below h.hB hb1, (rq_bytes h'.r).mono ?_⟩
  rintro e w3 ⟨rfl, hb3⟩
  exact ⟨by rw [h.bytes], KR.of_below h'.hB hb3, h'.later hb3⟩
theorem both_ids (h : QB w p y B room ts E) : Calls Try.prog 28 #[.pointer (some ⟨p, 0, none⟩)] w fun e w1 => ∃ g, e = .returned (.slice (some ⟨g, 0, none⟩) ts.length ts.length) ∧ w.heap.size ≤ g ∧ Row w1 g 37 (idv ts).toArray ∧ KR XQ B w w1 ∧
    Calls Try.prog 29 #[.pointer (some ⟨y, 0, none⟩)] w1 fun e w3 => ∃ A c, e = .returned (.slice A ts.length c) ∧ SlAt w1.heap.size 37 w3 A (idv ts) ∧ KR XQ B w1 w3 ∧ QB w3 p y B room ts E := by
  refine (ids_any h.c h.r0 (by have := h.ln; omega)).mono ?_
  rintro e w1 ⟨g, rfl, hg, hrow, hb1⟩
  have h' := h.later hb1
  refine ⟨g, rfl, hg, hrow, KR.of_below h.hB hb1, (rq_ids h'.r).mono ?_⟩
  rintro e w3 ⟨A, c, rfl, hs3, hb3⟩
  rw [h.idl] at hs3
  rw [h.ids]
  exact ⟨A, c, rfl, hs3, KR.of_below h'.hB hb3, h'.later hb3⟩
end
end Go.Proofs.Ytbcjfdhphpckfaa
namespace Go.Proofs.Ytbcjfdhphpckfaa
open Go.RowKit

section
set_option maxRecDepth 100000 in
set_option maxHeartbeats 1600000 in
theorem qsame_any {A1 A2 : Option Addr} {B1 B2 n : Nat} (c1 c2 : Nat) (xs : List Nat) (w : World) (hn : xs.length = n) (hb : n ≤ 100000) (h1 : SlAt B1 37 w A1 (u64v xs)) (h2 : SlAt B2 37 w A2 (u64v xs)) :
    Calls Try.prog 21 #[.slice A1 n c1, .slice A2 n c2] w fun e w' => e = .returned (.bool true) ∧ Below w.heap.size w w' := by
  have H1 := Lib.hid h1
  have H2 := Lib.hid h2
  have HN := Lib.hid hn
  clear h1 h2 hn
  go_enter Try.func21, Try.ntmps21
  go_wp2
  go_loopw [5] (fun s5 wr => ∃ i : Nat, i ≤ n ∧ s5 = .int .i64 i ∧ Hid (Below w.heap.size w wr)) (fun s5 _ => n - (intOf s5).toNat)
  case atStart => exact ⟨0, by omega, rfl, Lib.hid (Below.refl _ _)⟩
  case round =>
    obtain ⟨i, hi, rfl, HB⟩ := hrel
    by_cases hlt : i < n
    · have h1 : (i : Int) < n := by omega
      have h0 : (0 : Int) ≤ i := by omega
      obtain ⟨v, hv⟩ : ∃ v, xs[i]? = some v := ⟨_, List.getElem?_eq_getElem (by rw [HN.out]; exact hlt)⟩
      have hvv : (u64v xs)[i]? = some (.int .u64 (v : Int)) := by unfold u64v; rw [List.getElem?_map, hv]; rfl
      obtain ⟨g1, rfl, z1⟩ := (H1.out.later HB.out).cell hvv
      obtain ⟨g2, rfl, z2⟩ := (H2.out.later HB.out).cell hvv
      have HLT := Lib.hid hlt
      clear hv hvv hlt
      go_wp2
      go_quiet (fail)
      go_wp2
      go_roundw
      case rel => exact ⟨i + 1, by have := HLT.out; omega, by go_num, Lib.hid (below_drewN HB.out _)⟩
      case measure => have := HLT.out; simp [intOf]; omega
    · have h1 : ¬ (i : Int) < n := by omega
      clear hlt
      go_wp2
      go_ret
      exact ⟨rfl, HB.out⟩
theorem idv_u64 (ts : List Txt) : idv ts = u64v (ts.map Txt.id) := by unfold idv u64v; rw [List.map_map]; rfl
theorem row_slat {w : World} {g m E : Nat} {xs : List Value} (hm : m ≤ g) (h : Row w g E xs.toArray) : SlAt m E w (some ⟨g, 0, none⟩) xs :=
  fun _ => ⟨g, _, rfl, hm, h, fun i u hu => by simpa using hu⟩
end
end Go.Proofs.Ytbcjfdhphpckfaa
namespace Go.Proofs.Ytbcjfdhphpckfaa
open Go.RowKit

/-- what a glue holds, and how many it lost -/
structure GS where
  held : List Nat
  lost : Nat
def GS.lose (s : GS) : GS := if s.held = [] then s else ⟨[], s.lost + 1⟩
def GS.come (s : GS) (f : List Nat) (b e : Bool) : GS :=
  if b then (if f.length ≤ 1000 then ⟨f, s.lose.lost⟩ else ⟨[], s.lose.lost + 1⟩)
  else if s.held = [] then (if e then ⟨[], s.lost + 1⟩ else s)
  else if s.held.length + f.length ≤ 1000 then ⟨s.held ++ f, s.lost⟩ else ⟨[], s.lost + 1⟩
def GS.told (s : GS) (e : Bool) : GS × List (List Nat) := if e then (if s.held = [] then (s, []) else (⟨[], s.lost⟩, [s.held])) else (s, [])
def beg (fi : Nat) (k : Nat) : Bool := decide (0 < k) || (fi / 2 % 2 == 0)
def fin (fi : Nat) (n k : Nat) : Bool := decide (k + 1 < n) || (fi % 2 == 0)
/-- fields come, from field k of n on -/
def goG (fi n : Nat) : Nat → List (List Nat) → GS → GS × List (List Nat)
  | _, [], s => (s, [])
  | k, f :: r, s =>
    let y := (s.come f (beg fi k) (fin fi n k)).told (fin fi n k)
    let z := goG fi n (k + 1) r y.1
    (z.1, y.2 ++ z.2)
def putG (fi : Nat) (fs : List (List Nat)) (gap : Bool) (s : GS) : GS × List (List Nat) := goG fi fs.length 0 fs (if gap then s.lose else s)
theorem GS.come_short (s : GS) (f : List Nat) (b e : Bool) (_h : s.held.length ≤ 1000) : (s.come f b e).held.length ≤ 1000 := by
  unfold GS.come
  repeat' split
  all_goals simp_all
theorem GS.lose_short (s : GS) (_h : s.held.length ≤ 1000) : s.lose.held.length ≤ 1000 := by
  unfold GS.lose
  split <;> simp_all
theorem GS.lose_lost (s : GS) : s.lost ≤ s.lose.lost ∧ s.lose.lost ≤ s.lost + 1 := by
  unfold GS.lose
  split <;> simp
theorem GS.come_lost (s : GS) (f : List Nat) (b e : Bool) : s.lost ≤ (s.come f b e).lost ∧ (s.come f b e).lost ≤ s.lost + 2 := by
  have := s.lose_lost
  unfold GS.come
  repeat' split
  all_goals simp_all
  all_goals omega
end Go.Proofs.Ytbcjfdhphpckfaa
namespace Go.Proofs.Ytbcjfdhphpckfaa
open Go.RowKit

def GS1 (p : Nat) (hv : Value) (k : Nat) : Prop := k = p ∨ hv.ownBlock = some k
def GNext (w : World) (hv hv' : Value) : Prop := ∀ k, hv'.ownBlock = some k → hv.ownBlock = some k ∨ w.heap.size ≤ k
theorem GNext.refl (w : World) (hv : Value) : GNext w hv hv := fun _ h => .inl h
theorem GNext.nil (w : World) (hv : Value) : GNext w hv (.slice none 0 0) := fun _ h => by simp [Value.ownBlock] at h
theorem ownY_nil (B : Nat) (w : World) : OwnY B w (.slice none 0 0) [] := ⟨by simp [bts], .inl ⟨rfl, rfl⟩⟩
theorem set_only {w : World} {p : Nat} (i : Nat) (x : Value) : Only (fun k => k = p) w (w.setCell ⟨p, i, none⟩ x) := (Only.refl (fun k => k = p) w).set (p := ⟨p, i, none⟩) (.inl rfl) x
theorem held_len {s : GS} : s.held = [] ↔ s.held.length = 0 := by simp
end Go.Proofs.Ytbcjfdhphpckfaa
namespace Go.Proofs.Ytbcjfdhphpckfaa
open Go.RowKit

section
variable {B p : Nat} {w : World} {hv : Value} {s : GS}
end
theorem lose_held (s : GS) : s.lose.held = [] := by
  unfold GS.lose
  split
  · assumption
  · rfl
section
variable {B p : Nat} {w : World} {hv : Value} {s : GS} {F : Option Addr} {f : List Nat}
end
end Go.Proofs.Ytbcjfdhphpckfaa
namespace Go.Proofs.Ytbcjfdhphpckfaa
open Go.RowKit

theorem clipb_any {A : Option Addr} (n c : Nat) (w : World) (hc : n ≤ c) : Calls Try.prog 259 #[.slice A n c] w fun e w' => e = .returned (.slice A n n) ∧ w = w' := by
  cases A with
  | none =>
    go_enter Try.func259, Try.ntmps259
    go_wp2
    go_ret
    exact ⟨rfl, rfl⟩
  | some a =>
    go_enter Try.func259, Try.ntmps259
    go_wp2
    go_ret
    exact ⟨rfl, rfl⟩
theorem own_rows_apart {w : World} {B B' e e' z z' n n' : Nat} {v v' : Value} {xs xs' : List Value} (h : w.ownsRow B e z v n xs) (h' : w.ownsRow B' e' z' v' n' xs') (hne : e ≠ e') : ∀ k, v.ownBlock = some k → v'.ownBlock ≠ some k := by
  intro k hk
  rcases h.2 with ⟨rfl, _⟩ | ⟨g, cap, cur, rfl, _, hh, _⟩
  · simp [Value.ownBlock] at hk
  · have e1 : g = k := by simpa [Value.ownBlock] using hk
    subst e1
    exact own_apart h' (show Row w g e cur from hh) (fun e => hne e.symm)
/-- a text that was told: its bytes lie in a block that is not the held one -/
def TOk (B : Nat) (w : World) (hv : Value) (r : RowB) : Prop := ∃ (g : Nat) (cs : Array Value), r.A = some ⟨g, 0, none⟩ ∧ B ≤ g ∧ hv.ownBlock ≠ some g ∧ r.bs.length ≤ r.cap ∧ r.cap ≤ 9223372036854775807 ∧ Row w g 5 cs ∧ ∀ (j b : Nat), r.bs[j]? = some b → cs[j]? = some (Value.int .u8 (b : Nat))
theorem add_pl (b o j : Nat) : (⟨b, o, none⟩ : Addr).add j = ⟨b, o + j, none⟩ := by
  unfold Addr.add
  split
  · rename_i h
    subst h
    rfl
  · rfl
theorem TOk.src {B : Nat} {w : World} {hv : Value} {r : RowB} (h : TOk B w hv r) : Src w r.A (bts r.bs) := by
  obtain ⟨g, cs, h1, _, _, _, _, h4, h5⟩ := h
  intro _
  refine ⟨⟨g, 0, none⟩, h1, fun j u hu => ?_⟩
  have hj : j < r.bs.length := by have := (List.getElem?_eq_some_iff.1 hu).1; rw [length_bts] at this; exact this
  have hb := bts_at (List.getElem?_eq_getElem hj)
  rw [hu] at hb
  injection hb with hb
  rw [hb, add_pl, Nat.zero_add]
  exact h4.read (h5 j _ (List.getElem?_eq_getElem hj))
theorem TOk.step {B : Nat} {w v : World} {hv hv' : Value} {r : RowB} {S : Nat → Prop} (h : TOk B w hv r) (ho : Only S w v) (hS : ∀ g cs, Row w g 5 cs → hv.ownBlock ≠ some g → ¬ S g) (hg : GNext w hv hv') : TOk B v hv' r := by
  obtain ⟨g, cs, h1, h2, h3, h4, h5, h6, h7⟩ := h
  refine ⟨g, cs, h1, h2, fun e => ?_, h4, h5, h6.only ho (hS g cs h6 h3), h7⟩
  have := h6.inside
  rcases hg g e with h9 | h9
  · exact h3 h9
  · omega
def GS2 (p tb : Nat) (hv tv : Value) (k : Nat) : Prop := (k = p ∨ hv.ownBlock = some k) ∨ k = tb ∨ tv.ownBlock = some k
end Go.Proofs.Ytbcjfdhphpckfaa
namespace Go.Proofs.Ytbcjfdhphpckfaa
open Go.RowKit

theorem Only.draw {w : World} {S : Nat → Prop} : Only S w w.drew := Only.drew (Only.refl _ _)
theorem told_no {s : GS} (h : s.held = []) (e : Bool) : s.told e = (s, []) := by
  unfold GS.told
  rw [if_pos h]
  cases e <;> rfl
theorem told_yes {s : GS} (h : s.held ≠ []) : s.told true = (⟨[], s.lost⟩, [s.held]) := by
  unfold GS.told
  rw [if_neg h]
  rfl
end Go.Proofs.Ytbcjfdhphpckfaa
namespace Go.Proofs.Ytbcjfdhphpckfaa
open Go.RowKit

end Go.Proofs.Ytbcjfdhphpckfaa
namespace Go.Proofs.Ytbcjfdhphpckfaa
open Go.RowKit

/-- what is handed in may be -/
def okG (fi : Int) (ls : List Nat) : Bool := decide (0 ≤ fi) && decide (fi ≤ 3) && decide (0 < ls.length) && decide (ls.length ≤ 24) && !decide (0 ∈ ls)
end Go.Proofs.Ytbcjfdhphpckfaa
namespace Go.Proofs.Ytbcjfdhphpckfaa
open Go.RowKit

theorem told_lost (s : GS) (e : Bool) : (s.told e).1.lost = s.lost := by
  unfold GS.told
  split
  · split <;> rfl
  · rfl
theorem told_short (s : GS) (e : Bool) (h : s.held.length ≤ 1000) : (s.told e).1.held.length ≤ 1000 := by
  unfold GS.told
  split
  · split <;> simp_all
  · exact h
theorem told_one (s : GS) (e : Bool) : (s.told e).2.length ≤ 1 := by
  unfold GS.told
  split
  · split <;> simp
  · simp
theorem clipr_any {A : Option Addr} (n c : Nat) (w : World) (hc : n ≤ c) : Calls Try.prog 116 #[.slice A n c] w fun e w' => e = .returned (.slice A n n) ∧ w = w' := by
  cases A with
  | none =>
    go_enter Try.func116, Try.ntmps116
    go_wp2
    go_ret
    exact ⟨rfl, rfl⟩
  | some a =>
    go_enter Try.func116, Try.ntmps116
    go_wp2
    go_ret
    exact ⟨rfl, rfl⟩
/-- the state, and what was told, behind field k -/
def goTo (fi n : Nat) (fs : List (List Nat)) (s : GS) : Nat → GS × List (List Nat)
  | 0 => (s, [])
  | k + 1 =>
    let z := goTo fi n fs s k
    let y := (z.1.come (fs.getD k []) (beg fi k) (fin fi n k)).told (fin fi n k)
    (y.1, z.2 ++ y.2)
theorem goTo_split (fi n : Nat) (fs : List (List Nat)) (s : GS) : ∀ k j, k + j = fs.length → ((goG fi n k (fs.drop k) (goTo fi n fs s k).1).1, (goTo fi n fs s k).2 ++ (goG fi n k (fs.drop k) (goTo fi n fs s k).1).2) = goTo fi n fs s fs.length := by
  intro k j
  induction j generalizing k with
  | zero =>
    intro h
    have e : fs.length = k := by omega
    rw [List.drop_of_length_le (by omega), e]
    simp [goG]
  | succ j ih =>
    intro h
    have hk : k < fs.length := by omega
    have e : fs.drop k = fs.getD k [] :: fs.drop (k + 1) := by
      rw [List.drop_eq_getElem_cons hk, List.getD_eq_getElem?_getD, List.getElem?_eq_getElem hk]
      rfl
    rw [← ih (k + 1) (by omega), e]
    simp only [goG, goTo, List.append_assoc]
theorem goTo_all (fi n : Nat) (fs : List (List Nat)) (s : GS) : goTo fi n fs s fs.length = goG fi n 0 fs s := by
  have h := goTo_split fi n fs s 0 fs.length (by omega)
  rw [← h]
  simp [goTo]
theorem goTo_facts (fi n : Nat) (fs : List (List Nat)) (s : GS) (hs : s.held.length ≤ 1000) (k : Nat) : (goTo fi n fs s k).1.held.length ≤ 1000 ∧ (goTo fi n fs s k).1.lost ≤ s.lost + 2 * k ∧ (goTo fi n fs s k).2.length ≤ k := by
  induction k with
  | zero => exact ⟨hs, by simp [goTo], by simp [goTo]⟩
  | succ k ih =>
    obtain ⟨h1, h2, h3⟩ := ih
    simp only [goTo]
    refine ⟨told_short _ _ (GS.come_short _ _ _ _ h1), ?_, ?_⟩
    · rw [told_lost]
      have := (goTo fi n fs s k).1.come_lost (fs.getD k []) (beg fi k) (fin fi n k)
      omega
    · rw [List.length_append]
      have := told_one ((goTo fi n fs s k).1.come (fs.getD k []) (beg fi k) (fin fi n k)) (fin fi n k)
      omega
theorem come_bytes {s : GS} {f : List Nat} {b e : Bool} (h : ∀ x ∈ s.held, x < 256) (hf : ∀ x ∈ f, x < 256) : ∀ x ∈ (s.come f b e).held, x < 256 := by
  unfold GS.come
  repeat' split
  all_goals simp_all
  all_goals (intro x hx; exact hx.elim (h x) (hf x))
theorem told_bytes {s : GS} {e : Bool} (h : ∀ x ∈ s.held, x < 256) : (∀ x ∈ (s.told e).1.held, x < 256) ∧ ∀ t ∈ (s.told e).2, ∀ x ∈ t, x < 256 := by
  unfold GS.told
  split
  · split
    · exact ⟨h, by simp⟩
    · exact ⟨by simp, by simpa using h⟩
  · exact ⟨h, by simp⟩
theorem goTo_bytes (fi n : Nat) (fs : List (List Nat)) (s : GS) (hs : ∀ x ∈ s.held, x < 256) (hf : ∀ f ∈ fs, ∀ x ∈ f, x < 256) (k : Nat) : (∀ x ∈ (goTo fi n fs s k).1.held, x < 256) ∧ ∀ t ∈ (goTo fi n fs s k).2, ∀ x ∈ t, x < 256 := by
  induction k with
  | zero => exact ⟨hs, by simp [goTo]⟩
  | succ k ih =>
    simp only [goTo]
    have hk : ∀ x ∈ fs.getD k [], x < 256 := by
      rw [List.getD_eq_getElem?_getD]
      rcases Nat.lt_or_ge k fs.length with h | h
      · rw [List.getElem?_eq_getElem h]
        exact hf _ (List.getElem_mem h)
      · rw [List.getElem?_eq_none h]
        simp
    have h1 := told_bytes (e := fin fi n k) (come_bytes (b := beg fi k) (e := fin fi n k) ih.1 hk)
    refine ⟨h1.1, fun t ht => ?_⟩
    rw [List.mem_append] at ht
    rcases ht with ht | ht
    · exact ih.2 t ht
    · exact h1.2 t ht
theorem texts_getD {L : List RowB} {k : Nat} {r : RowB} (h : L[k]? = some r) : (texts L).getD k [] = r.bs := by
  rw [List.getD_eq_getElem?_getD, texts_at h]
  rfl
end Go.Proofs.Ytbcjfdhphpckfaa
namespace Go.Proofs.Ytbcjfdhphpckfaa
open Go.RowKit

/-- what was told lies in memory that the glue has left -/
def ToldIs (B : Nat) (w : World) (hv : Value) (A : Option Addr) (L : List RowB) : Prop :=
  (∃ C c, w.ownsRow C 34 1 (.slice A L.length c) L.length (L.map RowB.v)) ∧ ∀ r ∈ L, TOk B w hv r
theorem ToldIs.later {B : Nat} {w v : World} {hv : Value} {A : Option Addr} {L : List RowB} (h : ToldIs B w hv A L) (hb : Below w.heap.size w v) : ToldIs B v hv A L := by
  obtain ⟨⟨C, c, a4⟩, a5⟩ := h
  exact ⟨⟨C, c, own_later2 a4 hb⟩, fun r hr => (a5 r hr).step (S := fun _ => False) (.of_below hb) (fun _ _ _ _ h => h) (GNext.refl _ _)⟩
theorem ToldIs.src {B : Nat} {w : World} {hv : Value} {A : Option Addr} {L : List RowB} (h : ToldIs B w hv A L) (hb : ∀ t ∈ texts L, ∀ x ∈ t, x < 256) : RSrc w A L := by
  obtain ⟨⟨C, c, h4⟩, h5⟩ := h
  have hok : ∀ r ∈ L, r.ok w := fun r hr => by
    have h9 := h5 r hr
    obtain ⟨g, cs, _, _, _, k1, k2, _⟩ := id h9
    exact ⟨h9.src, k1, k2, hb r.bs (List.mem_map.2 ⟨r, hr, rfl⟩)⟩
  rcases h4.2 with ⟨e, h0⟩ | ⟨g, cap, cur, e, _, _, h1, _, _⟩
  · intro h9
    omega
  · injection e with e1 e2 e3
    subst e1
    exact fun _ => ⟨_, rfl, fun k r hr => ⟨h4.cells (g := g) rfl k _ (by rw [List.getElem?_map, hr]; rfl), hok r (List.mem_of_getElem? hr)⟩⟩
theorem texts_one {L : List RowB} {t : List Nat} (h : texts L = [t]) : ∃ r, L = [r] ∧ r.bs = t := by
  match L, h with
  | [r], h =>
    refine ⟨r, rfl, ?_⟩
    simpa [texts] using h
theorem texts_nil {L : List RowB} (h : texts L = []) : L = [] := by
  simpa [texts] using h
/-- a row, marked or not -/
def RowF (w : World) (g : Nat) (t : TypeId) (cs : Array Value) : Prop := ∃ fr, w.heap[g]? = some (.cells cs t fr)
theorem RowF.of {w : World} {g : Nat} {t : TypeId} {cs : Array Value} (h : Row w g t cs) : RowF w g t cs := ⟨_, h⟩
theorem RowF.inside {w : World} {g : Nat} {t : TypeId} {cs : Array Value} (h : RowF w g t cs) : g < w.heap.size := by
  obtain ⟨fr, h⟩ := h
  rcases Nat.lt_or_ge g w.heap.size with h1 | h1
  · exact h1
  · exfalso
    rw [Array.getElem?_eq_none h1] at h
    cases h
theorem RowF.made (w : World) (t : TypeId) (cs : Array Value) (fr : Nat × Nat) : RowF (w.alloc (.cells cs t fr)) w.heap.size t cs := ⟨fr, heap_alloc_new w _⟩
theorem RowF.made1 (w : World) (o : Obj) (t : TypeId) (cs : Array Value) (fr : Nat × Nat) : RowF ((w.alloc o).alloc (.cells cs t fr)) (w.heap.size + 1) t cs := by
  have h := RowF.made (w.alloc o) t cs fr
  have e : (w.alloc o).heap.size = w.heap.size + 1 := by simp
  rw [e] at h
  exact h
theorem RowF.only {S : Nat → Prop} {w v : World} {g : Nat} {t : TypeId} {cs : Array Value} (h : RowF w g t cs) (ho : Only S w v) (hg : ¬ S g) : RowF v g t cs := by
  have hi := h.inside
  obtain ⟨fr, h⟩ := h
  exact ⟨fr, (ho.same g hi hg).trans h⟩
theorem RowF.later {w v : World} {g : Nat} {t : TypeId} {cs : Array Value} (h : RowF w g t cs) (hb : Below w.heap.size w v) : RowF v g t cs := h.only (S := fun _ => False) (.of_below hb) (fun h => h)
theorem RowF.more {w : World} {g : Nat} {t : TypeId} {cs : Array Value} (h : RowF w g t cs) (o : Obj) : RowF (w.alloc o) g t cs := h.later (bl_alloc (Below.refl _ _) o)
theorem RowF.src {w : World} {g : Nat} {l : List Nat} (h : RowF w g 5 (bts l).toArray) : Src w (some ⟨g, 0, none⟩) (bts l) := fun _ => ⟨_, rfl, fun j u hu => by
  obtain ⟨fr, h⟩ := h
  rw [add_zero_addr]
  exact (cell_of_row w g j _ 5 fr h).trans (by rw [List.getElem?_toArray]; exact hu)⟩
theorem g_ok {w : World} {g : Nat} {l : List Nat} (h : RowF w g 5 (bts l).toArray) (hb : ∀ b ∈ l, b < 256) (hl : l.length ≤ 9223372036854775807) : RowB.ok w ⟨some ⟨g, 0, none⟩, l.length, l⟩ := ⟨h.src, Nat.le_refl _, hl, hb⟩
theorem g_rsrc {w : World} {g : Nat} {L : List RowB} (h : Row w g 34 (L.map RowB.v).toArray) (hok : ∀ r ∈ L, r.ok w) : RSrc w (some ⟨g, 0, none⟩) L := fun _ => ⟨_, rfl, fun k r hr => ⟨by
  rw [add_zero_addr]
  exact h.read (by rw [List.getElem?_toArray, List.getElem?_map, hr]; rfl), hok r (List.mem_of_getElem? hr)⟩⟩
end Go.Proofs.Ytbcjfdhphpckfaa
namespace Go.Proofs.Ytbcjfdhphpckfaa
open Go.RowKit

theorem RowF.q {B : Nat} {w v : World} {g : Nat} {t : TypeId} {cs : Array Value} (h : RowF w g t cs) (h1 : t ≠ 51) (h2 : t ≠ 177) (ho : QOnly B w v) : RowF v g t cs :=
  h.only ho (fun ⟨_, t', cs', hr, ht⟩ => by
    obtain ⟨fr, h⟩ := h
    unfold Row at hr
    rw [h] at hr
    injection hr with hr
    injection hr with _ hr
    subst hr
    rcases ht with ht | ht
    · exact h1 ht
    · exact h2 ht)
theorem qb_src {w : World} {g : Nat} {l : List Nat} (h : QBytes w g l) : Src w (some ⟨g, 0, none⟩) (bts l) := by
  obtain ⟨cs, h1, h2⟩ := h
  intro _
  refine ⟨_, rfl, fun j u hu => ?_⟩
  have hj : j < l.length := by have := (List.getElem?_eq_some_iff.1 hu).1; rw [length_bts] at this; exact this
  have hb := bts_at (List.getElem?_eq_getElem hj)
  rw [hu] at hb
  injection hb with hb
  rw [hb, add_zero_addr]
  exact h1.read (h2 j _ (List.getElem?_eq_getElem hj))
theorem qb_conv {w : World} {g : Nat} {l : List Nat} (n c : Nat) (hl : l.length = n) (h : QBytes w g l) (hb : ∀ b ∈ l, b < 256) : (convert 34 9 (.slice (some ⟨g, 0, none⟩) n c)).run Try.prog w = .ok (.string (strOf l)) w := conv_src n c hl (qb_src h) hb
def us1 : Cf := ⟨1, 5, 16, 4, 0, 0, 0, 0, 0, 5000⟩
theorem us1_any (w : World) : Calls Try.prog 140 #[.int .i64 1] w fun e w' => e = .returned (.agg us1.a) ∧ Below w.heap.size w w' := pusual_any 1 w
end Go.Proofs.Ytbcjfdhphpckfaa
namespace Go.Proofs.Ytbcjfdhphpckfaa
open Go.RowKit

section
variable {w v : World} {p y B : Nat} {room : Int} {ts r : List Txt} {t : Txt} {E : List Ent} {e : Ent}
theorem both_qnew (h : QRep B w p room 0 []) (h1 : 1 ≤ room) (h2 : room ≤ 20000) (hB : B ≤ w.heap.size) : QB (w.alloc (.cells #[.int .i64 room, .slice none 0 0, .slice none 0 0, .slice none 0 0] 33)) p w.heap.size B room [] [] := by
  have hb := bl_alloc (Below.refl w.heap.size w) (.cells #[.int .i64 room, .slice none 0 0, .slice none 0 0, .slice none 0 0] 33)
  refine ⟨h.later hb, ⟨⟨none, 0, none, 0, none, 0, Row.made w _ _, ⟨World.ownsRow_nil _ _ _ _, World.ownsRow_nil _ _ _ _, World.ownsRow_nil _ _ _ _⟩⟩, (fun e he => by cases he), by simp⟩, hB, Nat.le_trans hB hb.size, rfl, by omega, h2, by simp [bytesF]; omega, by simp, fun e he => by cases he⟩
/-- an entry's bytes from where it is taken on, the first n of them, as a string -/
theorem Ent.conv (h : e.ok B w) (hb : ∀ b ∈ e.bs, b < 256) (n c : Nat) (hn : e.tk + n ≤ e.bs.length) : (convert 34 9 (.slice (some ⟨e.g, e.tk, none⟩) n c)).run Try.prog w = .ok (.string (strOf ((e.bs.drop e.tk).take n))) w := by
  obtain ⟨e1, e2, e3, e4, e5, e6, e7, cs, e8, e9⟩ := h
  refine conv_src n c (by rw [List.length_take, List.length_drop]; omega) (qsrc_src fun _ => ⟨e.g, e.tk, rfl, fun j u hu => ?_⟩) (fun b hb' => hb b (List.mem_of_mem_drop (List.mem_of_mem_take hb')))
  unfold qbts at hu
  rw [List.getElem?_map] at hu
  obtain ⟨b, hb', rfl⟩ := Option.map_eq_some_iff.1 hu
  rw [List.getElem?_take] at hb'
  split at hb'
  · rw [List.getElem?_drop] at hb'
    exact e8.read (e9 _ _ hb')
  · cases hb'
theorem Ent.conv_rest (h : e.ok B w) (hb : ∀ b ∈ e.bs, b < 256) (c : Nat) : (convert 34 9 (.slice (some ⟨e.g, e.tk, none⟩) (e.bs.drop e.tk).length c)).run Try.prog w = .ok (.string (strOf (e.bs.drop e.tk))) w := by
  have h1 := Ent.conv h hb (e.bs.drop e.tk).length c (by rw [List.length_drop]; have := h.2.2.1; omega)
  rw [List.take_length] at h1
  exact h1
/-- a row of no type of either queue's stays -/
theorem KR.other {X : TypeId → Prop} (h : KR X B w v) {g : Nat} {t : TypeId} {cs : Array Value} (hr : Row w g t cs) (ht : ¬ X t) : Row v g t cs := h.rows g t cs hr ht
end
end Go.Proofs.Ytbcjfdhphpckfaa
namespace Go.Proofs.Ytbcjfdhphpckfaa
open Go.RowKit

/-- a call: what, a number, bytes -/
structure OpB where
  k : Int
  n : Int
  r : RowB
/-- where calls lie -/
def BSrc04 (w : World) (A : Option Addr) (l : List OpB) : Prop :=
  0 < l.length → ∃ b off, A = some ⟨b, off, none⟩ ∧ ∀ k o, l[k]? = some o → w.cell? ⟨b, off + k * 3, none⟩ = some (.int .i64 o.k) ∧ w.cell? ⟨b, off + k * 3 + 1, none⟩ = some (.int .i64 o.n) ∧ w.cell? ⟨b, off + k * 3 + 2, none⟩ = some o.r.v ∧ o.r.ok w
end Go.Proofs.Ytbcjfdhphpckfaa
