/-
  umtx: each call by the queue's; of none. The document's queue: Take, with the room behind what is taken. The document's cutter: its queue's first text, by the texts that wait; a piece while it is built.
-/
import Derived.Test.YtjonkpdjhjobfaaJUmtxLives16
import Derived.Test.YtjonkpdjhjobfaaJUmtxLives18
import Derived.Test.YtjonkpdjhjobfaaJUmtxLives15
import Derived.Test.YtjonkpdjhjobfaaJUmtxLives11
namespace Go.Proofs.Ytjonkpdjhjobfaa
open Go.RowKit

section
variable {w : World} {X v : Option Addr} {c : Cf}
set_option maxRecDepth 100000 in
set_option maxHeartbeats 800000 in
theorem via_upush {P : World → Int → Int → World → Prop} {S : Value} (hq : Calls Try.prog 81 #[.pointer X] w fun e w' => e = .returned (.agg (MCells c (.pointer v))) ∧ Below w.heap.size w w')
    (H : ∀ u, Below w.heap.size w u → ∃ (a : Int) (b : Int), Calls Try.prog 82 #[.pointer v, S] u fun e w1 => e = .returned (.tuple #[.int .u64 a, .int .i64 b]) ∧ P u a b w1) :
    Calls Try.prog 12 #[.pointer X, S] w fun e w' => ∃ (u : World) (a : Int) (b : Int), e = .returned (.tuple #[.int .u64 a, .int .i64 b]) ∧ Below w.heap.size w u ∧ P u a b w' := by
  have HQ := Lib.hid hq
  have HP := Lib.hid H
  obtain ⟨mode, bits, win, reo, prx, pro, ppd, pby, mrx, qb⟩ := c
  unfold MCells at HQ
  simp only at HQ
  have hfd := field_queue mode bits win reo prx pro ppd pby mrx qb v
  clear hq H
  go_enter Try.func12, Try.ntmps12
  go_wp2_with (first
    | (go_at_call 81; (with_reducible refine HQ.out.mono ?_); rintro e w1 ⟨rfl, hb1⟩; (obtain ⟨a, b, hc1⟩ := HP.out w1 hb1; have HB1 := Lib.hid hb1; have HC1 := Lib.hid hc1; clear hb1 hc1))
    | (go_at_call 82; (with_reducible refine HC1.out.mono ?_); rintro e w2 ⟨rfl, hp⟩; (have H1 := Lib.hid hp; clear hp)))
  go_ret2
  exact ⟨w1, a, b, rfl, HB1.out, H1.out⟩
set_option maxRecDepth 100000 in
set_option maxHeartbeats 800000 in
theorem via_udisc {P : World → Int → World → Prop} {S : Value} (hq : Calls Try.prog 81 #[.pointer X] w fun e w' => e = .returned (.agg (MCells c (.pointer v))) ∧ Below w.heap.size w w')
    (H : ∀ u, Below w.heap.size w u → ∃ (a : Int), Calls Try.prog 88 #[.pointer v, S] u fun e w1 => e = .returned (.int .i64 a) ∧ P u a w1) :
    Calls Try.prog 14 #[.pointer X, S] w fun e w' => ∃ (u : World) (a : Int), e = .returned (.int .i64 a) ∧ Below w.heap.size w u ∧ P u a w' := by
  have HQ := Lib.hid hq
  have HP := Lib.hid H
  obtain ⟨mode, bits, win, reo, prx, pro, ppd, pby, mrx, qb⟩ := c
  unfold MCells at HQ
  simp only at HQ
  have hfd := field_queue mode bits win reo prx pro ppd pby mrx qb v
  clear hq H
  go_enter Try.func14, Try.ntmps14
  go_wp2_with (first
    | (go_at_call 81; (with_reducible refine HQ.out.mono ?_); rintro e w1 ⟨rfl, hb1⟩; (obtain ⟨a, hc1⟩ := HP.out w1 hb1; have HB1 := Lib.hid hb1; have HC1 := Lib.hid hc1; clear hb1 hc1))
    | (go_at_call 88; (with_reducible refine HC1.out.mono ?_); rintro e w2 ⟨rfl, hp⟩; (have H1 := Lib.hid hp; clear hp)))
  go_ret
  exact ⟨w1, a, rfl, HB1.out, H1.out⟩
set_option maxRecDepth 100000 in
set_option maxHeartbeats 800000 in
theorem via_ubytes {P : World → Int → World → Prop} (hq : Calls Try.prog 81 #[.pointer X] w fun e w' => e = .returned (.agg (MCells c (.pointer v))) ∧ Below w.heap.size w w')
    (H : ∀ u, Below w.heap.size w u → ∃ (a : Int), Calls Try.prog 89 #[.pointer v] u fun e w1 => e = .returned (.int .i64 a) ∧ P u a w1) :
    Calls Try.prog 15 #[.pointer X] w fun e w' => ∃ (u : World) (a : Int), e = .returned (.int .i64 a) ∧ Below w.heap.size w u ∧ P u a w' := by
  have HQ := Lib.hid hq
  have HP := Lib.hid H
  obtain ⟨mode, bits, win, reo, prx, pro, ppd, pby, mrx, qb⟩ := c
  unfold MCells at HQ
  simp only at HQ
  have hfd := field_queue mode bits win reo prx pro ppd pby mrx qb v
  clear hq H
  go_enter Try.func15, Try.ntmps15
  go_wp2_with (first
    | (go_at_call 81; (with_reducible refine HQ.out.mono ?_); rintro e w1 ⟨rfl, hb1⟩; (obtain ⟨a, hc1⟩ := HP.out w1 hb1; have HB1 := Lib.hid hb1; have HC1 := Lib.hid hc1; clear hb1 hc1))
    | (go_at_call 89; (with_reducible refine HC1.out.mono ?_); rintro e w2 ⟨rfl, hp⟩; (have H1 := Lib.hid hp; clear hp)))
  go_ret
  exact ⟨w1, a, rfl, HB1.out, H1.out⟩
set_option maxRecDepth 100000 in
set_option maxHeartbeats 800000 in
theorem usource_nil (w : World) : Calls Try.prog 81 #[.pointer none] w fun e w' => e = .returned (.agg (MCells ⟨0, 0, 0, 0, 0, 0, 0, 0, 0, 0⟩ (.pointer none))) ∧ Below w.heap.size w w' := by
  unfold MCells
  go_enter Try.func81, Try.ntmps81
  go_wp2
  obtain ⟨dd, hdd⟩ := undersrc_parts
  refine bodyPost_ret (results_cell_row rfl _ _ w.heap.size 32 #[.int .i64 0, .int .i64 0, .int .i64 0, .int .i64 0, .int .i64 0, .int .i64 0, .int .i64 0, .int .i64 0, .int .i64 0, .int .i64 0, .pointer none] (0, 0) (.struct dd) rfl (Row.made _ _ _) hdd rfl Try.infosrc) rfl ?_
  exact ⟨rfl, bl_alloc (Below.refl _ _) _⟩
set_option maxRecDepth 100000 in
set_option maxHeartbeats 800000 in
theorem ufault_nil (g : Int) (w : World) : Calls Try.prog 83 #[.agg (MCells c (.pointer none)), .int .i64 g] w fun e w' => e = .returned (.int .i64 6) ∧ Below w.heap.size w w' := by
  obtain ⟨mode, bits, win, reo, prx, pro, ppd, pby, mrx, qb⟩ := c
  unfold MCells
  have HROW := Lib.hid (Row.made w 32 #[.int .i64 mode, .int .i64 bits, .int .i64 win, .int .i64 reo, .int .i64 prx, .int .i64 pro, .int .i64 ppd, .int .i64 pby, .int .i64 mrx, .int .i64 qb, .pointer none])
  obtain ⟨c0, c1, c2, c3, c4, c5, c6, c7, c8, c9, c10⟩ := mcell_reads HROW.out
  go_enter Try.func83, Try.ntmps83
  go_wp2
  go_ret
  exact ⟨rfl, bl_alloc (Below.refl _ _) _⟩
set_option maxRecDepth 100000 in
set_option maxHeartbeats 1600000 in
theorem ubuild_of_none (g : Int) (hq : Calls Try.prog 81 #[.pointer X] w fun e w' => e = .returned (.agg (MCells c (.pointer none))) ∧ Below w.heap.size w w') :
    Calls Try.prog 13 #[.pointer X, .int .i64 g] w fun e w' => e = .returned (.tuple #[.slice none 0 0, .slice none 0 0, .int .i64 6]) ∧ Below w.heap.size w w' := by
  have HQ := Lib.hid hq
  have HP := Lib.hid (fun W => ufault_nil (c := c) g W)
  obtain ⟨mode, bits, win, reo, prx, pro, ppd, pby, mrx, qb⟩ := c
  unfold MCells at HQ HP
  simp only at HQ HP
  clear hq
  go_enter Try.func13, Try.ntmps13
  go_wp2_with (first
    | (go_at_call 81; (with_reducible refine HQ.out.mono ?_); rintro e w1 ⟨rfl, hb1⟩; (have HB1 := Lib.hid hb1; have HROW := Lib.hid (Row.made w1 32 #[.int .i64 mode, .int .i64 bits, .int .i64 win, .int .i64 reo, .int .i64 prx, .int .i64 pro, .int .i64 ppd, .int .i64 pby, .int .i64 mrx, .int .i64 qb, .pointer none]); obtain ⟨c0, c1, c2, c3, c4, c5, c6, c7, c8, c9, c10⟩ := mcell_reads HROW.out; clear hb1))
    | (go_at_call 83; (with_reducible refine (HP.out _).mono ?_); rintro e w2 ⟨rfl, hb2⟩; (have HB2 := Lib.hid (bl_step (bl_alloc HB1.out _) hb2); clear hb2 c0 c1 c2 c3 c4 c5 c6 c7 c8 c9 c10)))
  go_ret3
  exact ⟨rfl, HB2.out⟩
theorem unext_nil (w : World) : Calls Try.prog 16 #[.pointer none] w fun e w' => e = .returned (.int .i64 0) ∧ w = w' := by
  go_enter Try.func16, Try.ntmps16
  go_wp2
  go_ret
  exact ⟨rfl, rfl⟩
theorem ureset_nil (w : World) : Calls Try.prog 17 #[.pointer none] w fun e w' => e = .returned (.slice none 0 0) ∧ w = w' := by
  go_enter Try.func17, Try.ntmps17
  go_wp2
  go_ret
  exact ⟨rfl, rfl⟩
set_option maxRecDepth 100000 in
set_option maxHeartbeats 800000 in
theorem ureset_zero {x : Nat} (h : Row w x 34 (SCells c (.pointer none) 0)) : Calls Try.prog 17 #[.pointer (some ⟨x, 0, none⟩)] w fun e w' => e = .returned (.slice none 0 0) ∧ w' = w.setCell ⟨x, 11, none⟩ (.int .i64 0) := by
  have f2 := h.free 11
  have c2 := h.read (i := 11) (x := .int .i64 0) rfl
  have c3 := (h.written 11 (.int .i64 0)).read (i := 10) (x := .pointer none) rfl
  clear h
  go_enter Try.func17, Try.ntmps17
  go_wp2_with (go_at_call 90; (with_reducible refine (clear_nil _).mono ?_); rintro e w1 ⟨rfl, rfl⟩)
  go_ret
  exact ⟨rfl, by first | rfl | simp⟩
end
end Go.Proofs.Ytjonkpdjhjobfaa
namespace Go.Proofs.Ytjonkpdjhjobfaa
open Go.RowKit

section
variable {w v : World} {y B : Nat} {room : Int} {E : List Ent} {AL AT AG : Option Addr} {cL cT cG : Nat}
set_option maxRecDepth 100000 in
set_option maxHeartbeats 6400000 in
theorem rq_takec (n : Nat) (h : RQ w y B room E) {e : Ent} (he : E[fE E]? = some e) (hn1 : 1 ≤ n) (hn2 : n ≤ e.bs.length - e.tk) : Calls Try.prog 170 #[.pointer (some ⟨y, 0, none⟩), .int .i64 n] w fun r w' => r = .returned (.tuple #[.slice (some ⟨e.g, e.tk, none⟩) n (e.c - e.tk), .bool (n == e.bs.length - e.tk), .int .i64 0]) ∧
    RQ w' y B room (E.set (fE E) { e with tk := e.tk + n, gone := n == e.bs.length - e.tk }) ∧ Only (S34 B w) w w' := by
  have hlt := (List.getElem?_eq_some_iff.1 he).1
  have HF := Lib.hid (by have h1 := rq_first h; rw [show fEi E = (fE E : Int) by unfold fEi; rw [if_pos hlt]] at h1; exact h1)
  have HQ := Lib.hid h
  obtain ⟨AL, cL, AT, cT, AG, cG, hr, hl⟩ := h.row
  obtain ⟨g1, rfl, z1⟩ := (own_at hl.t).cell (eT_at he)
  obtain ⟨g2, rfl, z2⟩ := (own_at hl.l).cell (eL_at he)
  obtain ⟨g3, rfl, z3⟩ := (own_at hl.g).cell (eG_at he)
  obtain ⟨e1, e2, e3, e4, e5, e6, _⟩ := h.ent e (List.mem_of_getElem? he)
  obtain ⟨c0, c1, c2, c3⟩ := qcells hr
  have hm := h.many
  have HE := Lib.hid he
  have HR := Lib.hid hr
  have HL := Lib.hid hl
  generalize hf : fE E = f at *
  generalize hq : E.length = q at *
  have HQL := Lib.hid hq
  generalize hbl : e.bs.length = bl at *
  generalize htk : e.tk = tk at *
  have HTK := Lib.hid htk
  have HBL := Lib.hid hbl
  have h1 : (f : Int) < q := by omega
  have h0 : (0 : Int) ≤ f := by omega
  have hw : IntKind.i64.wrap ((bl : Int) - (tk : Int)) = ((bl - tk : Nat) : Int) := by rw [IntWalk.i64_in _ (by omega)]; omega
  have hw2 : IntKind.i64.wrap ((tk : Int) + (n : Int)) = ((tk + n : Nat) : Int) := by rw [IntWalk.i64_in _ (by omega)]; omega
  obtain ⟨x, hx⟩ : ∃ x : Nat, tk + n = x := ⟨_, rfl⟩
  rw [hx] at hw2
  have HX := Lib.hid hx
  obtain ⟨left, hleft⟩ : ∃ left : Nat, bl - tk = left := ⟨_, rfl⟩
  rw [hleft] at hw hn2 ⊢
  have HLF := Lib.hid hleft
  have hx0 : (0 : Int) ≤ tk := by omega
  have hx1 : (tk : Int) ≤ (x : Int) := by omega
  have hx2 : (x : Int) ≤ (bl : Int) := by omega
  have hx3 : (x : Int) ≤ (e.c : Int) := by omega
  have hn1i : (1 : Int) ≤ n := by omega
  have hn2i : (n : Int) ≤ left := by omega
  have hct : ¬ e.c = tk := by omega
  generalize heg : e.g = eg at *
  generalize hec : e.c = ec at *
  have HEG := Lib.hid heg
  have HEC := Lib.hid hec
  generalize hgo : e.gone = go at *
  have fz : w.frozen? ⟨g1, f, none⟩ = false := own_free HL.out.t
  have fz3 : w.frozen? ⟨g3, f, none⟩ = false := own_free HL.out.g
  have HC := Lib.hid (fun W (hb : Below w.heap.size w W) => (⟨qcells (HR.out.later hb), kept_box hb z1, kept_box hb z2, kept_box hb z3, (bcell hb).2 g1 f (own_in HL.out.t), (bcell hb).2 g3 f (own_in HL.out.g)⟩ : (W.cell? ⟨y, 0, none⟩ = some (.int .i64 room) ∧ W.cell? ⟨y, 1, none⟩ = some (.slice (some ⟨g2, 0, none⟩) q cL) ∧ W.cell? ⟨y, 2, none⟩ = some (.slice (some ⟨g1, 0, none⟩) q cT) ∧ W.cell? ⟨y, 3, none⟩ = some (.slice (some ⟨g3, 0, none⟩) q cG)) ∧ W.cell? ⟨g1, f, none⟩ = some (.int .i64 tk) ∧ W.cell? ⟨g2, f, none⟩ = some (.slice (some ⟨eg, 0, none⟩) bl ec) ∧ W.cell? ⟨g3, f, none⟩ = some (.bool go) ∧ W.frozen? ⟨g1, f, none⟩ = w.frozen? ⟨g1, f, none⟩ ∧ W.frozen? ⟨g3, f, none⟩ = w.frozen? ⟨g3, f, none⟩))
  have HF1 := Lib.hid fz
  have HF3 := Lib.hid fz3
  have hne : y ≠ g1 ∧ y ≠ g3 ∧ g3 ≠ g1 := by
    have q1 := own_row HL.out.t
    have q3 := own_row HL.out.g
    obtain ⟨cs1, q1⟩ := q1
    obtain ⟨cs3, q3⟩ := q3
    exact ⟨Row.apart HR.out q1 (by decide), Row.apart HR.out q3 (by decide), Row.apart q3 q1 (by decide)⟩
  obtain ⟨ne1, ne2, ne3⟩ := hne
  clear h hr hl he e1 e2 e3 e4 e5 e6 hlt hf hq hbl htk hx hleft heg hec hgo fz fz3 hn1 hn2
  go_enter Try.func170, Try.ntmps170
  go_wp2_with (go_at_call 206; (with_reducible refine HF.out.mono ?_); rintro e w1 ⟨rfl, rfl⟩)
  go_quiet (fail)
  have HB1 := Lib.hid (below_drewN (Below.refl w.heap.size w) nq)
  generalize w.drewN nq = wA at *
  clear c0 c1 c2 c3 z1 z2 z3
  obtain ⟨⟨c0, c1, c2, c3⟩, z1, z2, z3, u1, u3⟩ := HC.out wA HB1.out
  go_wp2
  go_quiet (fail)
  have HB2 := Lib.hid (below_drewN HB1.out nq)
  generalize wA.drewN nq = wB at *
  clear c0 c1 c2 c3 z1 z2 z3 u1 u3
  obtain ⟨⟨c0, c1, c2, c3⟩, z1, z2, z3, u1, u3⟩ := HC.out wB HB2.out
  go_wp2
  go_still_tail 15, (by kernel_rfl)
  change wpList _ _ _ _ _ wB.drew
  have HB3 := Lib.hid (bl_drew HB2.out)
  generalize wB.drew = wC at *
  clear c0 c1 c2 c3 z1 z2 z3 u1 u3
  obtain ⟨⟨c0, c1, c2, c3⟩, z1, z2, z3, u1, u3⟩ := HC.out wC HB3.out
  rw [HF1.out] at u1
  rw [HF3.out] at u3
  go_wp2
  go_ret3
  have hbq : ((n : Int) == (left : Int)) = (n == left) := by
    by_cases hh : n = left
    · subst hh; rw [beq_self_eq_true, beq_self_eq_true]
    · have : ¬ ((n : Int) = (left : Int)) := by omega
      rw [beq_eq_false_iff_ne.2 this, beq_eq_false_iff_ne.2 hh]
  refine ⟨?_, ?_, ?_⟩
  · show Ending.returned (.tuple #[.slice (some ⟨eg, tk, none⟩) (x - tk) (ec - tk), .bool ((n : Int) == (left : Int)), .int .i64 0]) = _
    rw [hbq, show x - tk = n by have := HX.out; omega]
  · rw [hbq]
    have hq2 := (HQ.out.later HB3.out).upd (by rw [HQL.out]; exact HR.out.later HB3.out) (HL.out.later HB3.out) HE.out x (n == left) (by have := HBL.out; omega) (fun hh => by
      have h5 : ¬ n = left := by simpa using hh
      have := HBL.out; have := HX.out; have := HLF.out; omega)
    rw [HEG.out, HEC.out] at hq2
    rw [HX.out]
    exact hq2
  · obtain ⟨cs1, hr1⟩ := own_row HL.out.t
    obtain ⟨cs3, hr3⟩ := own_row HL.out.g
    exact ((Only.of_below HB3.out).set (p := ⟨g1, f, none⟩) (.inl ⟨(own_block HL.out.t g1 rfl).1, 3, cs1, hr1, .inl rfl⟩) _).set (p := ⟨g3, f, none⟩) (.inl ⟨(own_block HL.out.g g3 rfl).1, 4, cs3, hr3, .inr rfl⟩) _
end
end Go.Proofs.Ytjonkpdjhjobfaa
namespace Go.Proofs.Ytjonkpdjhjobfaa
open Go.RowKit

structure HeadE (E : List Ent) (e : Ent) (t : Txt) (r : List Txt) : Prop where
  at_ : E[fE E]? = some e
  id : t.id = fE E + 1
  bs : t.bs = e.bs.drop e.tk
  bg : t.bg = decide (0 < e.tk)
  rest : tx r = live (fE E + 1) (E.drop (fE E + 1))
def X34 (t : TypeId) : Prop := t = 3 ∨ t = 4
section
variable {w v u w0 : World} {y B N : Nat} {R : Int} {ts r : List Txt} {t : Txt} {E : List Ent} {e : Ent}
theorem empty_of (hl : tx [] = live 0 E) : fE E = E.length := by
  have h1 : fE E ≤ E.length := fE_le
  rcases Nat.lt_or_ge (fE E) E.length with q | q
  · rw [live_first (List.getElem?_eq_getElem q)] at hl
    cases hl
  · omega
theorem head_of (hl : tx (t :: r) = live 0 E) : ∃ e, HeadE E e t r := by
  have h1 : fE E ≤ E.length := fE_le
  rcases Nat.lt_or_ge (fE E) E.length with q | q
  · rw [live_first (List.getElem?_eq_getElem q), Nat.zero_add] at hl
    unfold tx at hl
    rw [List.map_cons] at hl
    injection hl with h2 h3
    injection h2 with h4 h5
    injection h5 with h6 h7
    exact ⟨_, List.getElem?_eq_getElem q, h4, h6, h7, h3⟩
  · rw [live_none (by omega)] at hl
    cases hl
theorem HeadE.len (h : HeadE E e t r) : t.bs.length = e.bs.length - e.tk := by rw [h.bs, List.length_drop]
theorem HeadE.bounds (h : HeadE E e t r) (hq : RQ w y B R E) : 0 < t.bs.length ∧ t.bs.length ≤ 1000 ∧ t.bs.length ≤ e.c - e.tk ∧ e.c - e.tk ≤ 9223372036854775807 := by
  have hl := h.len
  have hg := fE_at h.at_
  obtain ⟨e1, e2, e3, e4, e5, e6, _⟩ := hq.ent e (List.mem_of_getElem? h.at_)
  have := e4 hg
  omega
theorem dq_front (hq : RQ w y B R E) (h : HeadE E e t r) : Calls Try.prog 168 #[.pointer (some ⟨y, 0, none⟩)] w fun r' w3 => r' = .returned (.tuple #[.int .u64 t.id, .slice (some ⟨e.g, e.tk, none⟩) t.bs.length (e.c - e.tk), .bool t.bg]) ∧ Below w.heap.size w w3 := by
  refine (rq_front hq h.at_).mono ?_
  rintro r' w3 ⟨rfl, hb3⟩
  refine ⟨?_, hb3⟩
  rw [h.id, h.len, h.bg]
  simp
theorem dq_take (n : Nat) (hq : RQ w y B R E) (hB : B ≤ w.heap.size) (h8 : ∀ e ∈ E, ∀ b ∈ e.bs, b < 256) (h : HeadE E e t r) (hn1 : 1 ≤ n) (hn2 : n ≤ t.bs.length) :
    Calls Try.prog 170 #[.pointer (some ⟨y, 0, none⟩), .int .i64 n] w fun r' w3 => r' = .returned (.tuple #[.slice (some ⟨e.g, e.tk, none⟩) n (e.c - e.tk), .bool (n == t.bs.length), .int .i64 0]) ∧ KR X34 B w w3 ∧
      ∃ E', RQ w3 y B R E' ∧ E'.length = E.length ∧ (∀ e ∈ E', ∀ b ∈ e.bs, b < 256) ∧ live 0 E' = (if n = t.bs.length then tx r else (t.id, t.bs.drop n, true) :: tx r) := by
  have hl := h.len
  refine (rq_takec n hq h.at_ hn1 (by omega)).mono ?_
  rintro r' w3 ⟨rfl, hr3, ho3⟩
  have hm := List.mem_of_getElem? h.at_
  refine ⟨by rw [hl], KR.of34 ho3 hB, _, hr3, by simp, b8_set h8 (h8 e hm), ?_⟩
  rw [live_set h.at_, Nat.zero_add, ← hl]
  by_cases c0 : n = t.bs.length
  · rw [if_pos c0, if_pos (by simp; omega), h.rest]
    rfl
  · rw [if_neg c0, if_neg (by simp; omega), ← h.rest]
    rw [h.id, h.bs, List.drop_drop]
    simp
    omega
/-- bytes that lie somewhere in a block of bytes -/
def REnt (w : World) (r : RowB) : Prop := ∃ g off cs, r.A = some ⟨g, off, none⟩ ∧ Row w g 5 cs ∧ (∀ j b, r.bs[j]? = some b → cs[off + j]? = some (.int .u8 (b : Nat))) ∧ r.bs.length ≤ r.cap ∧ r.cap ≤ 9223372036854775807 ∧ ∀ b ∈ r.bs, b < 256
theorem REnt.only {S : Nat → Prop} {x : RowB} (h : REnt w x) (ho : Only S w v) (hS : ∀ g cs, Row w g 5 cs → ¬ S g) : REnt v x := by
  obtain ⟨g, off, cs, h1, h2, h3⟩ := h
  exact ⟨g, off, cs, h1, h2.only ho (hS _ _ h2), h3⟩
theorem REnt.kr {X : TypeId → Prop} {x : RowB} (h : REnt w x) (hk : KR X B w v) (h5 : ¬ X 5) : REnt v x := by
  obtain ⟨g, off, cs, h1, h2, h3⟩ := h
  exact ⟨g, off, cs, h1, hk.rows _ _ _ h2 h5, h3⟩
theorem REnt.ok {x : RowB} (h : REnt w x) : x.ok w := by
  obtain ⟨g, off, cs, h1, h2, h3, h4, h5, h6⟩ := h
  refine ⟨fun _ => ⟨_, h1, fun j u hu => ?_⟩, h4, h5, h6⟩
  have hj : j < x.bs.length := by have := (List.getElem?_eq_some_iff.1 hu).1; rw [length_bts] at this; exact this
  have hb := bts_at (List.getElem?_eq_getElem hj)
  rw [hu] at hb
  injection hb with hb
  rw [hb, show (⟨g, off, none⟩ : Addr).add j = ⟨g, off + j, none⟩ by unfold Addr.add; split <;> simp_all]
  exact h2.read (h3 j _ (List.getElem?_eq_getElem hj))
theorem HeadE.ent (h : HeadE E e t r) (hq : RQ w y B R E) (h8 : ∀ e ∈ E, ∀ b ∈ e.bs, b < 256) (n : Nat) (hn : n ≤ t.bs.length) : REnt w ⟨some ⟨e.g, e.tk, none⟩, e.c - e.tk, t.bs.take n⟩ := by
  obtain ⟨_, _, hc, hm⟩ := h.bounds hq
  have he := List.mem_of_getElem? h.at_
  obtain ⟨e1, e2, e3, e4, e5, e6, e7, cs, e8, e9⟩ := hq.ent e he
  refine ⟨e.g, e.tk, cs, rfl, e8, fun j b hj => ?_, by show (t.bs.take n).length ≤ e.c - e.tk; rw [List.length_take]; omega, hm, fun b hb => ?_⟩
  · show cs[e.tk + j]? = _
    have hj : (t.bs.take n)[j]? = some b := hj
    rw [List.getElem?_take] at hj
    split at hj
    · rw [h.bs, List.getElem?_drop] at hj
      exact e9 _ _ hj
    · cases hj
  · have hb : b ∈ t.bs.take n := hb
    have h9 := List.mem_of_mem_take hb
    rw [h.bs] at h9
    exact h8 e he b (List.mem_of_mem_drop h9)
theorem KR.fresh {X : TypeId → Prop} {S : Nat → Prop} (h : KR X B w0 w) (ho : Only S w v) (hS : ∀ k, S k → w0.heap.size ≤ k) : KR X B w0 v :=
  ⟨h.base, h.below.trans (ho.below (Nat.le_trans h.base h.size) (fun k hk hs => by have := hS k hs; have := h.base; omega)), Nat.le_trans h.size ho.size, fun g t cs hr hx => by
    refine (h.rows g t cs hr hx).only ho (fun hs => ?_)
    have := hS g hs
    have := hr.inside
    omega⟩
/-- where the lists of the document's queue lie: below block N -/
def QLow (w0 : World) (y N : Nat) : Prop := ∃ cs, Row w0 y 52 cs ∧ ∀ (i : Nat) (v : Value) (g : Nat), cs[i]? = some v → v.ownBlock = some g → g < N
theorem RQ.low (h : RQ w y B R E) : QLow w y w.heap.size := by
  obtain ⟨AL, cL, AT, cT, AG, cG, h1, h2⟩ := h.row
  refine ⟨_, h1, fun i v g hv hg => ?_⟩
  match i, hv with
  | 0, hv => simp at hv; subst hv; simp [Value.ownBlock] at hg
  | 1, hv => simp at hv; subst hv; exact (own_block h2.l g hg).2
  | 2, hv => simp at hv; subst hv; exact (own_block h2.t g hg).2
  | 3, hv => simp at hv; subst hv; exact (own_block h2.g g hg).2
  | i + 4, hv => simp at hv
theorem QLow.kr {X : TypeId → Prop} (h : QLow w y N) (hk : KR X B w v) (hx : ¬ X 52) : QLow v y N := by
  obtain ⟨cs, h1, h2⟩ := h
  exact ⟨cs, hk.rows _ _ _ h1 hx, h2⟩
/-- blocks from N on change, none of bytes, and not the queue's own -/
theorem RQ.above {S : Nat → Prop} (h : RQ w y B R E) (hl : QLow w y N) (ho : Only S w v) (hy : ¬ S y) (hS : ∀ k, S k → N ≤ k) (h5 : ∀ g cs, Row w g 5 cs → ¬ S g) : RQ v y B R E := by
  obtain ⟨AL, cL, AT, cT, AG, cG, h1, h2⟩ := h.row
  obtain ⟨cs, hc, hb⟩ := hl
  have e0 : cs = #[.int .i64 R, .slice AL E.length cL, .slice AT E.length cT, .slice AG E.length cG] := by
    unfold Row at hc h1
    rw [hc] at h1
    have e := Option.some.inj h1
    cases e
    rfl
  subst e0
  exact ⟨⟨AL, cL, AT, cT, AG, cG, h1.only ho hy, ⟨own_only h2.l ho fun k hk hs => by have := hb 1 _ k rfl hk; have := hS k hs; omega, own_only h2.t ho fun k hk hs => by have := hb 2 _ k rfl hk; have := hS k hs; omega, own_only h2.g ho fun k hk hs => by have := hb 3 _ k rfl hk; have := hS k hs; omega⟩⟩, fun e he => (h.ent e he).only ho h5, h.many⟩
end
/-- a piece of the document's while it is built -/
structure DC (B y : Nat) (R : Int) (w0 : World) (p8 : Nat) (fi : Int) (F D : Value) (L : List RowB) (ids : List Nat) (E : List Ent) (w : World) : Prop where
  q : RQ w y B R E
  low : QLow w y w0.heap.size
  b8 : ∀ e ∈ E, ∀ b ∈ e.bs, b < 256
  kr : KR X34 B w0 w
  rows : w.ownsRow w0.heap.size 38 1 F L.length (L.map RowB.v)
  ent : ∀ r ∈ L, REnt w r
  ids : w.ownsRow w0.heap.size 35 1 D ids.length (idsV ids)
  res : Row w w0.heap.size 151 #[.int .i64 0, .slice none 0 0, .slice none 0 0]
  prow : Row w p8 151 #[.int .i64 fi, F, D]
  above : w0.heap.size < p8
section
variable {w v w0 : World} {y B p8 : Nat} {R fi : Int} {F D : Value} {L : List RowB} {ids : List Nat} {E E' : List Ent}
theorem DC.base (h : DC B y R w0 p8 fi F D L ids E w) : B ≤ w.heap.size ∧ w0.heap.size ≤ w.heap.size := ⟨Nat.le_trans h.kr.base h.kr.size, h.kr.size⟩
theorem not34 : ¬ X34 38 ∧ ¬ X34 35 ∧ ¬ X34 5 ∧ ¬ X34 151 ∧ ¬ X34 52 := by unfold X34; decide
theorem DC.step (h : DC B y R w0 p8 fi F D L ids E w) (hk : KR X34 B w v) (hq : RQ v y B R E') (h8 : ∀ e ∈ E', ∀ b ∈ e.bs, b < 256) : DC B y R w0 p8 fi F D L ids E' v :=
  ⟨hq, h.low.kr hk not34.2.2.2.2, h8, h.kr.trans hk, hk.own h.rows not34.1, fun r hr => (h.ent r hr).kr hk not34.2.2.1, hk.own h.ids not34.2.1, hk.rows _ _ _ h.res not34.2.2.2.1, hk.rows _ _ _ h.prow not34.2.2.2.1, h.above⟩
theorem DC.later (h : DC B y R w0 p8 fi F D L ids E w) (hb : Below w.heap.size w v) : DC B y R w0 p8 fi F D L ids E v :=
  h.step (KR.of_below h.base.1 hb) (h.q.later hb) h.b8
/-- the queue, and its world, behind a change of new blocks of the call's own -/
theorem DC.mem {S : Nat → Prop} (h : DC B y R w0 p8 fi F D L ids E w) (ho : Only S w v) (hS : ∀ k, S k → w0.heap.size ≤ k) (ht : ∀ k t cs, S k → Row w k t cs → t = 38 ∨ t = 35 ∨ t = 151) :
    RQ v y B R E ∧ QLow v y w0.heap.size ∧ KR X34 B w0 v ∧ ∀ r ∈ L, REnt v r := by
  obtain ⟨cs, hc, hb⟩ := h.low
  have hny : ¬ S y := fun hs => by rcases ht y _ _ hs hc with e | e | e <;> exact absurd e (by decide)
  have h5 : ∀ g cs, Row w g 5 cs → ¬ S g := fun g cs hr hs => by rcases ht g _ _ hs hr with e | e | e <;> exact absurd e (by decide)
  exact ⟨h.q.above h.low ho hny hS h5, ⟨cs, hc.only ho hny, hb⟩, h.kr.fresh ho hS, fun r hr => (h.ent r hr).only ho h5⟩
theorem DC.set (h : DC B y R w0 p8 fi F D L ids E w) (i : Nat) (x : Value) : RQ (w.setCell ⟨p8, i, none⟩ x) y B R E ∧ QLow (w.setCell ⟨p8, i, none⟩ x) y w0.heap.size ∧ KR X34 B w0 (w.setCell ⟨p8, i, none⟩ x) ∧ (∀ r ∈ L, REnt (w.setCell ⟨p8, i, none⟩ x) r) ∧
    (w.setCell ⟨p8, i, none⟩ x).ownsRow w0.heap.size 38 1 F L.length (L.map RowB.v) ∧ (w.setCell ⟨p8, i, none⟩ x).ownsRow w0.heap.size 35 1 D ids.length (idsV ids) ∧ Row (w.setCell ⟨p8, i, none⟩ x) w0.heap.size 151 #[.int .i64 0, .slice none 0 0, .slice none 0 0] := by
  have ho : Only (fun k => k = p8) w (w.setCell ⟨p8, i, none⟩ x) := (Only.refl (fun k => k = p8) w).set (p := ⟨p8, i, none⟩) (.inl rfl) _
  have ha := h.above
  obtain ⟨h1, h2, h3, h4⟩ := h.mem ho (fun k e => by omega) (fun k t cs e hr => by subst e; exact .inr (.inr (qlrow_same hr h.prow)))
  exact ⟨h1, h2, h3, h4, own_only h.rows ho (fun k hk e => by subst e; exact own_apart h.rows h.prow (by decide) hk), own_only h.ids ho (fun k hk e => by subst e; exact own_apart h.ids h.prow (by decide) hk), h.res.only ho (by omega)⟩
theorem DC.setfi (h : DC B y R w0 p8 fi F D L ids E w) (z : Int) : DC B y R w0 p8 z F D L ids E (w.setCell ⟨p8, 0, none⟩ (.int .i64 z)) := by
  obtain ⟨h1, h2, h3, h4, h5, h6, h7⟩ := h.set 0 (.int .i64 z)
  exact ⟨h1, h2, h.b8, h3, h5, h4, h6, h7, h.prow.written 0 _, h.above⟩
theorem DC.addRow (h : DC B y R w0 p8 fi F D L ids E w) (r : RowB) (hL : L.length ≤ 1000) (hr : REnt w r) :
    ∃ A' c' w2, (Builtin.append_ #[48, 48] 48 #[F, .slice (some ⟨w.heap.size, 0, none⟩) 1 1]).run Try.prog (w.alloc (.cells #[r.v] 38)) = .ok (.slice A' (L.length + 1) c') w2 ∧
      Row w2 p8 151 #[.int .i64 fi, F, D] ∧ DC B y R w0 p8 fi (.slice A' (L.length + 1) c') D (L ++ [r]) ids E (w2.setCell ⟨p8, 1, none⟩ (.slice A' (L.length + 1) c')) := by
  obtain ⟨A', c', w2, hrun, hown, hon⟩ := own_next (T := 48) (E := 38) (u := r.v) (by kernel_rfl) (show (Try.prog.info? 38).map (fun i => (i.zero, i.size, i.bytes)) = some (some (.slice none 0 0), 1, 24) by kernel_rfl) rfl (by omega) rfl h.rows h.kr.size (by omega)
  have hS : ∀ k, F.ownBlock = some k → w0.heap.size ≤ k := fun k hk => (own_block h.rows k hk).1
  have hty : ∀ k t cs, F.ownBlock = some k → Row w k t cs → t = 38 := fun k t cs hk hr' => by
    rcases Nat.decEq 38 t with h9 | h9
    · exact absurd hk (own_apart h.rows hr' h9)
    · exact h9.symm
  obtain ⟨h1, h2, h3, h4⟩ := h.mem hon hS (fun k t cs hk hr' => .inl (hty k t cs hk hr'))
  have hp : Row w2 p8 151 #[.int .i64 fi, F, D] := h.prow.only hon (own_apart h.rows h.prow (by decide))
  have hd : w2.ownsRow w0.heap.size 35 1 D ids.length (idsV ids) := own_only h.ids hon (fun k hk hs => by
    obtain ⟨cs, hc⟩ : ∃ cs, Row w k 35 cs := by
      rcases h.ids.2 with ⟨e, _⟩ | ⟨g, cap, cur, e, _, hh, _⟩
      · rw [e] at hk; simp [Value.ownBlock] at hk
      · rw [e] at hk
        have e2 : g = k := by simpa [Value.ownBlock] using hk
        subst e2
        exact ⟨cur, hh⟩
    exact absurd (hty k _ _ hs hc) (by decide))
  have hres : Row w2 w0.heap.size 151 #[.int .i64 0, .slice none 0 0, .slice none 0 0] := h.res.only hon (own_apart h.rows h.res (by decide))
  have hr2 : REnt w2 r := hr.only hon (fun g cs hc hs => absurd (hty g _ _ hs hc) (by decide))
  have hI : DC B y R w0 p8 fi F D [] ids E w2 → True := fun _ => trivial
  refine ⟨A', c', w2, hrun, hp, ?_⟩
  have ho : Only (fun k => k = p8) w2 (w2.setCell ⟨p8, 1, none⟩ (.slice A' (L.length + 1) c')) := (Only.refl (fun k => k = p8) w2).set (p := ⟨p8, 1, none⟩) (.inl rfl) _
  have ha := h.above
  obtain ⟨cs, hc, hb⟩ := id h2
  have hny : y ≠ p8 := fun e => by subst e; exact absurd (qlrow_same hc hp) (by decide)
  have h5 : ∀ g cs, Row w2 g 5 cs → ¬ g = p8 := fun g cs hr' e => by subst e; exact absurd (qlrow_same hr' hp) (by decide)
  exact ⟨h1.above h2 ho hny (fun k e => by omega) h5, ⟨cs, hc.only ho hny, hb⟩, h.b8, h3.fresh ho (fun k e => by omega), by
      rw [List.length_append, List.map_append]
      exact own_only hown ho (fun k hk e => by subst e; exact own_apart hown hp (by decide) hk), fun x hx => by
      rcases List.mem_append.1 hx with q | q
      · exact (h4 x q).only ho h5
      · rw [List.mem_singleton] at q; subst q; exact hr2.only ho h5, own_only hd ho (fun k hk e => by subst e; exact own_apart hd hp (by decide) hk), hres.only ho (by omega), hp.written 1 _, ha⟩
theorem DC.addId (h : DC B y R w0 p8 fi F D L ids E w) (i : Nat) (hL : ids.length ≤ 1000) :
    ∃ A' c' w2, (Builtin.append_ #[39, 39] 39 #[D, .slice (some ⟨w.heap.size, 0, none⟩) 1 1]).run Try.prog (w.alloc (.cells #[.int .u64 (i : Nat)] 35)) = .ok (.slice A' (ids.length + 1) c') w2 ∧
      Row w2 p8 151 #[.int .i64 fi, F, D] ∧ DC B y R w0 p8 fi F (.slice A' (ids.length + 1) c') L (ids ++ [i]) E (w2.setCell ⟨p8, 2, none⟩ (.slice A' (ids.length + 1) c')) := by
  obtain ⟨A', c', w2, hrun, hown, hon⟩ := own_next (T := 39) (E := 35) (u := .int .u64 (i : Nat)) (by kernel_rfl) (show (Try.prog.info? 35).map (fun i => (i.zero, i.size, i.bytes)) = some (some (.int .u64 0), 1, 8) by kernel_rfl) rfl (by omega) rfl h.ids h.kr.size (by omega)
  have hS : ∀ k, D.ownBlock = some k → w0.heap.size ≤ k := fun k hk => (own_block h.ids k hk).1
  have hty : ∀ k t cs, D.ownBlock = some k → Row w k t cs → t = 35 := fun k t cs hk hr' => by
    rcases Nat.decEq 35 t with h9 | h9
    · exact absurd hk (own_apart h.ids hr' h9)
    · exact h9.symm
  obtain ⟨h1, h2, h3, h4⟩ := h.mem hon hS (fun k t cs hk hr' => .inr (.inl (hty k t cs hk hr')))
  have hp : Row w2 p8 151 #[.int .i64 fi, F, D] := h.prow.only hon (own_apart h.ids h.prow (by decide))
  have hd : w2.ownsRow w0.heap.size 38 1 F L.length (L.map RowB.v) := own_only h.rows hon (fun k hk hs => by
    obtain ⟨cs, hc⟩ : ∃ cs, Row w k 38 cs := by
      rcases h.rows.2 with ⟨e, _⟩ | ⟨g, cap, cur, e, _, hh, _⟩
      · rw [e] at hk; simp [Value.ownBlock] at hk
      · rw [e] at hk
        have e2 : g = k := by simpa [Value.ownBlock] using hk
        subst e2
        exact ⟨cur, hh⟩
    exact absurd (hty k _ _ hs hc) (by decide))
  have hres : Row w2 w0.heap.size 151 #[.int .i64 0, .slice none 0 0, .slice none 0 0] := h.res.only hon (own_apart h.ids h.res (by decide))
  refine ⟨A', c', w2, hrun, hp, ?_⟩
  have ho : Only (fun k => k = p8) w2 (w2.setCell ⟨p8, 2, none⟩ (.slice A' (ids.length + 1) c')) := (Only.refl (fun k => k = p8) w2).set (p := ⟨p8, 2, none⟩) (.inl rfl) _
  have ha := h.above
  obtain ⟨cs, hc, hb⟩ := id h2
  have hny : y ≠ p8 := fun e => by subst e; exact absurd (qlrow_same hc hp) (by decide)
  have h5 : ∀ g cs, Row w2 g 5 cs → ¬ g = p8 := fun g cs hr' e => by subst e; exact absurd (qlrow_same hr' hp) (by decide)
  exact ⟨h1.above h2 ho hny (fun k e => by omega) h5, ⟨cs, hc.only ho hny, hb⟩, h.b8, h3.fresh ho (fun k e => by omega), own_only hd ho (fun k hk e => by subst e; exact own_apart hd hp (by decide) hk), fun x hx => (h4 x hx).only ho h5, by
      rw [List.length_append, show idsV (ids ++ [i]) = idsV ids ++ [.int .u64 (i : Nat)] by simp [idsV]]
      exact own_only hown ho (fun k hk e => by subst e; exact own_apart hown hp (by decide) hk), hres.only ho (by omega), hp.written 2 _, ha⟩
/-- what the call's own memory holds, behind a change of the result's own block -/
theorem DC.close (h : DC B y R w0 p8 fi F D L ids E w) (ho : Only (fun k => k = w0.heap.size) w v) : RQ v y B R E ∧ KR X34 B w0 v ∧ (∀ r ∈ L, REnt v r) ∧ v.ownsRow w0.heap.size 38 1 F L.length (L.map RowB.v) ∧ v.ownsRow w0.heap.size 35 1 D ids.length (idsV ids) := by
  obtain ⟨h1, h2, h3, h4⟩ := h.mem ho (fun k e => by omega) (fun k t cs e hr => by subst e; exact .inr (.inr (qlrow_same hr h.res)))
  exact ⟨h1, h3, h4, own_only h.rows ho (fun k hk e => by subst e; exact own_apart h.rows h.res (by decide) hk), own_only h.ids ho (fun k hk e => by subst e; exact own_apart h.ids h.res (by decide) hk)⟩
theorem rsrc_ent {m n c : Nat} {A : Option Addr} (h : w.ownsRow m 38 1 (.slice A n c) L.length (L.map RowB.v)) (h2 : ∀ r ∈ L, REnt w r) : RSrc w A L := by
  rcases h.2 with ⟨e, h0⟩ | ⟨g, cap, cur, e, _, _, _⟩
  · intro h9
    omega
  · injection e with e1 e2 e3
    subst e1
    exact fun _ => ⟨_, rfl, fun k r hr => ⟨h.cells (g := g) rfl k _ (by rw [List.getElem?_map, hr]; rfl), (h2 r (List.mem_of_getElem? hr)).ok⟩⟩
end
section
variable {w v : World} {y B : Nat} {R : Int} {ts r : List Txt} {t : Txt} {E : List Ent} {e : Ent}
/-- the first text whole -/
def DTake (B y : Nat) (R : Int) (m : Nat) (e : Ent) (n : Nat) (b : Bool) (l : List (Nat × List Nat × Bool)) (w : World) (x : Ending) (w3 : World) : Prop :=
  x = .returned (.tuple #[.slice (some ⟨e.g, e.tk, none⟩) n (e.c - e.tk), .bool b, .int .i64 0]) ∧ KR X34 B w w3 ∧ ∃ E', RQ w3 y B R E' ∧ E'.length = m ∧ (∀ e ∈ E', ∀ b ∈ e.bs, b < 256) ∧ live 0 E' = l
theorem dq_all (hq : RQ w y B R E) (hB : B ≤ w.heap.size) (h8 : ∀ e ∈ E, ∀ b ∈ e.bs, b < 256) (h : HeadE E e t r) :
    Calls Try.prog 170 #[.pointer (some ⟨y, 0, none⟩), .int .i64 t.bs.length] w (DTake B y R E.length e t.bs.length true (tx r) w) := by
  have h1 := dq_take t.bs.length hq hB h8 h (h.bounds hq).1 (Nat.le_refl _)
  rw [if_pos rfl, beq_self_eq_true] at h1
  exact h1
theorem dq_some (n : Nat) (hq : RQ w y B R E) (hB : B ≤ w.heap.size) (h8 : ∀ e ∈ E, ∀ b ∈ e.bs, b < 256) (h : HeadE E e t r) (hn1 : 1 ≤ n) (hn2 : n < t.bs.length) :
    Calls Try.prog 170 #[.pointer (some ⟨y, 0, none⟩), .int .i64 n] w (DTake B y R E.length e n false ((t.id, t.bs.drop n, true) :: tx r) w) := by
  have h1 := dq_take n hq hB h8 h hn1 (by omega)
  rw [if_neg (by omega), show (n == t.bs.length) = false by simp; omega] at h1
  exact h1
end
end Go.Proofs.Ytjonkpdjhjobfaa
