/-
  The document's queue: Take, with the room behind what is taken. The document's cutter: its queue's first text, by the texts that wait; a piece while it is built. Both plain entities beside one another: each call. What pdu answers to fixed calls.
-/
import Derived.Test.YtbcjfdhphpckfaaJPlainLives18
import Derived.Test.YtbcjfdhphpckfaaJPlainLives26
import Derived.Test.YtbcjfdhphpckfaaJPlainLives23
import Derived.Test.YtbcjfdhphpckfaaJPlainLives16
namespace Go.Proofs.Ytbcjfdhphpckfaa
open Go.RowKit

section
variable {w v : World} {y B : Nat} {room : Int} {E : List Ent} {AL AT AG : Option Addr} {cL cT cG : Nat}
set_option maxRecDepth 100000 in
set_option maxHeartbeats 6400000 in
theorem rq_takec (n : Nat) (h : RQ w y B room E) {e : Ent} (he : E[fE E]? = some e) (hn1 : 1 ≤ n) (hn2 : n ≤ e.bs.length - e.tk) : Calls Try.prog 18 #[.pointer (some ⟨y, 0, none⟩), .int .i64 n] w fun r w' => r = .returned (.tuple #[.slice (some ⟨e.g, e.tk, none⟩) n (e.c - e.tk), .bool (n == e.bs.length - e.tk), .int .i64 0]) ∧
    RQ w' y B room (E.set (fE E) { e with tk := e.tk + n, gone := n == e.bs.length - e.tk }) ∧ Only (S34 B w) w w' := by
  have hlt := (List.getElem?_eq_some_iff.1 he).1
  have HF := Lib.hid (by have h1 := rq_first h; rw [show fEi E = (fE E : Int) by unfold fEi; rw [if_pos hlt]] at h1; exact h1)
  have HQ := Lib.hid h
  obtain ⟨AL, cL, AT, cT, AG, cG, hr, hl⟩ := h.row
  obtain ⟨g1, rfl, z1⟩ := (own_at hl.t).cell (eT_at he)
  obtain ⟨g2, rfl, z2⟩ := (own_at hl.l).cell (eL_at he)
  obtain ⟨g3, rfl, z3⟩ := (own_at hl.g).cell (eG_at he)
  obtain ⟨e1, e2, e3, e4, e5, e6, _⟩ := h.ent e (List.mem_of_getElem? he)
  obtain ⟨c0, c1, c2, c3⟩ := qcells hr
  have hm := h.many
  have HE := Lib.hid he
  have HR := Lib.hid hr
  have HL := Lib.hid hl
  generalize hf : fE E = f at *
  generalize hq : E.length = q at *
  have HQL := Lib.hid hq
  generalize hbl : e.bs.length = bl at *
  generalize htk : e.tk = tk at *
  have HTK := Lib.hid htk
  have HBL := Lib.hid hbl
  have h1 : (f : Int) < q := by omega
  have h0 : (0 : Int) ≤ f := by omega
  have hw : IntKind.i64.wrap ((bl : Int) - (tk : Int)) = ((bl - tk : Nat) : Int) := by rw [IntWalk.i64_in _ (by omega)]; omega
  have hw2 : IntKind.i64.wrap ((tk : Int) + (n : Int)) = ((tk + n : Nat) : Int) := by rw [IntWalk.i64_in _ (by omega)]; omega
  obtain ⟨x, hx⟩ : ∃ x : Nat, tk + n = x := ⟨_, rfl⟩
  rw [hx] at hw2
  have HX := Lib.hid hx
  obtain ⟨left, hleft⟩ : ∃ left : Nat, bl - tk = left := ⟨_, rfl⟩
  rw [hleft] at hw hn2 ⊢
  have HLF := Lib.hid hleft
  have hx0 : (0 : Int) ≤ tk := by omega
  have hx1 : (tk : Int) ≤ (x : Int) := by omega
  have hx2 : (x : Int) ≤ (bl : Int) := by omega
  have hx3 : (x : Int) ≤ (e.c : Int) := by omega
  have hn1i : (1 : Int) ≤ n := by omega
  have hn2i : (n : Int) ≤ left := by omega
  have hct : ¬ e.c = tk := by omega
  generalize heg : e.g = eg at *
  generalize hec : e.c = ec at *
  have HEG := Lib.hid heg
  have HEC := Lib.hid hec
  generalize hgo : e.gone = go at *
  have fz : w.frozen? ⟨g1, f, none⟩ = false := own_free HL.out.t
  have fz3 : w.frozen? ⟨g3, f, none⟩ = false := own_free HL.out.g
  have HC := Lib.hid (fun W (hb : Below w.heap.size w W) => (⟨qcells (HR.out.later hb), kept_box hb z1, kept_box hb z2, kept_box hb z3, (bcell hb).2 g1 f (own_in HL.out.t), (bcell hb).2 g3 f (own_in HL.out.g)⟩ : (W.cell? ⟨y, 0, none⟩ = some (.int .i64 room) ∧ W.cell? ⟨y, 1, none⟩ = some (.slice (some ⟨g2, 0, none⟩) q cL) ∧ W.cell? ⟨y, 2, none⟩ = some (.slice (some ⟨g1, 0, none⟩) q cT) ∧ W.cell? ⟨y, 3, none⟩ = some (.slice (some ⟨g3, 0, none⟩) q cG)) ∧ W.cell? ⟨g1, f, none⟩ = some (.int .i64 tk) ∧ W.cell? ⟨g2, f, none⟩ = some (.slice (some ⟨eg, 0, none⟩) bl ec) ∧ W.cell? ⟨g3, f, none⟩ = some (.bool go) ∧ W.frozen? ⟨g1, f, none⟩ = w.frozen? ⟨g1, f, none⟩ ∧ W.frozen? ⟨g3, f, none⟩ = w.frozen? ⟨g3, f, none⟩))
  have HF1 := Lib.hid fz
  have HF3 := Lib.hid fz3
  have hne : y ≠ g1 ∧ y ≠ g3 ∧ g3 ≠ g1 := by
    have q1 := own_row HL.out.t
    have q3 := own_row HL.out.g
    obtain ⟨cs1, q1⟩ := q1
    obtain ⟨cs3, q3⟩ := q3
    exact ⟨Row.apart HR.out q1 (by decide), Row.apart HR.out q3 (by decide), Row.apart q3 q1 (by decide)⟩
  obtain ⟨ne1, ne2, ne3⟩ := hne
  clear h hr hl he e1 e2 e3 e4 e5 e6 hlt hf hq hbl htk hx hleft heg hec hgo fz fz3 hn1 hn2
  go_enter Try.func18, Try.ntmps18
  go_wp2_with (go_at_call 112; (with_reducible refine HF.out.mono ?_); rintro e w1 ⟨rfl, rfl⟩)
  go_quiet (fail)
  have HB1 := Lib.hid (below_drewN (Below.refl w.heap.size w) nq)
  generalize w.drewN nq = wA at *
  clear c0 c1 c2 c3 z1 z2 z3
  obtain ⟨⟨c0, c1, c2, c3⟩, z1, z2, z3, u1, u3⟩ := HC.out wA HB1.out
  go_wp2
  go_quiet (fail)
  have HB2 := Lib.hid (below_drewN HB1.out nq)
  generalize wA.drewN nq = wB at *
  clear c0 c1 c2 c3 z1 z2 z3 u1 u3
  obtain ⟨⟨c0, c1, c2, c3⟩, z1, z2, z3, u1, u3⟩ := HC.out wB HB2.out
  go_wp2
  go_still_tail 15, (by kernel_rfl)
  change wpList _ _ _ _ _ wB.drew
  have HB3 := Lib.hid (bl_drew HB2.out)
  generalize wB.drew = wC at *
  clear c0 c1 c2 c3 z1 z2 z3 u1 u3
  obtain ⟨⟨c0, c1, c2, c3⟩, z1, z2, z3, u1, u3⟩ := HC.out wC HB3.out
  rw [HF1.out] at u1
  rw [HF3.out] at u3
  go_wp2
  go_ret3
  have hbq : ((n : Int) == (left : Int)) = (n == left) := by
    by_cases hh : n = left
    · subst hh; rw [beq_self_eq_true, beq_self_eq_true]
    · have : ¬ ((n : Int) = (left : Int)) := by omega
      rw [beq_eq_false_iff_ne.2 this, beq_eq_false_iff_ne.2 hh]
  refine ⟨?_, ?_, ?_⟩
  · show Ending.returned (.tuple #[.slice (some ⟨eg, tk, none⟩) (x - tk) (ec - tk), .bool ((n : Int) == (left : Int)), .int .i64 0]) = _
    rw [hbq, show x - tk = n by have := HX.out; omega]
  · rw [hbq]
    have hq2 := (HQ.out.later HB3.out).upd (by rw [HQL.out]; exact HR.out.later HB3.out) (HL.out.later HB3.out) HE.out x (n == left) (by have := HBL.out; omega) (fun hh => by
      have h5 : ¬ n = left := by simpa using hh
      have := HBL.out; have := HX.out; have := HLF.out; omega)
    rw [HEG.out, HEC.out] at hq2
    rw [HX.out]
    exact hq2
  · obtain ⟨cs1, hr1⟩ := own_row HL.out.t
    obtain ⟨cs3, hr3⟩ := own_row HL.out.g
    exact ((Only.of_below HB3.out).set (p := ⟨g1, f, none⟩) (.inl ⟨(own_block HL.out.t g1 rfl).1, 3, cs1, hr1, .inl rfl⟩) _).set (p := ⟨g3, f, none⟩) (.inl ⟨(own_block HL.out.g g3 rfl).1, 4, cs3, hr3, .inr rfl⟩) _
end
end Go.Proofs.Ytbcjfdhphpckfaa
namespace Go.Proofs.Ytbcjfdhphpckfaa
open Go.RowKit

structure HeadE (E : List Ent) (e : Ent) (t : Txt) (r : List Txt) : Prop where
  at_ : E[fE E]? = some e
  id : t.id = fE E + 1
  bs : t.bs = e.bs.drop e.tk
  bg : t.bg = decide (0 < e.tk)
  rest : tx r = live (fE E + 1) (E.drop (fE E + 1))
def X34 (t : TypeId) : Prop := t = 3 ∨ t = 4
section
variable {w v u w0 : World} {y B N : Nat} {R : Int} {ts r : List Txt} {t : Txt} {E : List Ent} {e : Ent}
theorem empty_of (hl : tx [] = live 0 E) : fE E = E.length := by
  have h1 : fE E ≤ E.length := fE_le
  rcases Nat.lt_or_ge (fE E) E.length with q | q
  · rw [live_first (List.getElem?_eq_getElem q)] at hl
    cases hl
  · omega
theorem head_of (hl : tx (t :: r) = live 0 E) : ∃ e, HeadE E e t r := by
  have h1 : fE E ≤ E.length := fE_le
  rcases Nat.lt_or_ge (fE E) E.length with q | q
  · rw [live_first (List.getElem?_eq_getElem q), Nat.zero_add] at hl
    unfold tx at hl
    rw [List.map_cons] at hl
    injection hl with h2 h3
    injection h2 with h4 h5
    injection h5 with h6 h7
    exact ⟨_, List.getElem?_eq_getElem q, h4, h6, h7, h3⟩
  · rw [live_none (by omega)] at hl
    cases hl
theorem HeadE.len (h : HeadE E e t r) : t.bs.length = e.bs.length - e.tk := by rw [h.bs, List.length_drop]
theorem HeadE.bounds (h : HeadE E e t r) (hq : RQ w y B R E) : 0 < t.bs.length ∧ t.bs.length ≤ 1000 ∧ t.bs.length ≤ e.c - e.tk ∧ e.c - e.tk ≤ 9223372036854775807 := by
  have hl := h.len
  have hg := fE_at h.at_
  obtain ⟨e1, e2, e3, e4, e5, e6, _⟩ := hq.ent e (List.mem_of_getElem? h.at_)
  have := e4 hg
  omega
theorem dq_front (hq : RQ w y B R E) (h : HeadE E e t r) : Calls Try.prog 25 #[.pointer (some ⟨y, 0, none⟩)] w fun r' w3 => r' = .returned (.tuple #[.int .u64 t.id, .slice (some ⟨e.g, e.tk, none⟩) t.bs.length (e.c - e.tk), .bool t.bg]) ∧ Below w.heap.size w w3 := by
  refine (rq_front hq h.at_).mono ?_
  rintro r' w3 ⟨rfl, hb3⟩
  refine ⟨?_, hb3⟩
  rw [h.id, h.len, h.bg]
  simp
theorem dq_take (n : Nat) (hq : RQ w y B R E) (hB : B ≤ w.heap.size) (h8 : ∀ e ∈ E, ∀ b ∈ e.bs, b < 256) (h : HeadE E e t r) (hn1 : 1 ≤ n) (hn2 : n ≤ t.bs.length) :
    Calls Try.prog 18 #[.pointer (some ⟨y, 0, none⟩), .int .i64 n] w fun r' w3 => r' = .returned (.tuple #[.slice (some ⟨e.g, e.tk, none⟩) n (e.c - e.tk), .bool (n == t.bs.length), .int .i64 0]) ∧ KR X34 B w w3 ∧
      ∃ E', RQ w3 y B R E' ∧ E'.length = E.length ∧ (∀ e ∈ E', ∀ b ∈ e.bs, b < 256) ∧ live 0 E' = (if n = t.bs.length then tx r else (t.id, t.bs.drop n, true) :: tx r) := by
  have hl := h.len
  refine (rq_takec n hq h.at_ hn1 (by omega)).mono ?_
  rintro r' w3 ⟨rfl, hr3, ho3⟩
  have hm := List.mem_of_getElem? h.at_
  refine ⟨by rw [hl], KR.of34 ho3 hB, _, hr3, by simp, b8_set h8 (h8 e hm), ?_⟩
  rw [live_set h.at_, Nat.zero_add, ← hl]
  by_cases c0 : n = t.bs.length
  · rw [if_pos c0, if_pos (by simp; omega), h.rest]
    rfl
  · rw [if_neg c0, if_neg (by simp; omega), ← h.rest]
    rw [h.id, h.bs, List.drop_drop]
    simp
    omega
/-- bytes that lie somewhere in a block of bytes -/
def REnt (w : World) (r : RowB) : Prop := ∃ g off cs, r.A = some ⟨g, off, none⟩ ∧ Row w g 5 cs ∧ (∀ j b, r.bs[j]? = some b → cs[off + j]? = some (.int .u8 (b : Nat))) ∧ r.bs.length ≤ r.cap ∧ r.cap ≤ 9223372036854775807 ∧ ∀ b ∈ r.bs, b < 256
theorem REnt.only {S : Nat → Prop} {x : RowB} (h : REnt w x) (ho : Only S w v) (hS : ∀ g cs, Row w g 5 cs → ¬ S g) : REnt v x := by
  obtain ⟨g, off, cs, h1, h2, h3⟩ := h
  exact ⟨g, off, cs, h1, h2.only ho (hS _ _ h2), h3⟩
theorem REnt.kr {X : TypeId → Prop} {x : RowB} (h : REnt w x) (hk : KR X B w v) (h5 : ¬ X 5) : REnt v x := by
  obtain ⟨g, off, cs, h1, h2, h3⟩ := h
  exact ⟨g, off, cs, h1, hk.rows _ _ _ h2 h5, h3⟩
theorem REnt.ok {x : RowB} (h : REnt w x) : x.ok w := by
  obtain ⟨g, off, cs, h1, h2, h3, h4, h5, h6⟩ := h
  refine ⟨fun _ => ⟨_, h1, fun j u hu => ?_⟩, h4, h5, h6⟩
  have hj : j < x.bs.length := by have := (List.getElem?_eq_some_iff.1 hu).1; rw [length_bts] at this; exact this
  have hb := bts_at (List.getElem?_eq_getElem hj)
  rw [hu] at hb
  injection hb with hb
  rw [hb, show (⟨g, off, none⟩ : Addr).add j = ⟨g, off + j, none⟩ by unfold Addr.add; split <;> simp_all]
  exact h2.read (h3 j _ (List.getElem?_eq_getElem hj))
theorem HeadE.ent (h : HeadE E e t r) (hq : RQ w y B R E) (h8 : ∀ e ∈ E, ∀ b ∈ e.bs, b < 256) (n : Nat) (hn : n ≤ t.bs.length) : REnt w ⟨some ⟨e.g, e.tk, none⟩, e.c - e.tk, t.bs.take n⟩ := by
  obtain ⟨_, _, hc, hm⟩ := h.bounds hq
  have he := List.mem_of_getElem? h.at_
  obtain ⟨e1, e2, e3, e4, e5, e6, e7, cs, e8, e9⟩ := hq.ent e he
  refine ⟨e.g, e.tk, cs, rfl, e8, fun j b hj => ?_, by show (t.bs.take n).length ≤ e.c - e.tk; rw [List.length_take]; omega, hm, fun b hb => ?_⟩
  · show cs[e.tk + j]? = _
    have hj : (t.bs.take n)[j]? = some b := hj
    rw [List.getElem?_take] at hj
    split at hj
    · rw [h.bs, List.getElem?_drop] at hj
      exact e9 _ _ hj
    · cases hj
  · have hb : b ∈ t.bs.take n := hb
    have h9 := List.mem_of_mem_take hb
    rw [h.bs] at h9
    exact h8 e he b (List.mem_of_mem_drop h9)
theorem KR.fresh {X : TypeId → Prop} {S : Nat → Prop} (h : KR X B w0 w) (ho : Only S w v) (hS : ∀ k, S k → w0.heap.size ≤ k) : KR X B w0 v :=
  ⟨h.base, h.below.trans (ho.below (Nat.le_trans h.base h.size) (fun k hk hs => by have := hS k hs; have := h.base; omega)), Nat.le_trans h.size ho.size, fun g t cs hr hx => by
    refine (h.rows g t cs hr hx).only ho (fun hs => ?_)
    have := hS g hs
    have := hr.inside
    omega⟩
/-- where the lists of the document's queue lie: below block N -/
def QLow (w0 : World) (y N : Nat) : Prop := ∃ cs, Row w0 y 33 cs ∧ ∀ (i : Nat) (v : Value) (g : Nat), cs[i]? = some v → v.ownBlock = some g → g < N
theorem RQ.low (h : RQ w y B R E) : QLow w y w.heap.size := by
  obtain ⟨AL, cL, AT, cT, AG, cG, h1, h2⟩ := h.row
  refine ⟨_, h1, fun i v g hv hg => ?_⟩
  match i, hv with
  | 0, hv => simp at hv; subst hv; simp [Value.ownBlock] at hg
  | 1, hv => simp at hv; subst hv; exact (own_block h2.l g hg).2
  | 2, hv => simp at hv; subst hv; exact (own_block h2.t g hg).2
  | 3, hv => simp at hv; subst hv; exact (own_block h2.g g hg).2
  | i + 4, hv => simp at hv
theorem QLow.kr {X : TypeId → Prop} (h : QLow w y N) (hk : KR X B w v) (hx : ¬ X 33) : QLow v y N := by
  obtain ⟨cs, h1, h2⟩ := h
  exact ⟨cs, hk.rows _ _ _ h1 hx, h2⟩
/-- blocks from N on change, none of bytes, and not the queue's own -/
theorem RQ.above {S : Nat → Prop} (h : RQ w y B R E) (hl : QLow w y N) (ho : Only S w v) (hy : ¬ S y) (hS : ∀ k, S k → N ≤ k) (h5 : ∀ g cs, Row w g 5 cs → ¬ S g) : RQ v y B R E := by
  obtain ⟨AL, cL, AT, cT, AG, cG, h1, h2⟩ := h.row
  obtain ⟨cs, hc, hb⟩ := hl
  have e0 : cs = #[.int .i64 R, .slice AL E.length cL, .slice AT E.length cT, .slice AG E.length cG] := by
    unfold Row at hc h1
    rw [hc] at h1
    have e := Option.some.inj h1
    cases e
    rfl
  subst e0
  exact ⟨⟨AL, cL, AT, cT, AG, cG, h1.only ho hy, ⟨own_only h2.l ho fun k hk hs => by have := hb 1 _ k rfl hk; have := hS k hs; omega, own_only h2.t ho fun k hk hs => by have := hb 2 _ k rfl hk; have := hS k hs; omega, own_only h2.g ho fun k hk hs => by have := hb 3 _ k rfl hk; have := hS k hs; omega⟩⟩, fun e he => (h.ent e he).only ho h5, h.many⟩
end
/-- a piece of the document's while it is built -/
structure DC (B y : Nat) (R : Int) (w0 : World) (p8 : Nat) (fi : Int) (F D : Value) (L : List RowB) (ids : List Nat) (E : List Ent) (w : World) : Prop where
  q : RQ w y B R E
  low : QLow w y w0.heap.size
  b8 : ∀ e ∈ E, ∀ b ∈ e.bs, b < 256
  kr : KR X34 B w0 w
  rows : w.ownsRow w0.heap.size 34 1 F L.length (L.map RowB.v)
  ent : ∀ r ∈ L, REnt w r
  ids : w.ownsRow w0.heap.size 37 1 D ids.length (idsV ids)
  res : Row w w0.heap.size 61 #[.int .i64 0, .slice none 0 0, .slice none 0 0]
  prow : Row w p8 61 #[.int .i64 fi, F, D]
  above : w0.heap.size < p8
section
variable {w v w0 : World} {y B p8 : Nat} {R fi : Int} {F D : Value} {L : List RowB} {ids : List Nat} {E E' : List Ent}
theorem DC.base (h : DC B y R w0 p8 fi F D L ids E w) : B ≤ w.heap.size ∧ w0.heap.size ≤ w.heap.size := ⟨Nat.le_trans h.kr.base h.kr.size, h.kr.size⟩
theorem not34 : ¬ X34 34 ∧ ¬ X34 37 ∧ ¬ X34 5 ∧ ¬ X34 61 ∧ ¬ X34 33 := by unfold X34; decide
theorem DC.step (h : DC B y R w0 p8 fi F D L ids E w) (hk : KR X34 B w v) (hq : RQ v y B R E') (h8 : ∀ e ∈ E', ∀ b ∈ e.bs, b < 256) : DC B y R w0 p8 fi F D L ids E' v :=
  ⟨hq, h.low.kr hk not34.2.2.2.2, h8, h.kr.trans hk, hk.own h.rows not34.1, fun r hr => (h.ent r hr).kr hk not34.2.2.1, hk.own h.ids not34.2.1, hk.rows _ _ _ h.res not34.2.2.2.1, hk.rows _ _ _ h.prow not34.2.2.2.1, h.above⟩
theorem DC.later (h : DC B y R w0 p8 fi F D L ids E w) (hb : Below w.heap.size w v) : DC B y R w0 p8 fi F D L ids E v :=
  h.step (KR.of_below h.base.1 hb) (h.q.later hb) h.b8
/-- the queue, and its world, behind a change of new blocks of the call's own -/
theorem DC.mem {S : Nat → Prop} (h : DC B y R w0 p8 fi F D L ids E w) (ho : Only S w v) (hS : ∀ k, S k → w0.heap.size ≤ k) (ht : ∀ k t cs, S k → Row w k t cs → t = 34 ∨ t = 37 ∨ t = 61) :
    RQ v y B R E ∧ QLow v y w0.heap.size ∧ KR X34 B w0 v ∧ ∀ r ∈ L, REnt v r := by
  obtain ⟨cs, hc, hb⟩ := h.low
  have hny : ¬ S y := fun hs => by rcases ht y _ _ hs hc with e | e | e <;> exact absurd e (by decide)
  have h5 : ∀ g cs, Row w g 5 cs → ¬ S g := fun g cs hr hs => by rcases ht g _ _ hs hr with e | e | e <;> exact absurd e (by decide)
  exact ⟨h.q.above h.low ho hny hS h5, ⟨cs, hc.only ho hny, hb⟩, h.kr.fresh ho hS, fun r hr => (h.ent r hr).only ho h5⟩
theorem DC.set (h : DC B y R w0 p8 fi F D L ids E w) (i : Nat) (x : Value) : RQ (w.setCell ⟨p8, i, none⟩ x) y B R E ∧ QLow (w.setCell ⟨p8, i, none⟩ x) y w0.heap.size ∧ KR X34 B w0 (w.setCell ⟨p8, i, none⟩ x) ∧ (∀ r ∈ L, REnt (w.setCell ⟨p8, i, none⟩ x) r) ∧
    (w.setCell ⟨p8, i, none⟩ x).ownsRow w0.heap.size 34 1 F L.length (L.map RowB.v) ∧ (w.setCell ⟨p8, i, none⟩ x).ownsRow w0.heap.size 37 1 D ids.length (idsV ids) ∧ Row (w.setCell ⟨p8, i, none⟩ x) w0.heap.size 61 #[.int .i64 0, .slice none 0 0, .slice none 0 0] := by
  have ho : Only (fun k => k = p8) w (w.setCell ⟨p8, i, none⟩ x) := (Only.refl (fun k => k = p8) w).set (p := ⟨p8, i, none⟩) (.inl rfl) _
  have ha := h.above
  obtain ⟨h1, h2, h3, h4⟩ := h.mem ho (fun k e => by omega) (fun k t cs e hr => by subst e; exact .inr (.inr (qlrow_same hr h.prow)))
  exact ⟨h1, h2, h3, h4, own_only h.rows ho (fun k hk e => by subst e; exact own_apart h.rows h.prow (by decide) hk), own_only h.ids ho (fun k hk e => by subst e; exact own_apart h.ids h.prow (by decide) hk), h.res.only ho (by omega)⟩
theorem DC.setfi (h : DC B y R w0 p8 fi F D L ids E w) (z : Int) : DC B y R w0 p8 z F D L ids E (w.setCell ⟨p8, 0, none⟩ (.int .i64 z)) := by
  obtain ⟨h1, h2, h3, h4, h5, h6, h7⟩ := h.set 0 (.int .i64 z)
  exact ⟨h1, h2, h.b8, h3, h5, h4, h6, h7, h.prow.written 0 _, h.above⟩
theorem DC.addRow (h : DC B y R w0 p8 fi F D L ids E w) (r : RowB) (hL : L.length ≤ 1000) (hr : REnt w r) :
    ∃ A' c' w2, (Builtin.append_ #[29, 29] 29 #[F, .slice (some ⟨w.heap.size, 0, none⟩) 1 1]).run Try.prog (w.alloc (.cells #[r.v] 34)) = .ok (.slice A' (L.length + 1) c') w2 ∧
      Row w2 p8 61 #[.int .i64 fi, F, D] ∧ DC B y R w0 p8 fi (.slice A' (L.length + 1) c') D (L ++ [r]) ids E (w2.setCell ⟨p8, 1, none⟩ (.slice A' (L.length + 1) c')) := by
  obtain ⟨A', c', w2, hrun, hown, hon⟩ := own_next (T := 29) (E := 34) (u := r.v) (by kernel_rfl) (show (Try.prog.info? 34).map (fun i => (i.zero, i.size, i.bytes)) = some (some (.slice none 0 0), 1, 24) by kernel_rfl) rfl (by omega) rfl h.rows h.kr.size (by omega)
  have hS : ∀ k, F.ownBlock = some k → w0.heap.size ≤ k := fun k hk => (own_block h.rows k hk).1
  have hty : ∀ k t cs, F.ownBlock = some k → Row w k t cs → t = 34 := fun k t cs hk hr' => by
    rcases Nat.decEq 34 t with h9 | h9
    · exact absurd hk (own_apart h.rows hr' h9)
    · exact h9.symm
  obtain ⟨h1, h2, h3, h4⟩ := h.mem hon hS (fun k t cs hk hr' => .inl (hty k t cs hk hr'))
  have hp : Row w2 p8 61 #[.int .i64 fi, F, D] := h.prow.only hon (own_apart h.rows h.prow (by decide))
  have hd : w2.ownsRow w0.heap.size 37 1 D ids.length (idsV ids) := own_only h.ids hon (fun k hk hs => by
    obtain ⟨cs, hc⟩ : ∃ cs, Row w k 37 cs := by
      rcases h.ids.2 with ⟨e, _⟩ | ⟨g, cap, cur, e, _, hh, _⟩
      · rw [e] at hk; simp [Value.ownBlock] at hk
      · rw [e] at hk
        have e2 : g = k := by simpa [Value.ownBlock] using hk
        subst e2
        exact ⟨cur, hh⟩
    exact absurd (hty k _ _ hs hc) (by decide))
  have hres : Row w2 w0.heap.size 61 #[.int .i64 0, .slice none 0 0, .slice none 0 0] := h.res.only hon (own_apart h.rows h.res (by decide))
  have hr2 : REnt w2 r := hr.only hon (fun g cs hc hs => absurd (hty g _ _ hs hc) (by decide))
  have hI : DC B y R w0 p8 fi F D [] ids E w2 → True := fun _ => trivial
  refine ⟨A', c', w2, hrun, hp, ?_⟩
  have ho : Only (fun k => k = p8) w2 (w2.setCell ⟨p8, 1, none⟩ (.slice A' (L.length + 1) c')) := (Only.refl (fun k => k = p8) w2).set (p := ⟨p8, 1, none⟩) (.inl rfl) _
  have ha := h.above
  obtain ⟨cs, hc, hb⟩ := id h2
  have hny : y ≠ p8 := fun e => by subst e; exact absurd (qlrow_same hc hp) (by decide)
  have h5 : ∀ g cs, Row w2 g 5 cs → ¬ g = p8 := fun g cs hr' e => by subst e; exact absurd (qlrow_same hr' hp) (by decide)
  exact ⟨h1.above h2 ho hny (fun k e => by omega) h5, ⟨cs, hc.only ho hny, hb⟩, h.b8, h3.fresh ho (fun k e => by omega), by
      rw [List.length_append, List.map_append]
      exact own_only hown ho (fun k hk e => by subst e; exact own_apart hown hp (by decide) hk), fun x hx => by
      rcases List.mem_append.1 hx with q | q
      · exact (h4 x q).only ho h5
      · rw [List.mem_singleton] at q; subst q; exact hr2.only ho h5, own_only hd ho (fun k hk e => by subst e; exact own_apart hd hp (by decide) hk), hres.only ho (by omega), hp.written 1 _, ha⟩
theorem DC.addId (h : DC B y R w0 p8 fi F D L ids E w) (i : Nat) (hL : ids.length ≤ 1000) :
    ∃ A' c' w2, (Builtin.append_ #[44, 44] 44 #[D, .slice (some ⟨w.heap.size, 0, none⟩) 1 1]).run Try.prog (w.alloc (.cells #[.int .u64 (i : Nat)] 37)) = .ok (.slice A' (ids.length + 1) c') w2 ∧
      Row w2 p8 61 #[.int .i64 fi, F, D] ∧ DC B y R w0 p8 fi F (.slice A' (ids.length + 1) c') L (ids ++ [i]) E (w2.setCell ⟨p8, 2, none⟩ (.slice A' (ids.length + 1) c')) := by
  obtain ⟨A', c', w2, hrun, hown, hon⟩ := own_next (T := 44) (E := 37) (u := .int .u64 (i : Nat)) (by kernel_rfl) (show (Try.prog.info? 37).map (fun i => (i.zero, i.size, i.bytes)) = some (some (.int .u64 0), 1, 8) by kernel_rfl) rfl (by omega) rfl h.ids h.kr.size (by omega)
  have hS : ∀ k, D.ownBlock = some k → w0.heap.size ≤ k := fun k hk => (own_block h.ids k hk).1
  have hty : ∀ k t cs, D.ownBlock = some k → Row w k t cs → t = 37 := fun k t cs hk hr' => by
    rcases Nat.decEq 37 t with h9 | h9
    · exact absurd hk (own_apart h.ids hr' h9)
    · exact h9.symm
  obtain ⟨h1, h2, h3, h4⟩ := h.mem hon hS (fun k t cs hk hr' => .inr (.inl (hty k t cs hk hr')))
  have hp : Row w2 p8 61 #[.int .i64 fi, F, D] := h.prow.only hon (own_apart h.ids h.prow (by decide))
  have hd : w2.ownsRow w0.heap.size 34 1 F L.length (L.map RowB.v) := own_only h.rows hon (fun k hk hs => by
    obtain ⟨cs, hc⟩ : ∃ cs, Row w k 34 cs := by
      rcases h.rows.2 with ⟨e, _⟩ | ⟨g, cap, cur, e, _, hh, _⟩
      · rw [e] at hk; simp [Value.ownBlock] at hk
      · rw [e] at hk
        have e2 : g = k := by simpa [Value.ownBlock] using hk
        subst e2
        exact ⟨cur, hh⟩
    exact absurd (hty k _ _ hs hc) (by decide))
  have hres : Row w2 w0.heap.size 61 #[.int .i64 0, .slice none 0 0, .slice none 0 0] := h.res.only hon (own_apart h.ids h.res (by decide))
  refine ⟨A', c', w2, hrun, hp, ?_⟩
  have ho : Only (fun k => k = p8) w2 (w2.setCell ⟨p8, 2, none⟩ (.slice A' (ids.length + 1) c')) := (Only.refl (fun k => k = p8) w2).set (p := ⟨p8, 2, none⟩) (.inl rfl) _
  have ha := h.above
  obtain ⟨cs, hc, hb⟩ := id h2
  have hny : y ≠ p8 := fun e => by subst e; exact absurd (qlrow_same hc hp) (by decide)
  have h5 : ∀ g cs, Row w2 g 5 cs → ¬ g = p8 := fun g cs hr' e => by subst e; exact absurd (qlrow_same hr' hp) (by decide)
  exact ⟨h1.above h2 ho hny (fun k e => by omega) h5, ⟨cs, hc.only ho hny, hb⟩, h.b8, h3.fresh ho (fun k e => by omega), own_only hd ho (fun k hk e => by subst e; exact own_apart hd hp (by decide) hk), fun x hx => (h4 x hx).only ho h5, by
      rw [List.length_append, show idsV (ids ++ [i]) = idsV ids ++ [.int .u64 (i : Nat)] by simp [idsV]]
      exact own_only hown ho (fun k hk e => by subst e; exact own_apart hown hp (by decide) hk), hres.only ho (by omega), hp.written 2 _, ha⟩
/-- what the call's own memory holds, behind a change of the result's own block -/
theorem DC.close (h : DC B y R w0 p8 fi F D L ids E w) (ho : Only (fun k => k = w0.heap.size) w v) : RQ v y B R E ∧ KR X34 B w0 v ∧ (∀ r ∈ L, REnt v r) ∧ v.ownsRow w0.heap.size 34 1 F L.length (L.map RowB.v) ∧ v.ownsRow w0.heap.size 37 1 D ids.length (idsV ids) := by
  obtain ⟨h1, h2, h3, h4⟩ := h.mem ho (fun k e => by omega) (fun k t cs e hr => by subst e; exact .inr (.inr (qlrow_same hr h.res)))
  exact ⟨h1, h3, h4, own_only h.rows ho (fun k hk e => by subst e; exact own_apart h.rows h.res (by decide) hk), own_only h.ids ho (fun k hk e => by subst e; exact own_apart h.ids h.res (by decide) hk)⟩
theorem rsrc_ent {m n c : Nat} {A : Option Addr} (h : w.ownsRow m 34 1 (.slice A n c) L.length (L.map RowB.v)) (h2 : ∀ r ∈ L, REnt w r) : RSrc w A L := by
  rcases h.2 with ⟨e, h0⟩ | ⟨g, cap, cur, e, _, _, _⟩
  · intro h9
    omega
  · injection e with e1 e2 e3
    subst e1
    exact fun _ => ⟨_, rfl, fun k r hr => ⟨h.cells (g := g) rfl k _ (by rw [List.getElem?_map, hr]; rfl), (h2 r (List.mem_of_getElem? hr)).ok⟩⟩
end
section
variable {w v : World} {y B : Nat} {R : Int} {ts r : List Txt} {t : Txt} {E : List Ent} {e : Ent}
/-- the first text whole -/
def DTake (B y : Nat) (R : Int) (m : Nat) (e : Ent) (n : Nat) (b : Bool) (l : List (Nat × List Nat × Bool)) (w : World) (x : Ending) (w3 : World) : Prop :=
  x = .returned (.tuple #[.slice (some ⟨e.g, e.tk, none⟩) n (e.c - e.tk), .bool b, .int .i64 0]) ∧ KR X34 B w w3 ∧ ∃ E', RQ w3 y B R E' ∧ E'.length = m ∧ (∀ e ∈ E', ∀ b ∈ e.bs, b < 256) ∧ live 0 E' = l
theorem dq_all (hq : RQ w y B R E) (hB : B ≤ w.heap.size) (h8 : ∀ e ∈ E, ∀ b ∈ e.bs, b < 256) (h : HeadE E e t r) :
    Calls Try.prog 18 #[.pointer (some ⟨y, 0, none⟩), .int .i64 t.bs.length] w (DTake B y R E.length e t.bs.length true (tx r) w) := by
  have h1 := dq_take t.bs.length hq hB h8 h (h.bounds hq).1 (Nat.le_refl _)
  rw [if_pos rfl, beq_self_eq_true] at h1
  exact h1
theorem dq_some (n : Nat) (hq : RQ w y B R E) (hB : B ≤ w.heap.size) (h8 : ∀ e ∈ E, ∀ b ∈ e.bs, b < 256) (h : HeadE E e t r) (hn1 : 1 ≤ n) (hn2 : n < t.bs.length) :
    Calls Try.prog 18 #[.pointer (some ⟨y, 0, none⟩), .int .i64 n] w (DTake B y R E.length e n false ((t.id, t.bs.drop n, true) :: tx r) w) := by
  have h1 := dq_take n hq hB h8 h hn1 (by omega)
  rw [if_neg (by omega), show (n == t.bs.length) = false by simp; omega] at h1
  exact h1
end
end Go.Proofs.Ytbcjfdhphpckfaa
namespace Go.Proofs.Ytbcjfdhphpckfaa
open Go.RowKit

/-- an entity, and the document's queue, by one list -/
structure PB (w : World) (x p y B : Nat) (room : Int) (c : Cf) (ts : List Txt) (E : List Ent) : Prop where
  q : QB w p y B room ts E
  e : Row w x 101 (ECells c (.pointer (some ⟨p, 0, none⟩)))
theorem not_xq_ent : ¬ XQ 101 := by unfold XQ; decide
theorem not_xq_u8 : ¬ XQ 5 := by unfold XQ; decide
section
variable {w v : World} {x p y B : Nat} {room : Int} {c : Cf} {ts r : List Txt} {t : Txt} {E : List Ent} {e : Ent}
theorem PB.later (h : PB w x p y B room c ts E) (hb : Below w.heap.size w v) : PB v x p y B room c ts E := ⟨h.q.later hb, h.e.later hb⟩
theorem QBytes.kr9 {X : TypeId → Prop} {g : Nat} {l : List Nat} (h : QBytes w g l) (hk : KR X B w v) (h5 : ¬ X 5) : QBytes v g l := by
  obtain ⟨cs, h1, h2⟩ := h
  exact ⟨cs, hk.rows _ _ _ h1 h5, h2⟩
theorem QB.text (h : QB w p y B room ts E) : ∀ t ∈ ts, 0 < t.bs.length ∧ t.bs.length ≤ 1000 ∧ ∀ b ∈ t.bs, b < 256 := by
  intro t ht
  have h1 : (t.id, t.bs, t.bg) ∈ tx ts := List.mem_map.2 ⟨t, ht, rfl⟩
  rw [h.link] at h1
  have key : ∀ (F : List Ent) (k : Nat) (q : Nat × List Nat × Bool), (∀ e ∈ F, e ∈ E) → q ∈ live k F → ∃ e ∈ E, e.gone = false ∧ q.2.1 = e.bs.drop e.tk := by
    intro F
    induction F with
    | nil => intro k q _ hq; cases hq
    | cons e r ih =>
      intro k q hm hq
      rw [live_cons] at hq
      split at hq
      · exact ih (k + 1) q (fun e' he => hm e' (List.mem_cons_of_mem _ he)) hq
      · rename_i hg
        rcases List.mem_cons.1 hq with rfl | hq
        · exact ⟨e, hm e List.mem_cons_self, by simpa using hg, rfl⟩
        · exact ih (k + 1) q (fun e' he => hm e' (List.mem_cons_of_mem _ he)) hq
  obtain ⟨e, he, hg, hb⟩ := key E 0 _ (fun e he => he) h1
  obtain ⟨e1, e2, e3, e4, _⟩ := h.r.ent e he
  have hb : t.bs = e.bs.drop e.tk := hb
  have h4 := e4 hg
  rw [hb]
  refine ⟨by rw [List.length_drop]; omega, by rw [List.length_drop]; omega, fun b hb' => h.b8 e he b (List.mem_of_mem_drop hb')⟩
theorem pb_push (A : Option Addr) (l : List Nat) (k : Nat) (h : PB w x p y B room c ts E) (hE : E.length ≤ 190) (hll : l.length ≤ 9223372036854775807) (hl8 : ∀ b ∈ l, b < 256) (hsrc : ∀ W, KR XQ B w W → QSrcB W A (qbts l)) :
    ∃ (nid : Nat) (er : Int), Calls Try.prog 55 #[.pointer (some ⟨x, 0, none⟩), .slice A l.length k] w fun e w1 => e = .returned (.tuple #[.int .u64 nid, .int .i64 er]) ∧ KR XQ B w w1 ∧
      Calls Try.prog 16 #[.pointer (some ⟨y, 0, none⟩), .slice A l.length k] w1 fun e w3 => e = .returned (.tuple #[.int .u64 nid, .int .i64 er]) ∧ KR XQ B w1 w3 ∧ ∃ ts' E', PB w3 x p y B room c ts' E' ∧ E'.length ≤ E.length + 1 := by
  obtain ⟨nid, er, hc⟩ := both_push A l k h.q hE hll hl8 hsrc
  refine ⟨nid, er, (via_push (equeue_any h.e) hc).mono ?_⟩
  rintro e w1 ⟨rfl, hk1, hc1⟩
  refine ⟨rfl, hk1, hc1.mono ?_⟩
  rintro e w3 ⟨rfl, hk3, ts', E', hq, hl⟩
  exact ⟨rfl, hk3, ts', E', ⟨hq, hk3.other (hk1.other h.e not_xq_ent) not_xq_ent⟩, hl⟩
theorem pb_disc (h : PB w x p y B room c ts E) (n : Nat) (hn : n < 18446744073709551616) : ∃ er : Int, Calls Try.prog 58 #[.pointer (some ⟨x, 0, none⟩), .int .u64 n] w fun e w1 => e = .returned (.int .i64 er) ∧ KR XQ B w w1 ∧
    Calls Try.prog 20 #[.pointer (some ⟨y, 0, none⟩), .int .u64 n] w1 fun e w3 => e = .returned (.int .i64 er) ∧ KR XQ B w1 w3 ∧ ∃ ts' E', PB w3 x p y B room c ts' E' ∧ E'.length = E.length := by
  obtain ⟨er, hc⟩ := both_disc h.q n hn
  refine ⟨er, (via_disc (equeue_any h.e) hc).mono ?_⟩
  rintro e w1 ⟨rfl, hk1, hc1⟩
  refine ⟨rfl, hk1, hc1.mono ?_⟩
  rintro e w3 ⟨rfl, hk3, ts', E', hq, hl⟩
  exact ⟨rfl, hk3, ts', E', ⟨hq, hk3.other (hk1.other h.e not_xq_ent) not_xq_ent⟩, hl⟩
theorem pb_bytes (h : PB w x p y B room c ts E) : Calls Try.prog 59 #[.pointer (some ⟨x, 0, none⟩)] w fun e w1 => e = .returned (.int .i64 (bytesF ts : Nat)) ∧ KR XQ B w w1 ∧
    Calls Try.prog 27 #[.pointer (some ⟨y, 0, none⟩)] w1 fun e w3 => e = .returned (.int .i64 (bytesF ts : Nat)) ∧ KR XQ B w1 w3 ∧ PB w3 x p y B room c ts E := by
  refine (via_bytes (equeue_any h.e) (both_bytes h.q)).mono ?_
  rintro e w1 ⟨rfl, hk1, hc1⟩
  refine ⟨rfl, hk1, hc1.mono ?_⟩
  rintro e w3 ⟨rfl, hk3, hq⟩
  exact ⟨rfl, hk3, hq, hk3.other (hk1.other h.e not_xq_ent) not_xq_ent⟩
theorem pb_reset (h : PB w x p y B room c ts E) : Calls Try.prog 60 #[.pointer (some ⟨x, 0, none⟩)] w fun e w1 => ∃ A, e = .returned (.slice A ts.length ts.length) ∧ KR XQ B w w1 ∧
    Calls Try.prog 23 #[.pointer (some ⟨y, 0, none⟩)] w1 fun e w3 => ∃ A c', e = .returned (.slice A ts.length c') ∧ KR XQ B w1 w3 ∧ ∃ ts' E', PB w3 x p y B room c ts' E' ∧ E'.length = E.length := by
  refine via_clear (equeue_any h.e) ((both_clear h.q).mono ?_)
  rintro e w1 ⟨g, rfl, _, _, hk1, hc1⟩
  refine ⟨_, rfl, hk1, hc1.mono ?_⟩
  rintro e w3 ⟨A, c', rfl, _, hk3, hq, hl⟩
  exact ⟨A, c', rfl, hk3, [], _, ⟨hq, hk3.other (hk1.other h.e not_xq_ent) not_xq_ent⟩, hl⟩
/-- both values read as one string -/
def Reads (w : World) (a : Value) (l : List Nat) : Prop := (convert 34 9 a).run Try.prog w = .ok (.string (strOf l)) w
theorem reads_none (w : World) : Reads w (.slice none 0 0) [] := conv_src (A := none) (l := []) 0 0 rfl (fun h0 => absurd h0 (by simp [bts])) (by simp)
theorem QB.tail (h : QB w p y B room (t :: r) E) : (bytesF r : Int) ≤ room ∧ r.length ≤ 64 := by
  have h1 := h.bt
  have h2 := h.ln
  have h3 := bytesF_cons t r
  rw [List.length_cons] at h2
  omega
set_option maxHeartbeats 800000 in
theorem pb_build (h : PB w x p y B room c ts E) (g : Int) : Calls Try.prog 56 #[.pointer (some ⟨x, 0, none⟩), .int .i64 g] w fun e w1 => ∃ (a1 : Value) (id : Nat) (er : Int), e = .returned (.tuple #[a1, .int .u64 id, .int .i64 er]) ∧ KR XQ B w w1 ∧
    Calls Try.prog 62 #[.pointer (some ⟨y, 0, none⟩), .int .i64 g] w1 fun e w3 => ∃ (a2 : Value) (l : List Nat), e = .returned (.tuple #[a2, .int .u64 id, .int .i64 er]) ∧ KR XQ B w1 w3 ∧ (∃ ts' E', PB w3 x p y B room c ts' E' ∧ E'.length = E.length) ∧ Reads w3 a1 l ∧ Reads w3 a2 l := by
  have hr0 := h.q.r0
  by_cases hg : g < 0 ∨ 4096 < g
  · refine (ebuild_arg g h.e h.q.c hr0 (fun t ht => by have := h.q.text t ht; omega) hg).mono ?_
    rintro e w1 ⟨rfl, hb1⟩
    refine ⟨_, 0, 1, rfl, KR.of_below h.q.hB hb1, (rbuild_arg g w1 hg).mono ?_⟩
    rintro e _ ⟨rfl, rfl⟩
    exact ⟨_, [], rfl, KR.refl _ (Nat.le_trans h.q.hB hb1.size), ⟨ts, E, h.later hb1, rfl⟩, reads_none _, reads_none _⟩
  · have hg0 : 0 ≤ g := by omega
    have hg1 : g ≤ 4096 := by omega
    cases ts with
    | nil =>
      refine (ebuild_none g h.e h.q.c hr0 hg0 hg1).mono ?_
      rintro e _ ⟨rfl, rfl⟩
      refine ⟨_, 0, 4, rfl, KR.refl _ h.q.hB, (rbuild_none g hg0 hg1 ((rq_front_none h.q.r h.q.empty).mono (fun e w' hh => hh))).mono ?_⟩
      rintro e _ ⟨rfl, rfl⟩
      exact ⟨_, [], rfl, KR.refl _ h.q.hB, ⟨[], E, h, rfl⟩, reads_none _, reads_none _⟩
    | cons t r =>
      obtain ⟨ht0, ht1, ht2⟩ := h.q.text t (List.mem_cons_self ..)
      obtain ⟨e0, he⟩ := head_of h.q.link
      have hid : 0 < t.id := by rw [he.id]; omega
      by_cases hgt : g < (t.bs.length : Int)
      · refine (ebuild_grant g h.e h.q.c hr0 hg0 hg1 ht0 (by omega) hgt).mono ?_
        rintro e w1 ⟨rfl, hb1⟩
        have h' := h.later hb1
        refine ⟨_, 0, 16, rfl, KR.of_below h.q.hB hb1, (rbuild_grant (P := fun w3 => Below w1.heap.size w1 w3) g hg0 hg1 hid hgt (dq_front h'.q.r he)).mono ?_⟩
        rintro e w3 ⟨rfl, hb3⟩
        exact ⟨_, [], rfl, KR.of_below h'.q.hB hb3, ⟨t :: r, E, h'.later hb3, rfl⟩, reads_none _, reads_none _⟩
      · have htl := h.q.tail
        refine (ebuild_ok g h.e h.q.c hr0 hg1 ht0 (by omega) (by omega) (by omega)).mono ?_
        rintro e w1 ⟨g1, rfl, hge, hqb, ho1, hq1⟩
        have hk1 : KR XQ B w w1 := (ho1.kr h.q.hB).weaker (fun t e => by unfold XQ; rcases e with e | e; exact .inl e; exact .inr (.inl e))
        have hr1 := h.q.r.byQ ho1
        have hB1 := Nat.le_trans h.q.hB ho1.size
        have hE1 := hk1.other h.e not_xq_ent
        refine ⟨_, t.id, 0, rfl, hk1, (rbuild_ok (A := some ⟨e0.g, e0.tk, none⟩) (id := t.id) (n := t.bs.length) (c := e0.c - e0.tk) (b := t.bg) (P := fun w3 => KR X34 B w1 w3 ∧ ∃ E', RQ w3 y B room E' ∧ E'.length = E.length ∧ (∀ e ∈ E', ∀ b ∈ e.bs, b < 256) ∧ live 0 E' = tx r) g hg1 hid (by omega) ((dq_front hr1 he).mono ?_)).mono ?_⟩
        · rintro e w2 ⟨rfl, hb2⟩
          refine ⟨rfl, (dq_all (hr1.later hb2) (Nat.le_trans hB1 hb2.size) h.q.b8 he).mono ?_⟩
          rintro e w3 ⟨rfl, hk3, hE3⟩
          exact ⟨⟨_, _, _, rfl⟩, (KR.of_below hB1 hb2).trans hk3, hE3⟩
        · rintro e w3 ⟨rfl, hk3, E', hr3, hm3, h83, hl3⟩
          have hk3' : KR XQ B w1 w3 := hk3.weaker (fun t e => by unfold X34 at e; unfold XQ; rcases e with e | e <;> simp [e])
          refine ⟨_, t.bs, rfl, hk3', ⟨r, E', ⟨⟨?_, hr3, h.q.hy, Nat.le_trans hB1 hk3.size, hl3.symm, h.q.r0, h.q.r1, htl.1, htl.2, h83⟩, hk3'.other hE1 not_xq_ent⟩, hm3⟩, ?_, ?_⟩
          · rw [hm3]
            exact hq1.kr hk3 (by unfold X34; decide) (by unfold X34; decide) (by unfold X34; decide)
          · exact qb_conv _ _ rfl (hqb.kr9 hk3 (by unfold X34; decide)) ht2
          · have hmem := List.mem_of_getElem? he.at_
            have hok : e0.ok B w3 := by
              obtain ⟨e1, e2, e3, e4, e5, e6, e7, cs, e8, e9⟩ := hr1.ent e0 hmem
              exact ⟨e1, e2, e3, e4, e5, e6, e7, cs, hk3.rows _ _ _ e8 (by unfold X34; decide), e9⟩
            have h9 := Ent.conv_rest hok (h.q.b8 e0 hmem) (e0.c - e0.tk)
            rw [← he.bs] at h9
            exact h9
theorem pb_hear {A : Option Addr} {bs : List Nat} (bits win reo prx pro ppd pby mrx qb : Int) (n cap : Nat) (h : PB w x p y B room ⟨0, bits, win, reo, prx, pro, ppd, pby, mrx, qb⟩ ts E) (hck : checkF ⟨0, bits, win, reo, prx, pro, ppd, pby, mrx, qb⟩ = 0) (hn : bs.length = n) (hs : Src w A (bts bs)) (hb : ∀ b ∈ bs, b < 256) :
    Calls Try.prog 57 #[.pointer (some ⟨x, 0, none⟩), .slice A n cap] w fun e w1 => ∃ (a1 : Value) (er : Int), e = .returned (.tuple #[a1, .int .i64 er]) ∧ Below w.heap.size w w1 ∧
      Calls Try.prog 63 #[.slice A n cap] w1 fun e w3 => ∃ (a2 : Value) (l : List Nat), e = .returned (.tuple #[a2, .int .i64 er]) ∧ w1 = w3 ∧ Reads w3 a1 l ∧ Reads w3 a2 l := by
  by_cases hm : n = 0 ∨ 1000 < n
  · refine (ehear_no bits win reo prx pro ppd pby mrx qb n cap w h.e hck hn hm hs hb).mono ?_
    rintro e w1 ⟨rfl, hb1⟩
    refine ⟨_, _, rfl, hb1, (rhear_any n cap w1).mono ?_⟩
    rintro e _ ⟨rfl, rfl⟩
    refine ⟨.slice none 0 0, [], ?_, rfl, reads_none _, reads_none _⟩
    by_cases h0 : n = 0
    · rw [if_pos h0, if_pos h0]
    · rw [if_neg h0, if_neg h0, if_pos (by omega)]
  · refine (ehear_ok bits win reo prx pro ppd pby mrx qb n cap w h.e hck hn (by omega) (by omega) hs hb).mono ?_
    rintro e w1 ⟨g, rfl, hq, hb1⟩
    refine ⟨_, 0, rfl, hb1, (rhear_any n cap w1).mono ?_⟩
    rintro e _ ⟨rfl, rfl⟩
    refine ⟨.slice A n cap, bs, ?_, rfl, qb_conv _ _ hn hq hb, conv_src n cap hn (src_later hs hb1) hb⟩
    rw [if_neg (by omega), if_neg (by omega)]
end
end Go.Proofs.Ytbcjfdhphpckfaa
namespace Go.Proofs.Ytbcjfdhphpckfaa
open Go.RowKit

theorem us2 (w : World) : Calls Try.prog 140 #[.int .i64 2] w fun e w' => e = .returned (.agg #[.int .i64 2, .int .i64 10, .int .i64 512, .int .i64 4, .int .i64 8, .int .i64 3, .int .i64 4, .int .i64 500, .int .i64 4, .int .i64 5000]) ∧ Below w.heap.size w w' := pusual_any 2 w
theorem ck0 (w : World) : Calls Try.prog 135 #[.agg #[.int .i64 0, .int .i64 0, .int .i64 0, .int .i64 0, .int .i64 0, .int .i64 0, .int .i64 0, .int .i64 0, .int .i64 0, .int .i64 0]] w fun e w' => e = .returned (.int .i64 1) ∧ Below w.heap.size w w' := by
  have h := pcheck_any ⟨0, 0, 0, 0, 0, 0, 0, 0, 0, 0⟩ w
  rw [show checkF ⟨0, 0, 0, 0, 0, 0, 0, 0, 0, 0⟩ = 1 from by decide +kernel] at h
  exact h
theorem ck3 (w : World) : Calls Try.prog 135 #[.agg #[.int .i64 3, .int .i64 0, .int .i64 0, .int .i64 0, .int .i64 0, .int .i64 0, .int .i64 0, .int .i64 0, .int .i64 0, .int .i64 0]] w fun e w' => e = .returned (.int .i64 9) ∧ Below w.heap.size w w' := by
  have h := pcheck_any ⟨3, 0, 0, 0, 0, 0, 0, 0, 0, 0⟩ w
  rw [show checkF ⟨3, 0, 0, 0, 0, 0, 0, 0, 0, 0⟩ = 9 from by decide +kernel] at h
  exact h
end Go.Proofs.Ytbcjfdhphpckfaa
