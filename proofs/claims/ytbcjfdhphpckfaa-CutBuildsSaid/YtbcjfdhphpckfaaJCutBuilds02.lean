/-
  The document's queue: its front; a text discarded. What a queue holds in memory: texts, each with its bytes; a list that may share its memory with an older one.
-/
import Derived.Test.YtbcjfdhphpckfaaJCutBuilds01
import Derived.BigQuiet
import Derived.StillTailTactics
import Derived.Laws.BytesString
import Derived.Laws.IdiomStrings
namespace Go.Proofs.Ytbcjfdhphpckfaa
open Go.RowKit

def S34 (B : Nat) (w : World) (k : Nat) : Prop := B ≤ k ∧ ∃ t cs, Row w k t cs ∧ (t = 3 ∨ t = 4)
section
variable {w v : World} {y B : Nat} {room : Int} {E : List Ent} {AL AT AG : Option Addr} {cL cT cG : Nat}
theorem rq_front_none (h : RQ w y B room E) (hf : fE E = E.length) : Calls Try.prog 25 #[.pointer (some ⟨y, 0, none⟩)] w fun e w' => e = .returned (.tuple #[.int .u64 0, .slice none 0 0, .bool false]) ∧ w = w' := by
  have HF := Lib.hid (by have h1 := rq_first h; rw [show fEi E = -1 by unfold fEi; rw [if_neg (by omega)]] at h1; exact h1)
  clear h hf
  go_enter Try.func25, Try.ntmps25
  go_wp2_with (go_at_call 112; (with_reducible refine HF.out.mono ?_); rintro e w1 ⟨rfl, rfl⟩)
  go_ret3
  exact ⟨rfl, rfl⟩
set_option maxRecDepth 100000 in
set_option maxHeartbeats 3200000 in
theorem rq_front (h : RQ w y B room E) {e : Ent} (he : E[fE E]? = some e) : Calls Try.prog 25 #[.pointer (some ⟨y, 0, none⟩)] w fun r w' => r = .returned (.tuple #[.int .u64 ((fE E : Int) + 1), .slice (some ⟨e.g, e.tk, none⟩) (e.bs.length - e.tk) (e.c - e.tk), .bool (decide (0 < e.tk))]) ∧ Below w.heap.size w w' := by
  have hlt := (List.getElem?_eq_some_iff.1 he).1
  have HF := Lib.hid (by have h1 := rq_first h; rw [show fEi E = (fE E : Int) by unfold fEi; rw [if_pos hlt]] at h1; exact h1)
  obtain ⟨AL, cL, AT, cT, AG, cG, hr, hl⟩ := h.row
  obtain ⟨g1, rfl, z1⟩ := (own_at hl.t).cell (eT_at he)
  obtain ⟨g2, rfl, z2⟩ := (own_at hl.l).cell (eL_at he)
  obtain ⟨e1, e2, e3, e4, e5, e6, _⟩ := h.ent e (List.mem_of_getElem? he)
  have e7 := e4 (fE_at he)
  obtain ⟨c0, c1, c2, c3⟩ := qcells hr
  have hm := h.many
  generalize fE E = f at *
  generalize E.length = n at *
  generalize e.bs.length = bl at *
  obtain ⟨eg, ec, _, tk, _⟩ := e
  simp only at *
  have h1 : (f : Int) < n := by omega
  have h0 : (0 : Int) ≤ f := by omega
  have ht0 : (0 : Int) ≤ tk := by omega
  have ht1 : (tk : Int) ≤ bl := by omega
  have hu : IntKind.u64.wrap ((f : Int) + 1) = (f : Int) + 1 := by rw [IntKind.wrap_u64]; omega
  have hu0 : IntKind.u64.wrap (f : Int) = (f : Int) := by rw [IntKind.wrap_u64]; omega
  clear h hr hl he e4 hlt
  go_enter Try.func25, Try.ntmps25
  go_wp2_with (go_at_call 112; (with_reducible refine HF.out.mono ?_); rintro e w1 ⟨rfl, rfl⟩)
  go_quiet (fail)
  go_wp2
  go_ret3
  exact ⟨rfl, below_drewN (Below.refl _ _) _⟩
theorem own_row {m E' n c : Nat} {g : Nat} {xs : List Value} (h : w.ownsRow m E' 1 (.slice (some ⟨g, 0, none⟩) n c) n xs) : ∃ cs, Row w g E' cs := by
  rcases h.2 with ⟨e, _⟩ | ⟨g', cap, cur, e, _, hh, _⟩
  · cases e
  · injection e with e1 _ _
    injection e1 with e1
    injection e1 with e1
    subst e1
    exact ⟨_, hh⟩
theorem own_in {m E' n c : Nat} {g : Nat} {xs : List Value} (h : w.ownsRow m E' 1 (.slice (some ⟨g, 0, none⟩) n c) n xs) : g < w.heap.size := (h.lt g rfl).2
theorem own_free {m E' n c i : Nat} {g : Nat} {xs : List Value} (h : w.ownsRow m E' 1 (.slice (some ⟨g, 0, none⟩) n c) n xs) : w.frozen? ⟨g, i, none⟩ = false := by
  rcases h.2 with ⟨e, _⟩ | ⟨g', cap, cur, e, _, hh, _⟩
  · cases e
  · injection e with e1 _ _
    injection e1 with e1
    injection e1 with e1
    subst e1
    exact Row.free hh i
theorem RL.later (h : RL w B E AL AT AG cL cT cG) (hb : Below w.heap.size w v) : RL v B E AL AT AG cL cT cG := ⟨own_after h.l hb, own_after h.t hb, own_after h.g hb⟩
theorem own_put {m E' n c i : Nat} {g : Nat} {xs : List Value} (h : w.ownsRow m E' 1 (.slice (some ⟨g, 0, none⟩) n c) n xs) (u : Value) : (w.setCell ⟨g, i, none⟩ u).ownsRow m E' 1 (.slice (some ⟨g, 0, none⟩) n c) n (xs.set i u) := by
  refine ⟨by rw [List.length_set]; exact h.1, ?_⟩
  rcases h.2 with ⟨e, _⟩ | ⟨g', cap, cur, e, h2, h3, h4, h5, h6, h7⟩
  · cases e
  · injection e with e1 _ e3
    injection e1 with e1
    injection e1 with e1
    subst e1 e3
    refine .inr ⟨g, c, cur.setIfInBounds i u, rfl, h2, Row.written (t := E') (cs := cur) h3 i u, h4, h5, by simp [h6], ?_⟩
    rw [Array.toList_setIfInBounds, List.take_set, h7]
theorem set_eL {i : Nat} {e : Ent} (he : E[i]? = some e) (t' : Nat) (g' : Bool) : eL (E.set i { e with tk := t', gone := g' }) = eL E := by
  unfold eL
  rw [List.map_set]
  refine List.ext_getElem? fun j => ?_
  rw [List.getElem?_set]
  split
  · rename_i hj; subst hj
    split
    · rw [List.getElem?_map, he]; rfl
    · rename_i h9; rw [List.getElem?_eq_none (by omega)]
  · rfl
theorem set_eT {i : Nat} (e : Ent) (t' : Nat) (g' : Bool) : eT (E.set i { e with tk := t', gone := g' }) = (eT E).set i (.int .i64 (t' : Int)) := by
  unfold eT
  rw [List.map_set]
theorem set_eG {i : Nat} (e : Ent) (t' : Nat) (g' : Bool) : eG (E.set i { e with tk := t', gone := g' }) = (eG E).set i (.bool g') := by
  unfold eG
  rw [List.map_set]
theorem same_at {α : Type} {xs : List α} {i : Nat} {a : α} (h : xs[i]? = some a) : xs.set i a = xs := by
  refine List.ext_getElem? fun j => ?_
  rw [List.getElem?_set]
  split
  · rename_i hj; subst hj
    split
    · exact h.symm
    · rename_i h9; rw [List.getElem?_eq_none (by omega)]
  · rfl
theorem put_typed {m E' n g i : Nat} {t : TypeId} {cs : Array Value} {x : Value} {xs : List Value} (h : w.ownsRow m E' 1 x n xs) (hr : Row w g t cs) (hne : E' ≠ t) (u : Value) : (w.setCell ⟨g, i, none⟩ u).ownsRow m E' 1 x n xs :=
  own_typed h ((Only.refl (fun k => k = g) w).set (p := ⟨g, i, none⟩) (.inl rfl) u) fun g' cs' hr' e => by
    subst e
    exact Row.apart hr' hr hne rfl
theorem Ent.ok.put {g i : Nat} {t : TypeId} {cs : Array Value} {e : Ent} (h : e.ok B w) (hr : Row w g t cs) (hne : t ≠ 5) (u : Value) : e.ok B (w.setCell ⟨g, i, none⟩ u) :=
  h.only ((Only.refl (fun k => k = g) w).set (p := ⟨g, i, none⟩) (.inl rfl) u) fun g' cs' hr' e => by
    subst e
    exact Row.apart hr hr' hne rfl
theorem Ent.ok.turn {e : Ent} (h : e.ok B w) {t' : Nat} {g' : Bool} (h1 : t' ≤ e.bs.length) (h2 : g' = false → t' < e.bs.length) : Ent.ok B w { e with tk := t', gone := g' } := by
  obtain ⟨a1, a2, _, _, a5, a6, a7, a8⟩ := h
  exact ⟨a1, a2, h1, h2, a5, a6, a7, a8⟩
theorem RQ.gone {i : Nat} {e : Ent} {g3 : Nat} (h : RQ w y B room E) (hr : Row w y 33 #[.int .i64 room, .slice AL E.length cL, .slice AT E.length cT, .slice (some ⟨g3, 0, none⟩) E.length cG]) (hl : RL w B E AL AT (some ⟨g3, 0, none⟩) cL cT cG)
    (he : E[i]? = some e) (g' : Bool) (h2 : g' = false → e.tk < e.bs.length) : RQ (w.setCell ⟨g3, i, none⟩ (.bool g')) y B room (E.set i { e with tk := e.tk, gone := g' }) := by
  obtain ⟨cs3, hr3⟩ := own_row hl.g
  have hy : y ≠ g3 := Row.apart hr hr3 (by decide)
  refine ⟨⟨AL, cL, AT, cT, some ⟨g3, 0, none⟩, cG, ?_, ⟨?_, ?_, ?_⟩⟩, fun e' he' => ?_, by rw [List.length_set]; exact h.many⟩
  · rw [List.length_set]; exact hr.elsewhere hy _
  · rw [List.length_set, set_eL he]; exact put_typed hl.l hr3 (by decide) _
  · rw [List.length_set, set_eT, same_at (eT_at he)]; exact put_typed hl.t hr3 (by decide) _
  · rw [List.length_set, set_eG]; exact own_put hl.g _
  · rcases List.mem_or_eq_of_mem_set he' with h5 | h5
    · exact (h.ent e' h5).put hr3 (by decide) _
    · subst h5
      exact ((h.ent e (List.mem_of_getElem? he)).put hr3 (by decide) _).turn (h.ent e (List.mem_of_getElem? he)).2.2.1 h2
theorem RL.gone {i : Nat} {e : Ent} {g3 : Nat} (hl : RL w B E AL AT (some ⟨g3, 0, none⟩) cL cT cG) (he : E[i]? = some e) (g' : Bool) : RL (w.setCell ⟨g3, i, none⟩ (.bool g')) B (E.set i { e with tk := e.tk, gone := g' }) AL AT (some ⟨g3, 0, none⟩) cL cT cG := by
  obtain ⟨cs3, hr3⟩ := own_row hl.g
  refine ⟨?_, ?_, ?_⟩
  · rw [List.length_set, set_eL he]; exact put_typed hl.l hr3 (by decide) _
  · rw [List.length_set, set_eT, same_at (eT_at he)]; exact put_typed hl.t hr3 (by decide) _
  · rw [List.length_set, set_eG]; exact own_put hl.g _
theorem RQ.upd {i : Nat} {e : Ent} {g1 g3 : Nat} (h : RQ w y B room E) (hr : Row w y 33 #[.int .i64 room, .slice AL E.length cL, .slice (some ⟨g1, 0, none⟩) E.length cT, .slice (some ⟨g3, 0, none⟩) E.length cG]) (hl : RL w B E AL (some ⟨g1, 0, none⟩) (some ⟨g3, 0, none⟩) cL cT cG)
    (he : E[i]? = some e) (t' : Nat) (g' : Bool) (h1 : t' ≤ e.bs.length) (h2 : g' = false → t' < e.bs.length) : RQ ((w.setCell ⟨g1, i, none⟩ (.int .i64 (t' : Int))).setCell ⟨g3, i, none⟩ (.bool g')) y B room (E.set i { e with tk := t', gone := g' }) := by
  obtain ⟨cs1, hr1⟩ := own_row hl.t
  obtain ⟨cs3, hr3⟩ := own_row hl.g
  have hy : y ≠ g3 := Row.apart hr hr3 (by decide)
  have hy1 : y ≠ g1 := Row.apart hr hr1 (by decide)
  have h31 : g3 ≠ g1 := Row.apart hr3 hr1 (by decide)
  have hr3' := hr3.elsewhere (p := ⟨g1, i, none⟩) h31 (.int .i64 (t' : Int))
  refine ⟨⟨AL, cL, some ⟨g1, 0, none⟩, cT, some ⟨g3, 0, none⟩, cG, ?_, ⟨?_, ?_, ?_⟩⟩, fun e' he' => ?_, by rw [List.length_set]; exact h.many⟩
  · rw [List.length_set]; exact (hr.elsewhere hy1 _).elsewhere hy _
  · rw [List.length_set, set_eL he]; exact put_typed (put_typed hl.l hr1 (by decide) _) hr3' (by decide) _
  · rw [List.length_set, set_eT]; exact put_typed (own_put hl.t _) hr3' (by decide) _
  · rw [List.length_set, set_eG]; exact own_put (put_typed hl.g hr1 (by decide) _) _
  · rcases List.mem_or_eq_of_mem_set he' with h5 | h5
    · exact ((h.ent e' h5).put hr1 (by decide) _).put hr3' (by decide) _
    · subst h5
      exact (((h.ent e (List.mem_of_getElem? he)).put hr1 (by decide) _).put hr3' (by decide) _).turn h1 h2
theorem rq_take_none (n : Int) (h : RQ w y B room E) (hf : fE E = E.length) : Calls Try.prog 18 #[.pointer (some ⟨y, 0, none⟩), .int .i64 n] w fun e w' => e = .returned (.tuple #[.slice none 0 0, .bool false, .int .i64 4]) ∧ w = w' := by
  have HF := Lib.hid (by have h1 := rq_first h; rw [show fEi E = -1 by unfold fEi; rw [if_neg (by omega)]] at h1; exact h1)
  clear h hf
  go_enter Try.func18, Try.ntmps18
  go_wp2_with (go_at_call 112; (with_reducible refine HF.out.mono ?_); rintro e w1 ⟨rfl, rfl⟩)
  go_ret3
  exact ⟨rfl, rfl⟩
set_option maxRecDepth 100000 in
set_option maxHeartbeats 3200000 in
theorem rq_take_bad (n : Int) (h : RQ w y B room E) {e : Ent} (he : E[fE E]? = some e) (hn : n < 1 ∨ ((e.bs.length - e.tk : Nat) : Int) < n) : Calls Try.prog 18 #[.pointer (some ⟨y, 0, none⟩), .int .i64 n] w fun r w' => r = .returned (.tuple #[.slice none 0 0, .bool false, .int .i64 1]) ∧ Below w.heap.size w w' := by
  have hlt := (List.getElem?_eq_some_iff.1 he).1
  have HF := Lib.hid (by have h1 := rq_first h; rw [show fEi E = (fE E : Int) by unfold fEi; rw [if_pos hlt]] at h1; exact h1)
  obtain ⟨AL, cL, AT, cT, AG, cG, hr, hl⟩ := h.row
  obtain ⟨g1, rfl, z1⟩ := (own_at hl.t).cell (eT_at he)
  obtain ⟨g2, rfl, z2⟩ := (own_at hl.l).cell (eL_at he)
  obtain ⟨e1, e2, e3, e4, e5, e6, _⟩ := h.ent e (List.mem_of_getElem? he)
  obtain ⟨c0, c1, c2, c3⟩ := qcells hr
  have hm := h.many
  generalize fE E = f at *
  generalize E.length = q at *
  generalize e.bs.length = bl at *
  obtain ⟨eg, ec, _, tk, _⟩ := e
  simp only at *
  have h1 : (f : Int) < q := by omega
  have h0 : (0 : Int) ≤ f := by omega
  have hw : IntKind.i64.wrap ((bl : Int) - (tk : Int)) = ((bl - tk : Nat) : Int) := by rw [IntWalk.i64_in _ (by omega)]; omega
  generalize bl - tk = lf at *
  clear h hr hl he e4 hlt
  by_cases hn1 : n < 1
  · clear hn
    go_enter Try.func18, Try.ntmps18
    go_wp2_with (go_at_call 112; (with_reducible refine HF.out.mono ?_); rintro e w1 ⟨rfl, rfl⟩)
    go_quiet (fail)
    go_wp2
    go_ret3
    exact ⟨rfl, below_drewN (Below.refl _ _) _⟩
  · have hn2 : (lf : Int) < n := by omega
    clear hn
    go_enter Try.func18, Try.ntmps18
    go_wp2_with (go_at_call 112; (with_reducible refine HF.out.mono ?_); rintro e w1 ⟨rfl, rfl⟩)
    go_quiet (fail)
    go_wp2
    go_ret3
    exact ⟨rfl, below_drewN (Below.refl _ _) _⟩
set_option maxRecDepth 100000 in
set_option maxHeartbeats 6400000 in
theorem rq_take (n : Nat) (h : RQ w y B room E) {e : Ent} (he : E[fE E]? = some e) (hn1 : 1 ≤ n) (hn2 : n ≤ e.bs.length - e.tk) : Calls Try.prog 18 #[.pointer (some ⟨y, 0, none⟩), .int .i64 n] w fun r w' => ∃ c, r = .returned (.tuple #[.slice (some ⟨e.g, e.tk, none⟩) n c, .bool (n == e.bs.length - e.tk), .int .i64 0]) ∧
    RQ w' y B room (E.set (fE E) { e with tk := e.tk + n, gone := n == e.bs.length - e.tk }) ∧ Only (S34 B w) w w' := by
  have hlt := (List.getElem?_eq_some_iff.1 he).1
  have HF := Lib.hid (by have h1 := rq_first h; rw [show fEi E = (fE E : Int) by unfold fEi; rw [if_pos hlt]] at h1; exact h1)
  have HQ := Lib.hid h
  obtain ⟨AL, cL, AT, cT, AG, cG, hr, hl⟩ := h.row
  obtain ⟨g1, rfl, z1⟩ := (own_at hl.t).cell (eT_at he)
  obtain ⟨g2, rfl, z2⟩ := (own_at hl.l).cell (eL_at he)
  obtain ⟨g3, rfl, z3⟩ := (own_at hl.g).cell (eG_at he)
  obtain ⟨e1, e2, e3, e4, e5, e6, _⟩ := h.ent e (List.mem_of_getElem? he)
  obtain ⟨c0, c1, c2, c3⟩ := qcells hr
  have hm := h.many
  have HE := Lib.hid he
  have HR := Lib.hid hr
  have HL := Lib.hid hl
  generalize hf : fE E = f at *
  generalize hq : E.length = q at *
  have HQL := Lib.hid hq
  generalize hbl : e.bs.length = bl at *
  generalize htk : e.tk = tk at *
  have HTK := Lib.hid htk
  have HBL := Lib.hid hbl
  have h1 : (f : Int) < q := by omega
  have h0 : (0 : Int) ≤ f := by omega
  have hw : IntKind.i64.wrap ((bl : Int) - (tk : Int)) = ((bl - tk : Nat) : Int) := by rw [IntWalk.i64_in _ (by omega)]; omega
  have hw2 : IntKind.i64.wrap ((tk : Int) + (n : Int)) = ((tk + n : Nat) : Int) := by rw [IntWalk.i64_in _ (by omega)]; omega
  obtain ⟨x, hx⟩ : ∃ x : Nat, tk + n = x := ⟨_, rfl⟩
  rw [hx] at hw2
  have HX := Lib.hid hx
  obtain ⟨left, hleft⟩ : ∃ left : Nat, bl - tk = left := ⟨_, rfl⟩
  rw [hleft] at hw hn2 ⊢
  have HLF := Lib.hid hleft
  have hx0 : (0 : Int) ≤ tk := by omega
  have hx1 : (tk : Int) ≤ (x : Int) := by omega
  have hx2 : (x : Int) ≤ (bl : Int) := by omega
  have hx3 : (x : Int) ≤ (e.c : Int) := by omega
  have hn1i : (1 : Int) ≤ n := by omega
  have hn2i : (n : Int) ≤ left := by omega
  have hct : ¬ e.c = tk := by omega
  generalize heg : e.g = eg at *
  generalize hec : e.c = ec at *
  have HEG := Lib.hid heg
  have HEC := Lib.hid hec
  generalize hgo : e.gone = go at *
  have fz : w.frozen? ⟨g1, f, none⟩ = false := own_free HL.out.t
  have fz3 : w.frozen? ⟨g3, f, none⟩ = false := own_free HL.out.g
  have HC := Lib.hid (fun W (hb : Below w.heap.size w W) => (⟨qcells (HR.out.later hb), kept_box hb z1, kept_box hb z2, kept_box hb z3, (bcell hb).2 g1 f (own_in HL.out.t), (bcell hb).2 g3 f (own_in HL.out.g)⟩ : (W.cell? ⟨y, 0, none⟩ = some (.int .i64 room) ∧ W.cell? ⟨y, 1, none⟩ = some (.slice (some ⟨g2, 0, none⟩) q cL) ∧ W.cell? ⟨y, 2, none⟩ = some (.slice (some ⟨g1, 0, none⟩) q cT) ∧ W.cell? ⟨y, 3, none⟩ = some (.slice (some ⟨g3, 0, none⟩) q cG)) ∧ W.cell? ⟨g1, f, none⟩ = some (.int .i64 tk) ∧ W.cell? ⟨g2, f, none⟩ = some (.slice (some ⟨eg, 0, none⟩) bl ec) ∧ W.cell? ⟨g3, f, none⟩ = some (.bool go) ∧ W.frozen? ⟨g1, f, none⟩ = w.frozen? ⟨g1, f, none⟩ ∧ W.frozen? ⟨g3, f, none⟩ = w.frozen? ⟨g3, f, none⟩))
  have HF1 := Lib.hid fz
  have HF3 := Lib.hid fz3
  have hne : y ≠ g1 ∧ y ≠ g3 ∧ g3 ≠ g1 := by
    have q1 := own_row HL.out.t
    have q3 := own_row HL.out.g
    obtain ⟨cs1, q1⟩ := q1
    obtain ⟨cs3, q3⟩ := q3
    exact ⟨Row.apart HR.out q1 (by decide), Row.apart HR.out q3 (by decide), Row.apart q3 q1 (by decide)⟩
  obtain ⟨ne1, ne2, ne3⟩ := hne
  clear h hr hl he e1 e2 e3 e4 e5 e6 hlt hf hq hbl htk hx hleft heg hec hgo fz fz3 hn1 hn2
  go_enter Try.func18, Try.ntmps18
  go_wp2_with (go_at_call 112; (with_reducible refine HF.out.mono ?_); rintro e w1 ⟨rfl, rfl⟩)
  go_quiet (fail)
  have HB1 := Lib.hid (below_drewN (Below.refl w.heap.size w) nq)
  generalize w.drewN nq = wA at *
  clear c0 c1 c2 c3 z1 z2 z3
  obtain ⟨⟨c0, c1, c2, c3⟩, z1, z2, z3, u1, u3⟩ := HC.out wA HB1.out
  go_wp2
  go_quiet (fail)
  have HB2 := Lib.hid (below_drewN HB1.out nq)
  generalize wA.drewN nq = wB at *
  clear c0 c1 c2 c3 z1 z2 z3 u1 u3
  obtain ⟨⟨c0, c1, c2, c3⟩, z1, z2, z3, u1, u3⟩ := HC.out wB HB2.out
  go_wp2
  go_still_tail 15, (by kernel_rfl)
  change wpList _ _ _ _ _ wB.drew
  have HB3 := Lib.hid (bl_drew HB2.out)
  generalize wB.drew = wC at *
  clear c0 c1 c2 c3 z1 z2 z3 u1 u3
  obtain ⟨⟨c0, c1, c2, c3⟩, z1, z2, z3, u1, u3⟩ := HC.out wC HB3.out
  rw [HF1.out] at u1
  rw [HF3.out] at u3
  go_wp2
  go_ret3
  have hbq : ((n : Int) == (left : Int)) = (n == left) := by
    by_cases hh : n = left
    · subst hh; rw [beq_self_eq_true, beq_self_eq_true]
    · have : ¬ ((n : Int) = (left : Int)) := by omega
      rw [beq_eq_false_iff_ne.2 this, beq_eq_false_iff_ne.2 hh]
  refine ⟨ec - tk, ?_, ?_, ?_⟩
  · show Ending.returned (.tuple #[.slice (some ⟨eg, tk, none⟩) (x - tk) (ec - tk), .bool ((n : Int) == (left : Int)), .int .i64 0]) = _
    rw [hbq, show x - tk = n by have := HX.out; omega]
  · rw [hbq]
    have hq2 := (HQ.out.later HB3.out).upd (by rw [HQL.out]; exact HR.out.later HB3.out) (HL.out.later HB3.out) HE.out x (n == left) (by have := HBL.out; omega) (fun hh => by
      have h5 : ¬ n = left := by simpa using hh
      have := HBL.out; have := HX.out; have := HLF.out; omega)
    rw [HEG.out, HEC.out] at hq2
    rw [HX.out]
    exact hq2
  · obtain ⟨cs1, hr1⟩ := own_row HL.out.t
    obtain ⟨cs3, hr3⟩ := own_row HL.out.g
    exact ((Only.of_below HB3.out).set (p := ⟨g1, f, none⟩) (.inl ⟨(own_block HL.out.t g1 rfl).1, 3, cs1, hr1, .inl rfl⟩) _).set (p := ⟨g3, f, none⟩) (.inl ⟨(own_block HL.out.g g3 rfl).1, 4, cs3, hr3, .inr rfl⟩) _
/-- a text by its number, or none -/
def atN (E : List Ent) (n : Nat) : Option Ent := if n = 0 then none else E[n - 1]?
set_option maxRecDepth 100000 in
set_option maxHeartbeats 3200000 in
theorem rq_discard_none (n : Nat) (hn : n < 18446744073709551616) (h : RQ w y B room E) (he : ∀ e, atN E n = some e → e.gone = true) : Calls Try.prog 20 #[.pointer (some ⟨y, 0, none⟩), .int .u64 n] w fun r w' => r = .returned (.int .i64 4) ∧ Below w.heap.size w w' := by
  obtain ⟨AL, cL, AT, cT, AG, cG, hr, hl⟩ := h.row
  have HG := Lib.hid (own_at hl.g)
  obtain ⟨c0, c1, c2, c3⟩ := qcells hr
  have hm := h.many
  have HE := Lib.hid (fun (h1 : 1 ≤ n) (h2 : n ≤ E.length) => by
    have h3 : E[n - 1]? = some E[n - 1] := List.getElem?_eq_getElem (by omega)
    have h4 := he _ (by unfold atN; rw [if_neg (by omega)]; exact h3)
    have h5 := eG_at h3
    rw [h4] at h5
    exact h5)
  generalize E.length = q at *
  have hq0 : IntKind.u64.wrap (q : Int) = (q : Int) := by rw [IntKind.wrap_u64]; omega
  clear h hr hl he
  by_cases h1 : n < 1
  · obtain rfl : n = 0 := by omega
    go_enter Try.func20, Try.ntmps20
    go_wp2
    go_ret
    exact ⟨rfl, Below.refl _ _⟩
  · by_cases h2 : q < n
    · have h1i : ¬ (n : Int) < 1 := by omega
      have h2i : (q : Int) < n := by omega
      clear h1 h2
      go_enter Try.func20, Try.ntmps20
      go_wp2
      go_ret
      exact ⟨rfl, Below.refl _ _⟩
    · have h1i : ¬ (n : Int) < 1 := by omega
      have h2i : ¬ (q : Int) < n := by omega
      obtain ⟨g, rfl, z⟩ := HG.out.cell (HE.out (by omega) (by omega))
      have hw : IntKind.u64.wrap ((n : Int) - 1) = ((n - 1 : Nat) : Int) := by rw [IntKind.wrap_u64]; omega
      have h3 : ((n - 1 : Nat) : Int) < q := by omega
      clear h1 h2
      generalize n - 1 = k at *
      have h30 : (0 : Int) ≤ k := by omega
      go_enter Try.func20, Try.ntmps20
      go_wp2
      go_ret
      exact ⟨rfl, Below.refl _ _⟩
set_option maxRecDepth 100000 in
set_option maxHeartbeats 3200000 in
theorem rq_discard_state (n : Nat) (h : RQ w y B room E) {e : Ent} (hn : 1 ≤ n) (he : E[n - 1]? = some e) (hg : e.gone = false) (ht : 0 < e.tk) : Calls Try.prog 20 #[.pointer (some ⟨y, 0, none⟩), .int .u64 n] w fun r w' => r = .returned (.int .i64 7) ∧ Below w.heap.size w w' := by
  have hlt := (List.getElem?_eq_some_iff.1 he).1
  obtain ⟨AL, cL, AT, cT, AG, cG, hr, hl⟩ := h.row
  obtain ⟨g1, rfl, z1⟩ := (own_at hl.t).cell (eT_at he)
  obtain ⟨g3, rfl, z3⟩ := (own_at hl.g).cell (eG_at he)
  obtain ⟨c0, c1, c2, c3⟩ := qcells hr
  have hm := h.many
  generalize E.length = q at *
  generalize e.tk = tk at *
  rw [hg] at z3
  have hq0 : IntKind.u64.wrap (q : Int) = (q : Int) := by rw [IntKind.wrap_u64]; omega
  have h1i : ¬ (n : Int) < 1 := by omega
  have h2i : ¬ (q : Int) < n := by omega
  have hw : IntKind.u64.wrap ((n : Int) - 1) = ((n - 1 : Nat) : Int) := by rw [IntKind.wrap_u64]; omega
  have h3 : ((n - 1 : Nat) : Int) < q := by omega
  have hti : (0 : Int) < tk := by omega
  clear h hr hl he hg hlt hn ht
  generalize n - 1 = k at *
  have h30 : (0 : Int) ≤ k := by omega
  go_enter Try.func20, Try.ntmps20
  go_wp2
  go_ret
  exact ⟨rfl, Below.refl _ _⟩
set_option maxRecDepth 100000 in
set_option maxHeartbeats 3200000 in
theorem rq_discard (n : Nat) (h : RQ w y B room E) {e : Ent} (hn : 1 ≤ n) (he : E[n - 1]? = some e) (hg : e.gone = false) (ht : e.tk = 0) : Calls Try.prog 20 #[.pointer (some ⟨y, 0, none⟩), .int .u64 n] w fun r w' => r = .returned (.int .i64 0) ∧ RQ w' y B room (E.set (n - 1) { e with tk := e.tk, gone := true }) ∧ Only (S34 B w) w w' := by
  have hlt := (List.getElem?_eq_some_iff.1 he).1
  have HQ := Lib.hid h
  have HE := Lib.hid he
  obtain ⟨AL, cL, AT, cT, AG, cG, hr, hl⟩ := h.row
  obtain ⟨g1, rfl, z1⟩ := (own_at hl.t).cell (eT_at he)
  obtain ⟨g3, rfl, z3⟩ := (own_at hl.g).cell (eG_at he)
  have HF := Lib.hid (fun (d : Nat) => h.gone hr hl he true (fun hh => by cases hh))
  have f3 : w.frozen? ⟨g3, n - 1, none⟩ = false := own_free hl.g
  have HO := Lib.hid (show Only (S34 B w) w (w.setCell ⟨g3, n - 1, none⟩ (.bool true)) from by
    obtain ⟨cs3, hr3⟩ := own_row hl.g
    exact (Only.refl (S34 B w) w).set (p := ⟨g3, n - 1, none⟩) (.inl ⟨(own_block hl.g g3 rfl).1, 4, cs3, hr3, .inr rfl⟩) _)
  obtain ⟨c0, c1, c2, c3⟩ := qcells hr
  have hm := h.many
  rw [ht] at z1
  rw [hg] at z3
  generalize E.length = q at *
  have hq0 : IntKind.u64.wrap (q : Int) = (q : Int) := by rw [IntKind.wrap_u64]; omega
  have h1i : ¬ (n : Int) < 1 := by omega
  have h2i : ¬ (q : Int) < n := by omega
  have hw : IntKind.u64.wrap ((n : Int) - 1) = ((n - 1 : Nat) : Int) := by rw [IntKind.wrap_u64]; omega
  have h3 : ((n - 1 : Nat) : Int) < q := by omega
  clear h hr hl he hg hlt hn ht
  generalize n - 1 = k at *
  have h30 : (0 : Int) ≤ k := by omega
  go_enter Try.func20, Try.ntmps20
  go_wp2
  go_ret
  exact ⟨rfl, HF.out 0, HO.out⟩
def allGone (E : List Ent) (k : Nat) : List Ent := (E.take k).map (fun e => { e with tk := e.tk, gone := true }) ++ E.drop k
theorem allGone_len (E : List Ent) (k : Nat) : (allGone E k).length = E.length := by
  unfold allGone
  rw [List.length_append, List.length_map, List.length_take, List.length_drop]
  omega
theorem allGone_at {k : Nat} : (allGone E k)[k]? = E[k]? := by
  unfold allGone
  by_cases hk : k < E.length
  · rw [List.getElem?_append_right (by simp; omega), List.length_map, List.length_take, Nat.min_eq_left (by omega), Nat.sub_self, List.getElem?_drop]
    simp
  · rw [List.getElem?_eq_none (by rw [List.length_append, List.length_map, List.length_take, List.length_drop]; omega), List.getElem?_eq_none (by omega)]
theorem allGone_succ {k : Nat} {e : Ent} (h : E[k]? = some e) : (allGone E k).set k { e with tk := e.tk, gone := true } = allGone E (k + 1) := by
  have hk := (List.getElem?_eq_some_iff.1 h).1
  unfold allGone
  rw [List.set_append_right _ _ (by simp; omega), List.take_add_one, h, List.map_append, List.append_assoc]
  congr 1
  have hd : E.drop k = e :: E.drop (k + 1) := by
    rw [List.drop_eq_getElem_cons hk, (List.getElem?_eq_some_iff.1 h).2]
  rw [List.length_map, List.length_take, Nat.min_eq_left (by omega), Nat.sub_self, hd]
  rfl
set_option maxRecDepth 100000 in
set_option maxHeartbeats 3200000 in
theorem rq_clear (h : RQ w y B room E) : Calls Try.prog 23 #[.pointer (some ⟨y, 0, none⟩)] w fun r w' => ∃ A c, r = .returned (.slice A (idk E E.length).length c) ∧ SlAt w.heap.size 37 w' A (u64v (idk E E.length)) ∧ RQ w' y B room (allGone E E.length) ∧ Only (S34 B w) w w' := by
  have HI := Lib.hid (rq_ids h)
  obtain ⟨AL, cL, AT, cT, AG, cG, hr, hl⟩ := h.row
  have HQ := Lib.hid h
  have HR := Lib.hid hr
  have HLL := Lib.hid hl
  have HNX := Lib.hid (fun i (hi : i < E.length) => (⟨_, List.getElem?_eq_getElem hi⟩ : ∃ e, E[i]? = some e))
  have hm := h.many
  generalize idk E E.length = ids at *
  generalize hn : E.length = n at *
  have HN := Lib.hid hn
  clear h hr hl hn
  go_enter Try.func23, Try.ntmps23
  go_wp2_with (go_at_call 29; (with_reducible refine HI.out.mono ?_); rintro e w1 ⟨A1, c1', rfl, hs, hb⟩; (have HS := Lib.hid hs; have HB1 := Lib.hid hb; clear hs hb))
  go_loopw [4] (fun s4 wr => ∃ i : Nat, i ≤ n ∧ s4 = .int .i64 i ∧ Hid (RQ wr y B room (allGone E i)) ∧ Hid (∃ cL, Row wr y 33 #[.int .i64 room, .slice AL n cL, .slice AT n cT, .slice AG n cG] ∧ RL wr B (allGone E i) AL AT AG cL cT cG) ∧ Hid (SlAt w.heap.size 37 wr A1 (u64v ids)) ∧ Hid (Only (S34 B w) w wr)) (fun s4 _ => n - (intOf s4).toNat)
  case atStart => exact ⟨0, by omega, rfl, Lib.hid (HQ.out.later HB1.out), Lib.hid ⟨cL, HR.out.later HB1.out, HLL.out.later HB1.out⟩, HS, Lib.hid (.of_below HB1.out)⟩
  case round =>
    obtain ⟨i, hi, rfl, HQr, HRr, HSr, HOr⟩ := hrel
    obtain ⟨cL', hrr, hlr⟩ := HRr.out
    obtain ⟨c0, c1, c2, c3⟩ := qcells hrr
    by_cases hlt : i < n
    · obtain ⟨e, he⟩ := HNX.out i hlt
      have he2 : (allGone E i)[i]? = some e := allGone_at.trans he
      obtain ⟨g3, rfl, z3⟩ := (own_at hlr.g).cell (eG_at he2)
      have f3 : wr.frozen? ⟨g3, i, none⟩ = false := own_free hlr.g
      have h1 : (i : Int) < n := by omega
      have h0 : (0 : Int) ≤ i := by omega
      have hrr2 : Row wr y 33 #[.int .i64 room, .slice AL (allGone E i).length cL', .slice AT (allGone E i).length cT, .slice (some ⟨g3, 0, none⟩) (allGone E i).length cG] := by rw [allGone_len, HN.out]; exact hrr
      have HG := Lib.hid (HQr.out.gone hrr2 hlr he2 true (fun hh => by cases hh))
      have HSU := Lib.hid (allGone_succ he)
      obtain ⟨cs3, hr3⟩ := own_row hlr.g
      have HT3 := Lib.hid hr3
      have hold : g3 < w.heap.size ∧ B ≤ g3 := by
        have hg0 := own_in HLL.out.g
        exact ⟨hg0, (own_block HLL.out.g g3 rfl).1⟩
      have HOLD := Lib.hid hold
      have HW4 := Lib.hid (own_row HLL.out.g)
      have HLX := Lib.hid hlr
      have HRX := Lib.hid hrr
      have HLT := Lib.hid hlt
      have HE2 := Lib.hid he2
      clear he he2 hlt hr3 hold hrr2 hlr hrr
      go_wp2
      go_roundw
      case rel => exact ⟨i + 1, by have := HLT.out; omega, by go_num, Lib.hid (by rw [← HSU.out]; exact HG.out), Lib.hid ⟨cL', HRX.out.elsewhere (Row.apart HRX.out HT3.out (by decide)) _, by rw [← HSU.out]; exact HLX.out.gone HE2.out true⟩, Lib.hid (HSr.out.only ((Only.refl (fun k => k = g3) wr).set (p := ⟨g3, i, none⟩) (.inl rfl) _) (fun g cs hr _ e => by subst e; exact Row.apart hr HT3.out (by decide) rfl)), Lib.hid (HOr.out.set (p := ⟨g3, i, none⟩) (.inl (by obtain ⟨cs4, h4⟩ := HW4.out; exact ⟨HOLD.out.2, 4, cs4, h4, .inr rfl⟩)) _)⟩
      case measure => have := HLT.out; simp [intOf]; omega
    · have h1 : ¬ (i : Int) < n := by omega
      obtain rfl : i = n := by omega
      clear hlt
      go_wp2
      go_ret
      exact ⟨A1, ⟨c1', rfl⟩, HSr.out, HQr.out, HOr.out⟩
end
end Go.Proofs.Ytbcjfdhphpckfaa
namespace Go.Proofs.Ytbcjfdhphpckfaa
open Go.RowKit

theorem Try.qinfo5 : (Try.prog.info? 5).map (fun i => (i.zero, i.size, i.bytes)) = some (some (.int .u8 0), 1, 1) := by kernel_rfl
theorem qinfo5_parts : ∃ i, Try.prog.info? 5 = some i ∧ i.zero = some (.int .u8 0) ∧ i.size = 1 ∧ i.bytes = 1 := info_parts Try.qinfo5
theorem Try.info177 : (Try.prog.info? 177).map (fun i => (i.zero, i.size, i.bytes)) = some (some (.agg #[.int .u64 0, .slice none 0 0, .bool false]), 3, 40) := by kernel_rfl
theorem info177_parts : ∃ i, Try.prog.info? 177 = some i ∧ i.zero = some (.agg #[.int .u64 0, .slice none 0 0, .bool false]) ∧ i.size = 3 ∧ i.bytes = 40 := info_parts Try.info177

/-- bytes as values -/
def qbts (l : List Nat) : List Value := l.map fun b : Nat => .int .u8 b
theorem qlength_bts (l : List Nat) : (qbts l).length = l.length := by simp [qbts]
theorem qbts_one (l : List Nat) : ∀ v ∈ qbts l, v.oneCell' = true := by
  intro v hv
  simp only [qbts, List.mem_map] at hv
  obtain ⟨b, _, rfl⟩ := hv
  rfl
theorem qbts_at {l : List Nat} {i b : Nat} (h : l[i]? = some b) : (qbts l)[i]? = some (.int .u8 b) := by simp [qbts, h]
theorem qbts_append (l k : List Nat) : qbts (l ++ k) = qbts l ++ qbts k := by simp [qbts]
theorem qbts_drop (l : List Nat) (n : Nat) : qbts (l.drop n) = (qbts l).drop n := by simp [qbts]

/-- where a slice's cells lie -/
def QSrcB (w : World) (A : Option Addr) (xs : List Value) : Prop := 0 < xs.length → ∃ b off, A = some ⟨b, off, none⟩ ∧ ∀ j u, xs[j]? = some u → w.cell? ⟨b, off + j, none⟩ = some u
theorem QSrcB.later {w v : World} {A : Option Addr} {xs : List Value} (h : QSrcB w A xs) (hb : Below w.heap.size w v) : QSrcB v A xs := by
  intro h0
  obtain ⟨b, off, rfl, hc⟩ := h h0
  exact ⟨b, off, rfl, fun j u hu => kept_box hb (hc j u hu)⟩

/-- a list of the call's own, whose memory may reach beyond what it can hold -/
def OwnX (w : World) (B e size : Nat) (v : Value) (n : Nat) (xs : List Value) : Prop :=
  xs.length = n * size ∧ ((v = .slice none 0 0 ∧ n = 0) ∨
    ∃ g cap cur, v = .slice (some ⟨g, 0, none⟩) n cap ∧ B ≤ g ∧ w.heap[g]? = some (.cells cur e (0, 0)) ∧ n ≤ cap ∧ cap ≤ maxLen ∧ cap * size ≤ cur.size ∧ cur.toList.take (n * size) = xs)
section
variable {w v : World} {B e size : Nat} {x : Value} {n : Nat} {xs : List Value}
theorem OwnX.nil : OwnX w B e size (.slice none 0 0) 0 [] := ⟨by simp, .inl ⟨rfl, rfl⟩⟩
theorem OwnX.of (h : w.ownsRow B e size x n xs) : OwnX w B e size x n xs := by
  refine ⟨h.1, ?_⟩
  rcases h.2 with h0 | ⟨g, cap, cur, h1, h2, h3, h4, h5, h6, h7⟩
  · exact .inl h0
  · exact .inr ⟨g, cap, cur, h1, h2, h3, h4, h5, by omega, h7⟩
theorem OwnX.lt (h : OwnX w B e size x n xs) : ∀ k, x.ownBlock = some k → B ≤ k ∧ k < w.heap.size := by
  intro k hk
  rcases h.2 with ⟨rfl, _⟩ | ⟨g, cap, cur, rfl, hb, hh, _⟩
  · simp [Value.ownBlock] at hk
  · have e : g = k := by simpa [Value.ownBlock] using hk
    subst e
    refine ⟨hb, ?_⟩
    rcases Nat.lt_or_ge g w.heap.size with h1 | h1
    · exact h1
    · rw [Array.getElem?_eq_none h1] at hh; cases hh
theorem OwnX.only {S : Nat → Prop} (h : OwnX w B e size x n xs) (ho : Only S w v) (hS : ∀ k, x.ownBlock = some k → ¬ S k) : OwnX v B e size x n xs := by
  refine ⟨h.1, ?_⟩
  rcases h.2 with h0 | ⟨g, cap, cur, rfl, hb, hh, h1⟩
  · exact .inl h0
  · exact .inr ⟨g, cap, cur, rfl, hb, (ho.same g (h.lt g rfl).2 (hS g rfl)).trans hh, h1⟩
theorem OwnX.kept {row : Option Nat} (h : OwnX w B e size x n xs) (hg : w.grownBy v row) (hne : ∀ k, x.ownBlock = some k → row ≠ some k) : OwnX v B e size x n xs := by
  refine ⟨h.1, ?_⟩
  rcases h.2 with h0 | ⟨g, cap, cur, rfl, hb, hh, h1⟩
  · exact .inl h0
  · exact .inr ⟨g, cap, cur, rfl, hb, (hg.block g (h.lt g rfl).2 (fun e => hne g rfl e.symm)).trans hh, h1⟩
theorem OwnX.alloc (h : OwnX w B e size x n xs) (o : Obj) : OwnX (w.alloc o) B e size x n xs :=
  h.only (S := fun _ => False) (.of_below (bl_alloc (Below.refl _ _) o)) (fun _ _ h => h)
theorem OwnX.drawn (h : OwnX w B e size x n xs) : OwnX w.drew B e size x n xs := h
theorem OwnX.shape (h : OwnX w B e size x n xs) : ∃ A cap, x = .slice A n cap ∧ n ≤ cap ∧ cap ≤ maxLen := by
  rcases h.2 with ⟨rfl, h0⟩ | ⟨g, cap, cur, rfl, _, _, h1, h2, _⟩
  · exact ⟨none, 0, by rw [h0], by omega, by simp [maxLen]⟩
  · exact ⟨_, cap, rfl, h1, h2⟩
theorem add_zero_q (g j : Nat) : (⟨g, 0, none⟩ : Addr).add j = ⟨g, j, none⟩ := by
  unfold Addr.add
  split
  · rename_i h
    rw [h]
  · simp
theorem OwnX.cells (h : OwnX w B e size x n xs) {g : Nat} (hg : x.ownBlock = some g) : ∀ j u, xs[j]? = some u → w.cell? ⟨g, j, none⟩ = some u := by
  intro j u hu
  rcases h.2 with ⟨rfl, _⟩ | ⟨g', cap, cur, rfl, _, hgg, _, _, _, htake⟩
  · simp [Value.ownBlock] at hg
  · simp [Value.ownBlock] at hg
    subst hg
    rw [cell_of_row w g' j cur e (0, 0) hgg]
    rw [← htake, List.getElem?_take] at hu
    split at hu
    · simpa using hu
    · cases hu
theorem OwnX.free (h : OwnX w B e size x n xs) {g : Nat} (hg : x.ownBlock = some g) (i : Nat) : w.frozen? ⟨g, i, none⟩ = false := by
  rcases h.2 with ⟨rfl, _⟩ | ⟨g', cap, cur, rfl, _, hgg, _⟩
  · simp [Value.ownBlock] at hg
  · simp [Value.ownBlock] at hg
    subst hg
    simp [World.frozen?, hgg]
theorem OwnX.form (h : OwnX w B e size x n xs) (hn : 0 < n) : ∃ g cap, x = .slice (some ⟨g, 0, none⟩) n cap ∧ n ≤ cap ∧ cap ≤ maxLen := by
  rcases h.2 with ⟨_, h0⟩ | ⟨g, cap, cur, hv, _, _, h1, h2, _⟩
  · omega
  · exact ⟨g, cap, hv, h1, h2⟩
/-- one cell written -/
theorem OwnX.stored (h : OwnX w B e size x n xs) {g : Nat} (hg : x.ownBlock = some g) (j : Nat) (u : Value) : OwnX (w.setCell ⟨g, j, none⟩ u) B e size x n (xs.set j u) := by
  refine ⟨by rw [List.length_set]; exact h.1, ?_⟩
  rcases h.2 with ⟨rfl, _⟩ | ⟨g', cap, cur, rfl, hb, hh, h1, h2, h3, h4⟩
  · simp [Value.ownBlock] at hg
  · simp [Value.ownBlock] at hg
    subst hg
    refine .inr ⟨g', cap, cur.setIfInBounds j u, rfl, hb, ?_, h1, h2, by simpa using h3, ?_⟩
    · simp [World.setCell, Array.getElem?_modify, hh]
    · rw [Array.toList_setIfInBounds, List.take_set, h4]
/-- the first elements alone -/
theorem OwnX.front (h : OwnX w B e size x n xs) {m : Nat} (hm : m ≤ n) (A : Option Addr) (cap : Nat) (hx : x = .slice A n cap) (h0 : 0 < n) : OwnX w B e size (.slice A m m) m (xs.take (m * size)) := by
  have hle : m * size ≤ n * size := Nat.mul_le_mul_right _ hm
  refine ⟨by rw [List.length_take, h.1]; omega, ?_⟩
  rcases h.2 with ⟨_, hn⟩ | ⟨g, c, cur, rfl, hb, hh, h1, h2, h3, h4⟩
  · omega
  · injection hx with hA _ _
    subst hA
    have hc : m * size ≤ c * size := Nat.mul_le_mul_right _ (by omega)
    refine .inr ⟨g, m, cur, rfl, hb, hh, Nat.le_refl _, by omega, by omega, ?_⟩
    rw [← h4, List.take_take]
    congr 1
    omega
end

/-- append to such a list -/
theorem run_append_x {P : Program} {w : World} {B t ty e : Nat} {i : TypeInfo} {z : Value} {size bytes : Nat} (ht : P.underlying t = some (.slice e)) (hi : P.info? e = some i) (hz : i.zero = some z)
    (hsize : i.size = size) (hby : i.bytes = bytes) (hzs : z.cells.size = size)
    {v : Value} {n : Nat} {xs : List Value} (hown : OwnX w B e size v n xs)
    (a : Addr) (m c : Nat) (news : List Value) (hl : news.length = m * size) (hnews : ∀ j u, news[j]? = some u → w.cell? (a.add j) = some u) (h1 : ∀ u ∈ news, u.oneCell' = true)
    (h63 : n + m ≤ 1000000000) (hbytes : (n + m) * bytes ≤ 140737488355328) (hbase : B ≤ w.heap.size) :
    ∃ v' w', (Builtin.append_ #[t, t] ty #[v, .slice (some a) m c]).run P w = .ok v' w' ∧ OwnX w' B e size v' (n + m) (xs ++ news) ∧ w.grownBy w' v.ownBlock ∧ (v'.ownBlock = v.ownBlock ∨ v'.ownBlock = some w.heap.size) := by
  subst hsize
  subst hby
  have hlen : (xs ++ news).length = (n + m) * i.size := by rw [List.length_append, hown.1, hl, Nat.add_mul]
  have grown : ∀ (old : Nat), old < n + m → ∀ (row : Option Nat),
      OwnX (w.drew.alloc (.cells (xs.toArray ++ news.toArray ++ Builtin.zeroCells z.cells (grownCap w (n + m) old e - (n + m))) e)) B e i.size
        (.slice (some ⟨w.heap.size, 0, none⟩) (n + m) (grownCap w (n + m) old e)) (n + m) (xs ++ news) ∧
      w.grownBy (w.drew.alloc (.cells (xs.toArray ++ news.toArray ++ Builtin.zeroCells z.cells (grownCap w (n + m) old e - (n + m))) e)) row := by
    intro old ho row
    have hge := grownCap_ge w (n + m) old e
    have hcm : grownCap w (n + m) old e ≤ maxLen := grownCap_le_maxLen w (n + m) old e (by unfold maxLen; omega)
    refine ⟨⟨hlen, .inr ⟨w.heap.size, _, _, rfl, hbase, heap_alloc_new w.drew _, hge, hcm, ?_, ?_⟩⟩, ⟨rfl, rfl, rfl, by simp, fun k hk _ => Below.heap_alloc w.drew _ k hk⟩⟩
    · simp only [Array.size_append, List.size_toArray, size_zeroCells, hzs, hown.1, hl, ← Nat.add_mul]
      exact Nat.mul_le_mul_right _ (by omega)
    · simp only [Array.toList_append, List.append_assoc]
      rw [← List.append_assoc, ← hlen]
      exact List.take_left
  rcases hown.2 with ⟨rfl, rfl⟩ | ⟨g, cap, cur, rfl, hbg, hg, hnc, hcm, hcs, htake⟩
  · have hx : xs = [] := List.eq_nil_of_length_eq_zero (by simpa using hown.1)
    subst hx
    by_cases hm : m = 0
    · subst hm
      have hn : news = [] := List.eq_nil_of_length_eq_zero (by simpa using hl)
      subst hn
      refine ⟨.slice none 0 0, w, ?_, OwnX.nil, ⟨rfl, rfl, rfl, Nat.le_refl _, fun _ _ _ => rfl⟩, .inl rfl⟩
      simp [Builtin.append_, run_underlying ht, sizeOf, typeInfo, hi, Builtin.lenOf, Builtin.firstCells, loadCells, loadCellsFrom]
    · have hr := run_append_nil (P := P) w t ty e i z ht hi hz a m c news hl hnews (by omega) (by omega) (by have hb := hbytes; simp only [Nat.zero_add] at hb; omega)
      have hgr := grown 0 (by omega) (Value.ownBlock (.slice none 0 0))
      simp only [Nat.zero_add, List.nil_append, Array.empty_append] at hgr ⊢
      exact ⟨_, _, hr, hgr.1, hgr.2, .inr rfl⟩
  · by_cases hroom : n + m ≤ cap
    · have hc' : (n + m) * i.size ≤ cap * i.size := Nat.mul_le_mul_right _ hroom
      have hfit : n * i.size + news.length ≤ cur.size := by rw [hl, ← Nat.add_mul]; omega
      have hr := run_append_room (P := P) w t ty e i ht hi g n cap cur hg a m c news hl hnews h1 hroom hfit
      refine ⟨_, _, hr, ⟨hlen, .inr ⟨g, cap, _, rfl, hbg, setRow_heap w g cur _ e _ hg, hroom, hcm, ?_, ?_⟩⟩, ⟨rfl, rfl, rfl, by simp, fun k _ hk => setRow_other w g k _ (fun e => hk (by simp [Value.ownBlock, e]))⟩, .inl rfl⟩
      · simp only [List.size_toArray, List.length_append, List.length_take, List.length_drop, Array.length_toList]
        omega
      · rw [htake, ← hlen]
        exact List.take_left
    · have holds : ∀ j u, xs[j]? = some u → w.cell? ((⟨g, 0, none⟩ : Addr).add j) = some u := fun j u hu => by rw [add_zero_q]; exact hown.cells (g := g) rfl j u hu
      have hr := run_append_grow (P := P) w t ty e i z ht hi hz ⟨g, 0, none⟩ n cap xs hown.1 holds a m c news hl hnews (by omega) (by omega) (growslice_fits (by omega) hbytes)
      have hgr := grown cap (by omega) (Value.ownBlock (.slice (some ⟨g, 0, none⟩) n cap))
      exact ⟨_, _, hr, hgr.1, hgr.2, .inr rfl⟩

/-- a text: its number, where its bytes lie, its bytes, whether some of it was taken -/
structure Txt where
  id : Nat
  g : Nat
  off : Nat
  cap : Nat
  bs : List Nat
  bg : Bool
def Txt.waits (t : Txt) : Value := .slice (some ⟨t.g, t.off, none⟩) t.bs.length t.cap
def txc (ts : List Txt) : List Value := ts.flatMap fun t => [.int .u64 t.id, t.waits, .bool t.bg]
theorem txc_cons (t : Txt) (r : List Txt) : txc (t :: r) = .int .u64 t.id :: t.waits :: .bool t.bg :: txc r := rfl
theorem txc_append (a b : List Txt) : txc (a ++ b) = txc a ++ txc b := by simp [txc]
theorem length_txc (ts : List Txt) : (txc ts).length = ts.length * 3 := by
  induction ts with
  | nil => rfl
  | cons t r ih => rw [txc_cons]; simp [ih]; omega
theorem txc_one (ts : List Txt) : ∀ v ∈ txc ts, v.oneCell' = true := by
  intro v hv
  simp only [txc, List.mem_flatMap] at hv
  obtain ⟨t, _, hv⟩ := hv
  simp at hv
  rcases hv with rfl | rfl | rfl <;> rfl
theorem txc_at {ts : List Txt} {i : Nat} {t : Txt} (h : ts[i]? = some t) : (txc ts)[i * 3]? = some (.int .u64 t.id) ∧ (txc ts)[i * 3 + 1]? = some t.waits ∧ (txc ts)[i * 3 + 2]? = some (.bool t.bg) := by
  induction ts generalizing i with
  | nil => simp at h
  | cons z r ih =>
    cases i with
    | zero => simp at h; subst h; exact ⟨rfl, rfl, rfl⟩
    | succ i =>
      have h2 := ih (i := i) (by simpa using h)
      rw [txc_cons, show (i + 1) * 3 = i * 3 + 1 + 1 + 1 by omega]
      simpa using h2
theorem txc_take (ts : List Txt) (k : Nat) : (txc ts).take (k * 3) = txc (ts.take k) := by
  induction ts generalizing k with
  | nil => simp [txc]
  | cons t r ih =>
    cases k with
    | zero => simp [txc]
    | succ k =>
      rw [txc_cons, show (k + 1) * 3 = k * 3 + 1 + 1 + 1 by omega, List.take_succ_cons, List.take_succ_cons, List.take_succ_cons, ih, List.take_succ_cons, txc_cons]
theorem txc_drop (ts : List Txt) (k : Nat) : (txc ts).drop (k * 3) = txc (ts.drop k) := by
  induction ts generalizing k with
  | nil => simp [txc]
  | cons t r ih =>
    cases k with
    | zero => simp
    | succ k =>
      rw [txc_cons, show (k + 1) * 3 = k * 3 + 1 + 1 + 1 by omega, List.drop_succ_cons, List.drop_succ_cons, List.drop_succ_cons, ih, List.drop_succ_cons]

/-- a text's bytes lie where it says -/
def Txt.lies (B : Nat) (w : World) (t : Txt) : Prop :=
  B ≤ t.g ∧ t.bs.length ≤ t.cap ∧ t.cap ≤ 9223372036854775807 ∧ ∃ cs, Row w t.g 5 cs ∧ ∀ j b, t.bs[j]? = some b → cs[t.off + j]? = some (.int .u8 (b : Nat))
theorem Txt.lies.only {B : Nat} {w v : World} {t : Txt} {S : Nat → Prop} (h : t.lies B w) (ho : Only S w v) (hS : ¬ S t.g) : t.lies B v := by
  obtain ⟨h1, h2, h3, cs, h4, h5⟩ := h
  exact ⟨h1, h2, h3, cs, h4.only ho hS, h5⟩
theorem Txt.lies.src {B : Nat} {w : World} {t : Txt} (h : t.lies B w) : QSrcB w (some ⟨t.g, t.off, none⟩) (qbts t.bs) := by
  obtain ⟨_, _, _, cs, h4, h5⟩ := h
  intro _
  refine ⟨_, _, rfl, fun j u hu => ?_⟩
  have hj : j < t.bs.length := by have := (List.getElem?_eq_some_iff.1 hu).1; rw [qlength_bts] at this; exact this
  have hb := qbts_at (List.getElem?_eq_getElem hj)
  rw [hu] at hb
  injection hb with hb
  rw [hb]
  exact h4.read (h5 j _ (List.getElem?_eq_getElem hj))

/-- the queue at block p has this room, this last number, these texts; all above block B -/
def QRep (B : Nat) (w : World) (p : Nat) (room : Int) (last : Nat) (ts : List Txt) : Prop :=
  B ≤ p ∧ B ≤ w.heap.size ∧ ∃ sv, Row w p 51 #[.int .i64 room, .int .u64 last, sv] ∧ OwnX w B 177 3 sv ts.length (txc ts) ∧ ∀ t ∈ ts, t.lies B w
theorem QRep.only {B : Nat} {w v : World} {p : Nat} {room : Int} {last : Nat} {ts : List Txt} {S : Nat → Prop} (h : QRep B w p room last ts) (ho : Only S w v) (hS : ∀ k, S k → k < B) : QRep B v p room last ts := by
  obtain ⟨h1, h2, sv, h3, h4, h5⟩ := h
  exact ⟨h1, by have := ho.size; omega, sv, h3.only ho (fun hk => by have := hS _ hk; omega), h4.only ho (fun k hk hk' => by have := (h4.lt k hk).1; have := hS _ hk'; omega), fun t ht => (h5 t ht).only ho (fun hk => by have := hS _ hk; have := (h5 t ht).1; omega)⟩
theorem QRep.later {B : Nat} {w v : World} {p : Nat} {room : Int} {last : Nat} {ts : List Txt} (h : QRep B w p room last ts) (hb : Below w.heap.size w v) : QRep B v p room last ts :=
  h.only (S := fun _ => False) (.of_below hb) (fun _ h => h.elim)
end Go.Proofs.Ytbcjfdhphpckfaa
