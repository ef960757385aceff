/-
  The document's queue: its front; a text discarded. The document's queue: a text pushed (the steps of its drawn region). A region that draws its order, walked by hand. A region that draws its order: what holds of the world may hang on which operations have come up.
-/
import Derived.Test.YtbcjfdhphpckfaaJPlainLives17
import Derived.BigQuiet
import Derived.StillTailTactics
import Derived.Test.YtbcjfdhphpckfaaJPlainLives01
import Derived.Test.YtbcjfdhphpckfaaJPlainLives02
import Derived.Deep.RegionHeld3
import Derived.OrdersHeld
namespace Go.Proofs.Ytbcjfdhphpckfaa
open Go.RowKit

def S34 (B : Nat) (w : World) (k : Nat) : Prop := B ≤ k ∧ ∃ t cs, Row w k t cs ∧ (t = 3 ∨ t = 4)
section
variable {w v : World} {y B : Nat} {room : Int} {E : List Ent} {AL AT AG : Option Addr} {cL cT cG : Nat}
theorem rq_front_none (h : RQ w y B room E) (hf : fE E = E.length) : Calls Try.prog 25 #[.pointer (some ⟨y, 0, none⟩)] w fun e w' => e = .returned (.tuple #[.int .u64 0, .slice none 0 0, .bool false]) ∧ w = w' := by
  have HF := Lib.hid (by have h1 := rq_first h; rw [show fEi E = -1 by unfold fEi; rw [if_neg (by omega)]] at h1; exact h1)
  clear h hf
  go_enter Try.func25, Try.ntmps25
  go_wp2_with (go_at_call 112; (with_reducible refine HF.out.mono ?_); rintro e w1 ⟨rfl, rfl⟩)
  go_ret3
  exact ⟨rfl, rfl⟩
set_option maxRecDepth 100000 in
set_option maxHeartbeats 3200000 in
theorem rq_front (h : RQ w y B room E) {e : Ent} (he : E[fE E]? = some e) : Calls Try.prog 25 #[.pointer (some ⟨y, 0, none⟩)] w fun r w' => r = .returned (.tuple #[.int .u64 ((fE E : Int) + 1), .slice (some ⟨e.g, e.tk, none⟩) (e.bs.length - e.tk) (e.c - e.tk), .bool (decide (0 < e.tk))]) ∧ Below w.heap.size w w' := by
  have hlt := (List.getElem?_eq_some_iff.1 he).1
  have HF := Lib.hid (by have h1 := rq_first h; rw [show fEi E = (fE E : Int) by unfold fEi; rw [if_pos hlt]] at h1; exact h1)
  obtain ⟨AL, cL, AT, cT, AG, cG, hr, hl⟩ := h.row
  obtain ⟨g1, rfl, z1⟩ := (own_at hl.t).cell (eT_at he)
  obtain ⟨g2, rfl, z2⟩ := (own_at hl.l).cell (eL_at he)
  obtain ⟨e1, e2, e3, e4, e5, e6, _⟩ := h.ent e (List.mem_of_getElem? he)
  have e7 := e4 (fE_at he)
  obtain ⟨c0, c1, c2, c3⟩ := qcells hr
  have hm := h.many
  generalize fE E = f at *
  generalize E.length = n at *
  generalize e.bs.length = bl at *
  obtain ⟨eg, ec, _, tk, _⟩ := e
  simp only at *
  have h1 : (f : Int) < n := by omega
  have h0 : (0 : Int) ≤ f := by omega
  have ht0 : (0 : Int) ≤ tk := by omega
  have ht1 : (tk : Int) ≤ bl := by omega
  have hu : IntKind.u64.wrap ((f : Int) + 1) = (f : Int) + 1 := by rw [IntKind.wrap_u64]; omega
  have hu0 : IntKind.u64.wrap (f : Int) = (f : Int) := by rw [IntKind.wrap_u64]; omega
  clear h hr hl he e4 hlt
  go_enter Try.func25, Try.ntmps25
  go_wp2_with (go_at_call 112; (with_reducible refine HF.out.mono ?_); rintro e w1 ⟨rfl, rfl⟩)
  go_quiet (fail)
  go_wp2
  go_ret3
  exact ⟨rfl, below_drewN (Below.refl _ _) _⟩
theorem own_row {m E' n c : Nat} {g : Nat} {xs : List Value} (h : w.ownsRow m E' 1 (.slice (some ⟨g, 0, none⟩) n c) n xs) : ∃ cs, Row w g E' cs := by
  rcases h.2 with ⟨e, _⟩ | ⟨g', cap, cur, e, _, hh, _⟩
  · cases e
  · injection e with e1 _ _
    injection e1 with e1
    injection e1 with e1
    subst e1
    exact ⟨_, hh⟩
theorem own_in {m E' n c : Nat} {g : Nat} {xs : List Value} (h : w.ownsRow m E' 1 (.slice (some ⟨g, 0, none⟩) n c) n xs) : g < w.heap.size := (h.lt g rfl).2
theorem own_free {m E' n c i : Nat} {g : Nat} {xs : List Value} (h : w.ownsRow m E' 1 (.slice (some ⟨g, 0, none⟩) n c) n xs) : w.frozen? ⟨g, i, none⟩ = false := by
  rcases h.2 with ⟨e, _⟩ | ⟨g', cap, cur, e, _, hh, _⟩
  · cases e
  · injection e with e1 _ _
    injection e1 with e1
    injection e1 with e1
    subst e1
    exact Row.free hh i
theorem RL.later (h : RL w B E AL AT AG cL cT cG) (hb : Below w.heap.size w v) : RL v B E AL AT AG cL cT cG := ⟨own_after h.l hb, own_after h.t hb, own_after h.g hb⟩
theorem own_put {m E' n c i : Nat} {g : Nat} {xs : List Value} (h : w.ownsRow m E' 1 (.slice (some ⟨g, 0, none⟩) n c) n xs) (u : Value) : (w.setCell ⟨g, i, none⟩ u).ownsRow m E' 1 (.slice (some ⟨g, 0, none⟩) n c) n (xs.set i u) := by
  refine ⟨by rw [List.length_set]; exact h.1, ?_⟩
  rcases h.2 with ⟨e, _⟩ | ⟨g', cap, cur, e, h2, h3, h4, h5, h6, h7⟩
  · cases e
  · injection e with e1 _ e3
    injection e1 with e1
    injection e1 with e1
    subst e1 e3
    refine .inr ⟨g, c, cur.setIfInBounds i u, rfl, h2, Row.written (t := E') (cs := cur) h3 i u, h4, h5, by simp [h6], ?_⟩
    rw [Array.toList_setIfInBounds, List.take_set, h7]
theorem set_eL {i : Nat} {e : Ent} (he : E[i]? = some e) (t' : Nat) (g' : Bool) : eL (E.set i { e with tk := t', gone := g' }) = eL E := by
  unfold eL
  rw [List.map_set]
  refine List.ext_getElem? fun j => ?_
  rw [List.getElem?_set]
  split
  · rename_i hj; subst hj
    split
    · rw [List.getElem?_map, he]; rfl
    · rename_i h9; rw [List.getElem?_eq_none (by omega)]
  · rfl
theorem set_eT {i : Nat} (e : Ent) (t' : Nat) (g' : Bool) : eT (E.set i { e with tk := t', gone := g' }) = (eT E).set i (.int .i64 (t' : Int)) := by
  unfold eT
  rw [List.map_set]
theorem set_eG {i : Nat} (e : Ent) (t' : Nat) (g' : Bool) : eG (E.set i { e with tk := t', gone := g' }) = (eG E).set i (.bool g') := by
  unfold eG
  rw [List.map_set]
theorem same_at {α : Type} {xs : List α} {i : Nat} {a : α} (h : xs[i]? = some a) : xs.set i a = xs := by
  refine List.ext_getElem? fun j => ?_
  rw [List.getElem?_set]
  split
  · rename_i hj; subst hj
    split
    · exact h.symm
    · rename_i h9; rw [List.getElem?_eq_none (by omega)]
  · rfl
theorem put_typed {m E' n g i : Nat} {t : TypeId} {cs : Array Value} {x : Value} {xs : List Value} (h : w.ownsRow m E' 1 x n xs) (hr : Row w g t cs) (hne : E' ≠ t) (u : Value) : (w.setCell ⟨g, i, none⟩ u).ownsRow m E' 1 x n xs :=
  own_typed h ((Only.refl (fun k => k = g) w).set (p := ⟨g, i, none⟩) (.inl rfl) u) fun g' cs' hr' e => by
    subst e
    exact Row.apart hr' hr hne rfl
theorem Ent.ok.put {g i : Nat} {t : TypeId} {cs : Array Value} {e : Ent} (h : e.ok B w) (hr : Row w g t cs) (hne : t ≠ 5) (u : Value) : e.ok B (w.setCell ⟨g, i, none⟩ u) :=
  h.only ((Only.refl (fun k => k = g) w).set (p := ⟨g, i, none⟩) (.inl rfl) u) fun g' cs' hr' e => by
    subst e
    exact Row.apart hr hr' hne rfl
theorem Ent.ok.turn {e : Ent} (h : e.ok B w) {t' : Nat} {g' : Bool} (h1 : t' ≤ e.bs.length) (h2 : g' = false → t' < e.bs.length) : Ent.ok B w { e with tk := t', gone := g' } := by
  obtain ⟨a1, a2, _, _, a5, a6, a7, a8⟩ := h
  exact ⟨a1, a2, h1, h2, a5, a6, a7, a8⟩
theorem RQ.gone {i : Nat} {e : Ent} {g3 : Nat} (h : RQ w y B room E) (hr : Row w y 33 #[.int .i64 room, .slice AL E.length cL, .slice AT E.length cT, .slice (some ⟨g3, 0, none⟩) E.length cG]) (hl : RL w B E AL AT (some ⟨g3, 0, none⟩) cL cT cG)
    (he : E[i]? = some e) (g' : Bool) (h2 : g' = false → e.tk < e.bs.length) : RQ (w.setCell ⟨g3, i, none⟩ (.bool g')) y B room (E.set i { e with tk := e.tk, gone := g' }) := by
  obtain ⟨cs3, hr3⟩ := own_row hl.g
  have hy : y ≠ g3 := Row.apart hr hr3 (by decide)
  refine ⟨⟨AL, cL, AT, cT, some ⟨g3, 0, none⟩, cG, ?_, ⟨?_, ?_, ?_⟩⟩, fun e' he' => ?_, by rw [List.length_set]; exact h.many⟩
  · rw [List.length_set]; exact hr.elsewhere hy _
  · rw [List.length_set, set_eL he]; exact put_typed hl.l hr3 (by decide) _
  · rw [List.length_set, set_eT, same_at (eT_at he)]; exact put_typed hl.t hr3 (by decide) _
  · rw [List.length_set, set_eG]; exact own_put hl.g _
  · rcases List.mem_or_eq_of_mem_set he' with h5 | h5
    · exact (h.ent e' h5).put hr3 (by decide) _
    · subst h5
      exact ((h.ent e (List.mem_of_getElem? he)).put hr3 (by decide) _).turn (h.ent e (List.mem_of_getElem? he)).2.2.1 h2
theorem RL.gone {i : Nat} {e : Ent} {g3 : Nat} (hl : RL w B E AL AT (some ⟨g3, 0, none⟩) cL cT cG) (he : E[i]? = some e) (g' : Bool) : RL (w.setCell ⟨g3, i, none⟩ (.bool g')) B (E.set i { e with tk := e.tk, gone := g' }) AL AT (some ⟨g3, 0, none⟩) cL cT cG := by
  obtain ⟨cs3, hr3⟩ := own_row hl.g
  refine ⟨?_, ?_, ?_⟩
  · rw [List.length_set, set_eL he]; exact put_typed hl.l hr3 (by decide) _
  · rw [List.length_set, set_eT, same_at (eT_at he)]; exact put_typed hl.t hr3 (by decide) _
  · rw [List.length_set, set_eG]; exact own_put hl.g _
theorem RQ.upd {i : Nat} {e : Ent} {g1 g3 : Nat} (h : RQ w y B room E) (hr : Row w y 33 #[.int .i64 room, .slice AL E.length cL, .slice (some ⟨g1, 0, none⟩) E.length cT, .slice (some ⟨g3, 0, none⟩) E.length cG]) (hl : RL w B E AL (some ⟨g1, 0, none⟩) (some ⟨g3, 0, none⟩) cL cT cG)
    (he : E[i]? = some e) (t' : Nat) (g' : Bool) (h1 : t' ≤ e.bs.length) (h2 : g' = false → t' < e.bs.length) : RQ ((w.setCell ⟨g1, i, none⟩ (.int .i64 (t' : Int))).setCell ⟨g3, i, none⟩ (.bool g')) y B room (E.set i { e with tk := t', gone := g' }) := by
  obtain ⟨cs1, hr1⟩ := own_row hl.t
  obtain ⟨cs3, hr3⟩ := own_row hl.g
  have hy : y ≠ g3 := Row.apart hr hr3 (by decide)
  have hy1 : y ≠ g1 := Row.apart hr hr1 (by decide)
  have h31 : g3 ≠ g1 := Row.apart hr3 hr1 (by decide)
  have hr3' := hr3.elsewhere (p := ⟨g1, i, none⟩) h31 (.int .i64 (t' : Int))
  refine ⟨⟨AL, cL, some ⟨g1, 0, none⟩, cT, some ⟨g3, 0, none⟩, cG, ?_, ⟨?_, ?_, ?_⟩⟩, fun e' he' => ?_, by rw [List.length_set]; exact h.many⟩
  · rw [List.length_set]; exact (hr.elsewhere hy1 _).elsewhere hy _
  · rw [List.length_set, set_eL he]; exact put_typed (put_typed hl.l hr1 (by decide) _) hr3' (by decide) _
  · rw [List.length_set, set_eT]; exact put_typed (own_put hl.t _) hr3' (by decide) _
  · rw [List.length_set, set_eG]; exact own_put (put_typed hl.g hr1 (by decide) _) _
  · rcases List.mem_or_eq_of_mem_set he' with h5 | h5
    · exact ((h.ent e' h5).put hr1 (by decide) _).put hr3' (by decide) _
    · subst h5
      exact (((h.ent e (List.mem_of_getElem? he)).put hr1 (by decide) _).put hr3' (by decide) _).turn h1 h2
theorem rq_take_none (n : Int) (h : RQ w y B room E) (hf : fE E = E.length) : Calls Try.prog 18 #[.pointer (some ⟨y, 0, none⟩), .int .i64 n] w fun e w' => e = .returned (.tuple #[.slice none 0 0, .bool false, .int .i64 4]) ∧ w = w' := by
  have HF := Lib.hid (by have h1 := rq_first h; rw [show fEi E = -1 by unfold fEi; rw [if_neg (by omega)]] at h1; exact h1)
  clear h hf
  go_enter Try.func18, Try.ntmps18
  go_wp2_with (go_at_call 112; (with_reducible refine HF.out.mono ?_); rintro e w1 ⟨rfl, rfl⟩)
  go_ret3
  exact ⟨rfl, rfl⟩
set_option maxRecDepth 100000 in
set_option maxHeartbeats 3200000 in
theorem rq_take_bad (n : Int) (h : RQ w y B room E) {e : Ent} (he : E[fE E]? = some e) (hn : n < 1 ∨ ((e.bs.length - e.tk : Nat) : Int) < n) : Calls Try.prog 18 #[.pointer (some ⟨y, 0, none⟩), .int .i64 n] w fun r w' => r = .returned (.tuple #[.slice none 0 0, .bool false, .int .i64 1]) ∧ Below w.heap.size w w' := by
  have hlt := (List.getElem?_eq_some_iff.1 he).1
  have HF := Lib.hid (by have h1 := rq_first h; rw [show fEi E = (fE E : Int) by unfold fEi; rw [if_pos hlt]] at h1; exact h1)
  obtain ⟨AL, cL, AT, cT, AG, cG, hr, hl⟩ := h.row
  obtain ⟨g1, rfl, z1⟩ := (own_at hl.t).cell (eT_at he)
  obtain ⟨g2, rfl, z2⟩ := (own_at hl.l).cell (eL_at he)
  obtain ⟨e1, e2, e3, e4, e5, e6, _⟩ := h.ent e (List.mem_of_getElem? he)
  obtain ⟨c0, c1, c2, c3⟩ := qcells hr
  have hm := h.many
  generalize fE E = f at *
  generalize E.length = q at *
  generalize e.bs.length = bl at *
  obtain ⟨eg, ec, _, tk, _⟩ := e
  simp only at *
  have h1 : (f : Int) < q := by omega
  have h0 : (0 : Int) ≤ f := by omega
  have hw : IntKind.i64.wrap ((bl : Int) - (tk : Int)) = ((bl - tk : Nat) : Int) := by rw [IntWalk.i64_in _ (by omega)]; omega
  generalize bl - tk = lf at *
  clear h hr hl he e4 hlt
  by_cases hn1 : n < 1
  · clear hn
    go_enter Try.func18, Try.ntmps18
    go_wp2_with (go_at_call 112; (with_reducible refine HF.out.mono ?_); rintro e w1 ⟨rfl, rfl⟩)
    go_quiet (fail)
    go_wp2
    go_ret3
    exact ⟨rfl, below_drewN (Below.refl _ _) _⟩
  · have hn2 : (lf : Int) < n := by omega
    clear hn
    go_enter Try.func18, Try.ntmps18
    go_wp2_with (go_at_call 112; (with_reducible refine HF.out.mono ?_); rintro e w1 ⟨rfl, rfl⟩)
    go_quiet (fail)
    go_wp2
    go_ret3
    exact ⟨rfl, below_drewN (Below.refl _ _) _⟩
set_option maxRecDepth 100000 in
set_option maxHeartbeats 6400000 in
theorem rq_take (n : Nat) (h : RQ w y B room E) {e : Ent} (he : E[fE E]? = some e) (hn1 : 1 ≤ n) (hn2 : n ≤ e.bs.length - e.tk) : Calls Try.prog 18 #[.pointer (some ⟨y, 0, none⟩), .int .i64 n] w fun r w' => ∃ c, r = .returned (.tuple #[.slice (some ⟨e.g, e.tk, none⟩) n c, .bool (n == e.bs.length - e.tk), .int .i64 0]) ∧
    RQ w' y B room (E.set (fE E) { e with tk := e.tk + n, gone := n == e.bs.length - e.tk }) ∧ Only (S34 B w) w w' := by
  have hlt := (List.getElem?_eq_some_iff.1 he).1
  have HF := Lib.hid (by have h1 := rq_first h; rw [show fEi E = (fE E : Int) by unfold fEi; rw [if_pos hlt]] at h1; exact h1)
  have HQ := Lib.hid h
  obtain ⟨AL, cL, AT, cT, AG, cG, hr, hl⟩ := h.row
  obtain ⟨g1, rfl, z1⟩ := (own_at hl.t).cell (eT_at he)
  obtain ⟨g2, rfl, z2⟩ := (own_at hl.l).cell (eL_at he)
  obtain ⟨g3, rfl, z3⟩ := (own_at hl.g).cell (eG_at he)
  obtain ⟨e1, e2, e3, e4, e5, e6, _⟩ := h.ent e (List.mem_of_getElem? he)
  obtain ⟨c0, c1, c2, c3⟩ := qcells hr
  have hm := h.many
  have HE := Lib.hid he
  have HR := Lib.hid hr
  have HL := Lib.hid hl
  generalize hf : fE E = f at *
  generalize hq : E.length = q at *
  have HQL := Lib.hid hq
  generalize hbl : e.bs.length = bl at *
  generalize htk : e.tk = tk at *
  have HTK := Lib.hid htk
  have HBL := Lib.hid hbl
  have h1 : (f : Int) < q := by omega
  have h0 : (0 : Int) ≤ f := by omega
  have hw : IntKind.i64.wrap ((bl : Int) - (tk : Int)) = ((bl - tk : Nat) : Int) := by rw [IntWalk.i64_in _ (by omega)]; omega
  have hw2 : IntKind.i64.wrap ((tk : Int) + (n : Int)) = ((tk + n : Nat) : Int) := by rw [IntWalk.i64_in _ (by omega)]; omega
  obtain ⟨x, hx⟩ : ∃ x : Nat, tk + n = x := ⟨_, rfl⟩
  rw [hx] at hw2
  have HX := Lib.hid hx
  obtain ⟨left, hleft⟩ : ∃ left : Nat, bl - tk = left := ⟨_, rfl⟩
  rw [hleft] at hw hn2 ⊢
  have HLF := Lib.hid hleft
  have hx0 : (0 : Int) ≤ tk := by omega
  have hx1 : (tk : Int) ≤ (x : Int) := by omega
  have hx2 : (x : Int) ≤ (bl : Int) := by omega
  have hx3 : (x : Int) ≤ (e.c : Int) := by omega
  have hn1i : (1 : Int) ≤ n := by omega
  have hn2i : (n : Int) ≤ left := by omega
  have hct : ¬ e.c = tk := by omega
  generalize heg : e.g = eg at *
  generalize hec : e.c = ec at *
  have HEG := Lib.hid heg
  have HEC := Lib.hid hec
  generalize hgo : e.gone = go at *
  have fz : w.frozen? ⟨g1, f, none⟩ = false := own_free HL.out.t
  have fz3 : w.frozen? ⟨g3, f, none⟩ = false := own_free HL.out.g
  have HC := Lib.hid (fun W (hb : Below w.heap.size w W) => (⟨qcells (HR.out.later hb), kept_box hb z1, kept_box hb z2, kept_box hb z3, (bcell hb).2 g1 f (own_in HL.out.t), (bcell hb).2 g3 f (own_in HL.out.g)⟩ : (W.cell? ⟨y, 0, none⟩ = some (.int .i64 room) ∧ W.cell? ⟨y, 1, none⟩ = some (.slice (some ⟨g2, 0, none⟩) q cL) ∧ W.cell? ⟨y, 2, none⟩ = some (.slice (some ⟨g1, 0, none⟩) q cT) ∧ W.cell? ⟨y, 3, none⟩ = some (.slice (some ⟨g3, 0, none⟩) q cG)) ∧ W.cell? ⟨g1, f, none⟩ = some (.int .i64 tk) ∧ W.cell? ⟨g2, f, none⟩ = some (.slice (some ⟨eg, 0, none⟩) bl ec) ∧ W.cell? ⟨g3, f, none⟩ = some (.bool go) ∧ W.frozen? ⟨g1, f, none⟩ = w.frozen? ⟨g1, f, none⟩ ∧ W.frozen? ⟨g3, f, none⟩ = w.frozen? ⟨g3, f, none⟩))
  have HF1 := Lib.hid fz
  have HF3 := Lib.hid fz3
  have hne : y ≠ g1 ∧ y ≠ g3 ∧ g3 ≠ g1 := by
    have q1 := own_row HL.out.t
    have q3 := own_row HL.out.g
    obtain ⟨cs1, q1⟩ := q1
    obtain ⟨cs3, q3⟩ := q3
    exact ⟨Row.apart HR.out q1 (by decide), Row.apart HR.out q3 (by decide), Row.apart q3 q1 (by decide)⟩
  obtain ⟨ne1, ne2, ne3⟩ := hne
  clear h hr hl he e1 e2 e3 e4 e5 e6 hlt hf hq hbl htk hx hleft heg hec hgo fz fz3 hn1 hn2
  go_enter Try.func18, Try.ntmps18
  go_wp2_with (go_at_call 112; (with_reducible refine HF.out.mono ?_); rintro e w1 ⟨rfl, rfl⟩)
  go_quiet (fail)
  have HB1 := Lib.hid (below_drewN (Below.refl w.heap.size w) nq)
  generalize w.drewN nq = wA at *
  clear c0 c1 c2 c3 z1 z2 z3
  obtain ⟨⟨c0, c1, c2, c3⟩, z1, z2, z3, u1, u3⟩ := HC.out wA HB1.out
  go_wp2
  go_quiet (fail)
  have HB2 := Lib.hid (below_drewN HB1.out nq)
  generalize wA.drewN nq = wB at *
  clear c0 c1 c2 c3 z1 z2 z3 u1 u3
  obtain ⟨⟨c0, c1, c2, c3⟩, z1, z2, z3, u1, u3⟩ := HC.out wB HB2.out
  go_wp2
  go_still_tail 15, (by kernel_rfl)
  change wpList _ _ _ _ _ wB.drew
  have HB3 := Lib.hid (bl_drew HB2.out)
  generalize wB.drew = wC at *
  clear c0 c1 c2 c3 z1 z2 z3 u1 u3
  obtain ⟨⟨c0, c1, c2, c3⟩, z1, z2, z3, u1, u3⟩ := HC.out wC HB3.out
  rw [HF1.out] at u1
  rw [HF3.out] at u3
  go_wp2
  go_ret3
  have hbq : ((n : Int) == (left : Int)) = (n == left) := by
    by_cases hh : n = left
    · subst hh; rw [beq_self_eq_true, beq_self_eq_true]
    · have : ¬ ((n : Int) = (left : Int)) := by omega
      rw [beq_eq_false_iff_ne.2 this, beq_eq_false_iff_ne.2 hh]
  refine ⟨ec - tk, ?_, ?_, ?_⟩
  · show Ending.returned (.tuple #[.slice (some ⟨eg, tk, none⟩) (x - tk) (ec - tk), .bool ((n : Int) == (left : Int)), .int .i64 0]) = _
    rw [hbq, show x - tk = n by have := HX.out; omega]
  · rw [hbq]
    have hq2 := (HQ.out.later HB3.out).upd (by rw [HQL.out]; exact HR.out.later HB3.out) (HL.out.later HB3.out) HE.out x (n == left) (by have := HBL.out; omega) (fun hh => by
      have h5 : ¬ n = left := by simpa using hh
      have := HBL.out; have := HX.out; have := HLF.out; omega)
    rw [HEG.out, HEC.out] at hq2
    rw [HX.out]
    exact hq2
  · obtain ⟨cs1, hr1⟩ := own_row HL.out.t
    obtain ⟨cs3, hr3⟩ := own_row HL.out.g
    exact ((Only.of_below HB3.out).set (p := ⟨g1, f, none⟩) (.inl ⟨(own_block HL.out.t g1 rfl).1, 3, cs1, hr1, .inl rfl⟩) _).set (p := ⟨g3, f, none⟩) (.inl ⟨(own_block HL.out.g g3 rfl).1, 4, cs3, hr3, .inr rfl⟩) _
/-- a text by its number, or none -/
def atN (E : List Ent) (n : Nat) : Option Ent := if n = 0 then none else E[n - 1]?
set_option maxRecDepth 100000 in
set_option maxHeartbeats 3200000 in
theorem rq_discard_none (n : Nat) (hn : n < 18446744073709551616) (h : RQ w y B room E) (he : ∀ e, atN E n = some e → e.gone = true) : Calls Try.prog 20 #[.pointer (some ⟨y, 0, none⟩), .int .u64 n] w fun r w' => r = .returned (.int .i64 4) ∧ Below w.heap.size w w' := by
  obtain ⟨AL, cL, AT, cT, AG, cG, hr, hl⟩ := h.row
  have HG := Lib.hid (own_at hl.g)
  obtain ⟨c0, c1, c2, c3⟩ := qcells hr
  have hm := h.many
  have HE := Lib.hid (fun (h1 : 1 ≤ n) (h2 : n ≤ E.length) => by
    have h3 : E[n - 1]? = some E[n - 1] := List.getElem?_eq_getElem (by omega)
    have h4 := he _ (by unfold atN; rw [if_neg (by omega)]; exact h3)
    have h5 := eG_at h3
    rw [h4] at h5
    exact h5)
  generalize E.length = q at *
  have hq0 : IntKind.u64.wrap (q : Int) = (q : Int) := by rw [IntKind.wrap_u64]; omega
  clear h hr hl he
  by_cases h1 : n < 1
  · obtain rfl : n = 0 := by omega
    go_enter Try.func20, Try.ntmps20
    go_wp2
    go_ret
    exact ⟨rfl, Below.refl _ _⟩
  · by_cases h2 : q < n
    · have h1i : ¬ (n : Int) < 1 := by omega
      have h2i : (q : Int) < n := by omega
      clear h1 h2
      go_enter Try.func20, Try.ntmps20
      go_wp2
      go_ret
      exact ⟨rfl, Below.refl _ _⟩
    · have h1i : ¬ (n : Int) < 1 := by omega
      have h2i : ¬ (q : Int) < n := by omega
      obtain ⟨g, rfl, z⟩ := HG.out.cell (HE.out (by omega) (by omega))
      have hw : IntKind.u64.wrap ((n : Int) - 1) = ((n - 1 : Nat) : Int) := by rw [IntKind.wrap_u64]; omega
      have h3 : ((n - 1 : Nat) : Int) < q := by omega
      clear h1 h2
      generalize n - 1 = k at *
      have h30 : (0 : Int) ≤ k := by omega
      go_enter Try.func20, Try.ntmps20
      go_wp2
      go_ret
      exact ⟨rfl, Below.refl _ _⟩
set_option maxRecDepth 100000 in
set_option maxHeartbeats 3200000 in
theorem rq_discard_state (n : Nat) (h : RQ w y B room E) {e : Ent} (hn : 1 ≤ n) (he : E[n - 1]? = some e) (hg : e.gone = false) (ht : 0 < e.tk) : Calls Try.prog 20 #[.pointer (some ⟨y, 0, none⟩), .int .u64 n] w fun r w' => r = .returned (.int .i64 7) ∧ Below w.heap.size w w' := by
  have hlt := (List.getElem?_eq_some_iff.1 he).1
  obtain ⟨AL, cL, AT, cT, AG, cG, hr, hl⟩ := h.row
  obtain ⟨g1, rfl, z1⟩ := (own_at hl.t).cell (eT_at he)
  obtain ⟨g3, rfl, z3⟩ := (own_at hl.g).cell (eG_at he)
  obtain ⟨c0, c1, c2, c3⟩ := qcells hr
  have hm := h.many
  generalize E.length = q at *
  generalize e.tk = tk at *
  rw [hg] at z3
  have hq0 : IntKind.u64.wrap (q : Int) = (q : Int) := by rw [IntKind.wrap_u64]; omega
  have h1i : ¬ (n : Int) < 1 := by omega
  have h2i : ¬ (q : Int) < n := by omega
  have hw : IntKind.u64.wrap ((n : Int) - 1) = ((n - 1 : Nat) : Int) := by rw [IntKind.wrap_u64]; omega
  have h3 : ((n - 1 : Nat) : Int) < q := by omega
  have hti : (0 : Int) < tk := by omega
  clear h hr hl he hg hlt hn ht
  generalize n - 1 = k at *
  have h30 : (0 : Int) ≤ k := by omega
  go_enter Try.func20, Try.ntmps20
  go_wp2
  go_ret
  exact ⟨rfl, Below.refl _ _⟩
set_option maxRecDepth 100000 in
set_option maxHeartbeats 3200000 in
theorem rq_discard (n : Nat) (h : RQ w y B room E) {e : Ent} (hn : 1 ≤ n) (he : E[n - 1]? = some e) (hg : e.gone = false) (ht : e.tk = 0) : Calls Try.prog 20 #[.pointer (some ⟨y, 0, none⟩), .int .u64 n] w fun r w' => r = .returned (.int .i64 0) ∧ RQ w' y B room (E.set (n - 1) { e with tk := e.tk, gone := true }) ∧ Only (S34 B w) w w' := by
  have hlt := (List.getElem?_eq_some_iff.1 he).1
  have HQ := Lib.hid h
  have HE := Lib.hid he
  obtain ⟨AL, cL, AT, cT, AG, cG, hr, hl⟩ := h.row
  obtain ⟨g1, rfl, z1⟩ := (own_at hl.t).cell (eT_at he)
  obtain ⟨g3, rfl, z3⟩ := (own_at hl.g).cell (eG_at he)
  have HF := Lib.hid (fun (d : Nat) => h.gone hr hl he true (fun hh => by cases hh))
  have f3 : w.frozen? ⟨g3, n - 1, none⟩ = false := own_free hl.g
  have HO := Lib.hid (show Only (S34 B w) w (w.setCell ⟨g3, n - 1, none⟩ (.bool true)) from by
    obtain ⟨cs3, hr3⟩ := own_row hl.g
    exact (Only.refl (S34 B w) w).set (p := ⟨g3, n - 1, none⟩) (.inl ⟨(own_block hl.g g3 rfl).1, 4, cs3, hr3, .inr rfl⟩) _)
  obtain ⟨c0, c1, c2, c3⟩ := qcells hr
  have hm := h.many
  rw [ht] at z1
  rw [hg] at z3
  generalize E.length = q at *
  have hq0 : IntKind.u64.wrap (q : Int) = (q : Int) := by rw [IntKind.wrap_u64]; omega
  have h1i : ¬ (n : Int) < 1 := by omega
  have h2i : ¬ (q : Int) < n := by omega
  have hw : IntKind.u64.wrap ((n : Int) - 1) = ((n - 1 : Nat) : Int) := by rw [IntKind.wrap_u64]; omega
  have h3 : ((n - 1 : Nat) : Int) < q := by omega
  clear h hr hl he hg hlt hn ht
  generalize n - 1 = k at *
  have h30 : (0 : Int) ≤ k := by omega
  go_enter Try.func20, Try.ntmps20
  go_wp2
  go_ret
  exact ⟨rfl, HF.out 0, HO.out⟩
def allGone (E : List Ent) (k : Nat) : List Ent := (E.take k).map (fun e => { e with tk := e.tk, gone := true }) ++ E.drop k
theorem allGone_len (E : List Ent) (k : Nat) : (allGone E k).length = E.length := by
  unfold allGone
  rw [List.length_append, List.length_map, List.length_take, List.length_drop]
  omega
theorem allGone_at {k : Nat} : (allGone E k)[k]? = E[k]? := by
  unfold allGone
  by_cases hk : k < E.length
  · rw [List.getElem?_append_right (by simp; omega), List.length_map, List.length_take, Nat.min_eq_left (by omega), Nat.sub_self, List.getElem?_drop]
    simp
  · rw [List.getElem?_eq_none (by rw [List.length_append, List.length_map, List.length_take, List.length_drop]; omega), List.getElem?_eq_none (by omega)]
theorem allGone_succ {k : Nat} {e : Ent} (h : E[k]? = some e) : (allGone E k).set k { e with tk := e.tk, gone := true } = allGone E (k + 1) := by
  have hk := (List.getElem?_eq_some_iff.1 h).1
  unfold allGone
  rw [List.set_append_right _ _ (by simp; omega), List.take_add_one, h, List.map_append, List.append_assoc]
  congr 1
  have hd : E.drop k = e :: E.drop (k + 1) := by
    rw [List.drop_eq_getElem_cons hk, (List.getElem?_eq_some_iff.1 h).2]
  rw [List.length_map, List.length_take, Nat.min_eq_left (by omega), Nat.sub_self, hd]
  rfl
set_option maxRecDepth 100000 in
set_option maxHeartbeats 3200000 in
theorem rq_clear (h : RQ w y B room E) : Calls Try.prog 23 #[.pointer (some ⟨y, 0, none⟩)] w fun r w' => ∃ A c, r = .returned (.slice A (idk E E.length).length c) ∧ SlAt w.heap.size 37 w' A (u64v (idk E E.length)) ∧ RQ w' y B room (allGone E E.length) ∧ Only (S34 B w) w w' := by
  have HI := Lib.hid (rq_ids h)
  obtain ⟨AL, cL, AT, cT, AG, cG, hr, hl⟩ := h.row
  have HQ := Lib.hid h
  have HR := Lib.hid hr
  have HLL := Lib.hid hl
  have HNX := Lib.hid (fun i (hi : i < E.length) => (⟨_, List.getElem?_eq_getElem hi⟩ : ∃ e, E[i]? = some e))
  have hm := h.many
  generalize idk E E.length = ids at *
  generalize hn : E.length = n at *
  have HN := Lib.hid hn
  clear h hr hl hn
  go_enter Try.func23, Try.ntmps23
  go_wp2_with (go_at_call 29; (with_reducible refine HI.out.mono ?_); rintro e w1 ⟨A1, c1', rfl, hs, hb⟩; (have HS := Lib.hid hs; have HB1 := Lib.hid hb; clear hs hb))
  go_loopw [4] (fun s4 wr => ∃ i : Nat, i ≤ n ∧ s4 = .int .i64 i ∧ Hid (RQ wr y B room (allGone E i)) ∧ Hid (∃ cL, Row wr y 33 #[.int .i64 room, .slice AL n cL, .slice AT n cT, .slice AG n cG] ∧ RL wr B (allGone E i) AL AT AG cL cT cG) ∧ Hid (SlAt w.heap.size 37 wr A1 (u64v ids)) ∧ Hid (Only (S34 B w) w wr)) (fun s4 _ => n - (intOf s4).toNat)
  case atStart => exact ⟨0, by omega, rfl, Lib.hid (HQ.out.later HB1.out), Lib.hid ⟨cL, HR.out.later HB1.out, HLL.out.later HB1.out⟩, HS, Lib.hid (.of_below HB1.out)⟩
  case round =>
    obtain ⟨i, hi, rfl, HQr, HRr, HSr, HOr⟩ := hrel
    obtain ⟨cL', hrr, hlr⟩ := HRr.out
    obtain ⟨c0, c1, c2, c3⟩ := qcells hrr
    by_cases hlt : i < n
    · obtain ⟨e, he⟩ := HNX.out i hlt
      have he2 : (allGone E i)[i]? = some e := allGone_at.trans he
      obtain ⟨g3, rfl, z3⟩ := (own_at hlr.g).cell (eG_at he2)
      have f3 : wr.frozen? ⟨g3, i, none⟩ = false := own_free hlr.g
      have h1 : (i : Int) < n := by omega
      have h0 : (0 : Int) ≤ i := by omega
      have hrr2 : Row wr y 33 #[.int .i64 room, .slice AL (allGone E i).length cL', .slice AT (allGone E i).length cT, .slice (some ⟨g3, 0, none⟩) (allGone E i).length cG] := by rw [allGone_len, HN.out]; exact hrr
      have HG := Lib.hid (HQr.out.gone hrr2 hlr he2 true (fun hh => by cases hh))
      have HSU := Lib.hid (allGone_succ he)
      obtain ⟨cs3, hr3⟩ := own_row hlr.g
      have HT3 := Lib.hid hr3
      have hold : g3 < w.heap.size ∧ B ≤ g3 := by
        have hg0 := own_in HLL.out.g
        exact ⟨hg0, (own_block HLL.out.g g3 rfl).1⟩
      have HOLD := Lib.hid hold
      have HW4 := Lib.hid (own_row HLL.out.g)
      have HLX := Lib.hid hlr
      have HRX := Lib.hid hrr
      have HLT := Lib.hid hlt
      have HE2 := Lib.hid he2
      clear he he2 hlt hr3 hold hrr2 hlr hrr
      go_wp2
      go_roundw
      case rel => exact ⟨i + 1, by have := HLT.out; omega, by go_num, Lib.hid (by rw [← HSU.out]; exact HG.out), Lib.hid ⟨cL', HRX.out.elsewhere (Row.apart HRX.out HT3.out (by decide)) _, by rw [← HSU.out]; exact HLX.out.gone HE2.out true⟩, Lib.hid (HSr.out.only ((Only.refl (fun k => k = g3) wr).set (p := ⟨g3, i, none⟩) (.inl rfl) _) (fun g cs hr _ e => by subst e; exact Row.apart hr HT3.out (by decide) rfl)), Lib.hid (HOr.out.set (p := ⟨g3, i, none⟩) (.inl (by obtain ⟨cs4, h4⟩ := HW4.out; exact ⟨HOLD.out.2, 4, cs4, h4, .inr rfl⟩)) _)⟩
      case measure => have := HLT.out; simp [intOf]; omega
    · have h1 : ¬ (i : Int) < n := by omega
      obtain rfl : i = n := by omega
      clear hlt
      go_wp2
      go_ret
      exact ⟨A1, ⟨c1', rfl⟩, HSr.out, HQr.out, HOr.out⟩
end
end Go.Proofs.Ytbcjfdhphpckfaa
namespace Go.Proofs.Ytbcjfdhphpckfaa
open Go.RowKit

/-- only rows of the types X, and new memory, have changed -/
structure KR (X : TypeId → Prop) (B : Nat) (w v : World) : Prop where
  base : B ≤ w.heap.size
  below : Below B w v
  size : w.heap.size ≤ v.heap.size
  rows : ∀ g t cs, Row w g t cs → ¬ X t → Row v g t cs
section
variable {w v u : World} {X Y : TypeId → Prop} {B : Nat}
theorem KR.refl (X : TypeId → Prop) (hB : B ≤ w.heap.size) : KR X B w w := ⟨hB, Below.refl _ _, Nat.le_refl _, fun _ _ _ h _ => h⟩
theorem KR.trans (h : KR X B w v) (h2 : KR X B v u) : KR X B w u := ⟨h.base, h.below.trans h2.below, Nat.le_trans h.size h2.size, fun g t cs hr hx => h2.rows g t cs (h.rows g t cs hr hx) hx⟩
theorem KR.weaker (h : KR X B w v) (hx : ∀ t, X t → Y t) : KR Y B w v := ⟨h.base, h.below, h.size, fun g t cs hr hy => h.rows g t cs hr fun hh => hy (hx t hh)⟩
theorem KR.of_below (hB : B ≤ w.heap.size) (h : Below w.heap.size w v) : KR X B w v := ⟨hB, h.mono hB, h.size, fun _ _ _ hr _ => hr.later h⟩
theorem KR.alloc (h : KR X B w v) (o : Obj) : KR X B w (v.alloc o) :=
  ⟨h.base, h.below.alloc (Nat.le_trans h.base h.size) o, Nat.le_trans h.size (bl_alloc (Below.refl _ _) o).size, fun g t cs hr hx => (h.rows g t cs hr hx).more o⟩
theorem KR.own {m E n : Nat} {x : Value} {xs : List Value} (h : KR X B w v) (ho : w.ownsRow m E 1 x n xs) (hE : ¬ X E) : v.ownsRow m E 1 x n xs := by
  refine ⟨ho.1, ?_⟩
  rcases ho.2 with h0 | ⟨g, cap, cur, rfl, hb, hh, h1⟩
  · exact .inl h0
  · exact .inr ⟨g, cap, cur, rfl, hb, h.rows g E cur hh hE, h1⟩
theorem KR.set {g i : Nat} {t : TypeId} {cs : Array Value} (hr : Row w g t cs) (hx : X t) (hg : B ≤ g) (hB : B ≤ w.heap.size) (x : Value) : KR X B w (w.setCell ⟨g, i, none⟩ x) := by
  have ho : Only (fun k => k = g) w (w.setCell ⟨g, i, none⟩ x) := (Only.refl (fun k => k = g) w).set (p := ⟨g, i, none⟩) (.inl rfl) x
  refine ⟨hB, ho.below hB (fun k hk e => by omega), ho.size, fun g' t' cs' hr' hn => hr'.only ho (fun e => ?_)⟩
  subst e
  unfold Row at hr hr'
  rw [hr] at hr'
  have e := Option.some.inj hr'
  cases e
  exact hn hx
theorem row_made_at {t : TypeId} {cs : Array Value} {g : Nat} (hg : w.heap.size = g) : Row (w.alloc (.cells cs t)) g t cs := by subst hg; exact Row.made _ _ _
theorem step_own {ops : Array Oper} {o : Oper} {a : Act} {K : Act → World → Prop} {Q : Exit → Act → World → Prop} {F : Prop} {n T E by' g : Nat} {z x u : Value} {xs : List Value} (hgd : o.guard = none) (s y : Operand)
    (ho : o.op = .call { callee := .builtin .append, args := #[s, y], argTypes := #[T, T] }) (hty : o.type = T) (hT : Try.prog.underlying T = some (.slice E)) (hI : (Try.prog.info? E).map (fun i => (i.zero, i.size, i.bytes)) = some (some z, 1, by')) (hz : z.cells.size = 1) (hby : by' ≤ 24) (hu : u.oneCell' = true)
    (hs : a.eval s = x) (hy : a.eval y = .slice (some ⟨g, 0, none⟩) 1 1) (hown : w.ownsRow B E 1 x n xs) (hrow : Row w g E #[u]) (hB : B ≤ w.heap.size) (hn : n ≤ 100000)
    (hK : ∀ A' c' w', w'.ownsRow B E 1 (.slice A' (n + 1) c') (n + 1) (xs ++ [u]) → KR (fun t => t = E) B w w' → K (a.put o.dst (.slice A' (n + 1) c')) w') :
    if Region.wanted o (yielded ops a.tmps) = true then Oper.wp Try.prog o a w K Q else F := by
  obtain ⟨i0, hi, hi0, hi1, hi2⟩ := info_parts hI
  obtain ⟨v', w2, hrun, hown2, hgr, _, hat⟩ := run_append_own_at (P := Try.prog) (w := w) B T T E i0 z 1 by' hT hi hi0 hi1 hi2 hz (by omega) x n xs hown ⟨g, 0, none⟩ 1 1 [u] rfl
    (fun j u' hu' => by
      match j, hu' with
      | 0, hu' =>
        simp only [List.getElem?_cons_zero, Option.some.injEq] at hu'
        subst hu'
        rw [add_zero_o]
        exact hrow.read rfl
      | j + 1, hu' => simp at hu') (by intro y hy; simp at hy; subst hy; exact hu) (by unfold maxLen; omega) (by have := Nat.mul_le_mul (show n + 1 ≤ 100001 by omega) hby; omega) hB
  have hon : Only (fun k => x.ownBlock = some k) w w2 := (Only.refl _ _).grown hgr (fun k hk => .inl hk)
  obtain ⟨A', c', rfl⟩ : ∃ A' c', v' = .slice A' (n + 1) c' := by
    rcases hown2.2 with ⟨_, e⟩ | ⟨g, cap, cur, e, _⟩
    · omega
    · exact ⟨some ⟨g, 0, none⟩, cap, e⟩
  refine step_run hgd s y T ho x (.slice (some ⟨g, 0, none⟩) 1 1) hs hy (by rw [hty]; exact hrun) (hK A' c' w2 hown2 ⟨hB, hon.below hB (fun k hk hk2 => by have := (own_block hown k hk2).1; omega), hon.size, fun g' t cs hr hne => hr.only hon (fun hk => ?_)⟩)
  exact own_apart hown hr (fun e => hne e.symm) hk
theorem step_copy {ops : Array Oper} {o : Oper} {a : Act} {K : Act → World → Prop} {Q : Exit → Act → World → Prop} {F : Prop} {A : Option Addr} {c n : Nat} {l : List Nat} (hgd : o.guard = none) (s y : Operand)
    (ho : o.op = .call { callee := .builtin .append, args := #[s, y], argTypes := #[34, 34] }) (hty : o.type = 34) (hs : a.eval s = .slice none 0 0) (hy : a.eval y = .slice A n c) (hl : l.length = n) (h0 : 0 < n) (hn : n ≤ 1000000) (hsrc : QSrcB w A (qbts l))
    (hK : ∀ g cap w', n ≤ cap → cap ≤ 9223372036854775807 → w.heap.size ≤ g → (∃ cs : Array Value, Row w' g 5 cs ∧ ∀ (j b : Nat), l[j]? = some b → cs[j]? = some (Value.int .u8 (b : Nat))) → Below w.heap.size w w' → K (a.put o.dst (.slice (some ⟨g, 0, none⟩) n cap)) w') :
    if Region.wanted o (yielded ops a.tmps) = true then Oper.wp Try.prog o a w K Q else F := by
  subst hl
  obtain ⟨cap, w1, hr, hc1, hc2, hf⟩ := copy_fresh (c := c) hsrc h0 hn
  exact step_run hgd s y 34 ho _ _ hs hy (by rw [hty]; exact hr) (hK _ cap w1 hc1 (by unfold maxLen at hc2; omega) hf.1 hf.2.1 hf.2.2)
end
end Go.Proofs.Ytbcjfdhphpckfaa
namespace Go.Proofs.Ytbcjfdhphpckfaa
open Go.RowKit

/-- a stronger condition may be held from here on -/
theorem wpAnyH_more {P : Program} {md : Region.Mode} {ops : Array Oper} {Q : Exit → Act → World → Prop} {S S' : World → Prop} : ∀ {fuel : Nat} {listed : Array Bool} {a : Act} {w : World}, wpAnyH P md ops Q S' fuel listed a w → (∀ w, S' w → S w) → wpAnyH P md ops Q S fuel listed a w
  | 0, _, _, _, h, _ => h
  | _ + 1, _, _, _, h, hs => ⟨h.1, fun i hi => wpOp_mono (fun _ _ h' => ⟨hs _ h'.1, wpAnyH_more h'.2 hs⟩) (h.2 i hi)⟩

theorem take_at {P : Program} {md : Region.Mode} {ops : Array Oper} {Q : Exit → Act → World → Prop} {S : World → Prop} (i t : Nat) {oi : Oper} {v : Value} {fuel : Nat} {listed : Array Bool} {a : Act} {w : World} (hi : ops[i]? = some oi) (hd : oi.dst = some t)
    (hs : Region.noSelect ops = true) (hf : Region.free md ops listed i = true) (hr : (Region.ready md ops listed).contains i = true)
    (hQ : ∀ c a w, Q (.panic c) (a.put oi.dst v) w → Q (.panic c) a w) (hy : YieldsIf P ops S oi v a) (hS : S w)
    (h : wpAnyH P md ops Q S fuel (listed.setIfInBounds i true) (a.put (some t) v) w) : wpAnyH P md ops Q S (fuel + 1) listed a w :=
  wpAnyH_take hi hs hf hr hQ hy hS (by rw [hd]; exact h)

/-- what of a frame is forgotten -/
theorem wp_of_frame {P : Program} {c : Code} {Q : Exit → Act → World → Prop} {a : Act} {w : World} (xs : List (Option Value)) (h : Fr xs a) (k : ∀ a', Fr xs a' → c.wp P Q a' w) : c.wp P Q a w := k a h
end Go.Proofs.Ytbcjfdhphpckfaa
namespace Go.Proofs.Ytbcjfdhphpckfaa
open Go.RowKit

section
variable {P : Program} {ops : Array Oper} {Q : Exit → Act → World → Prop} {md : Region.Mode} {S : Array Bool → World → Prop} {T : World → Prop}
/-- whatever order is picked, and behind each operation S holds of what has come up and of the world -/
def AnyL (P : Program) (md : Region.Mode) (ops : Array Oper) (Q : Exit → Act → World → Prop) (S : Array Bool → World → Prop) : Nat → Array Bool → Act → World → Prop
  | 0, l, a, w => Region.ready md ops l = [] ∧ Q .normal a w
  | f + 1, l, a, w => (Region.ready md ops l = [] → Q .normal a w) ∧ ∀ i ∈ Region.ready md ops l, wpOp P ops Q i (fun a' w' => S (l.setIfInBounds i true) w' ∧ AnyL P md ops Q S f (l.setIfInBounds i true) a' w') a w
theorem AnyL.any : ∀ (f : Nat) (l : Array Bool) (a : Act) (w : World), AnyL P md ops Q S f l a w → wpAny P md ops Q f l a w
  | 0, _, _, _, h => h
  | f + 1, _, _, _, h => ⟨h.1, fun i hi => wpOp_mono (fun a' w' h' => AnyL.any f _ a' w' h'.2) (h.2 i hi)⟩
/-- an operation may be taken first that yields as long as one which waits for it has not come up -/
theorem AnyL.first {i g : Nat} {oi og : Oper} {v : Value} (hi : ops[i]? = some oi) (hg : ops[g]? = some og) (hgi : ∃ e ∈ og.after, Region.binds md e = true ∧ e.on = i) (hsel : ∀ (j : Nat) (o : Oper) cs b, ops[j]? = some o → o.op ≠ .select cs b)
    (hQ : ∀ c a w, Q (.panic c) (a.put oi.dst v) w → Q (.panic c) a w) (hT : ∀ l w, l.getD g true = false → S l w → T w) (hS1 : ∀ l w, S l w → S (l.setIfInBounds i true) w) (hS2 : ∀ l w, S (l.setIfInBounds i true) w → S l w) :
    ∀ (f : Nat) (l : Array Bool) (a : Act) (w : World), (∀ j oj, ops[j]? = some oj → j ≠ i → l.getD j true = false → (∀ e ∈ oj.after, Region.binds md e = true → e.on ≠ i) → oi.apart ops oj = true) →
      i ∈ Region.ready md ops l → l.getD g true = false → YieldsIf P ops T oi v a → S l w → AnyL P md ops Q S f (l.setIfInBounds i true) (a.put oi.dst v) w → AnyL P md ops Q S (f + 1) l a w := by
  intro f
  induction f with
  | zero =>
    intro l a w _ hr hlg hy hS H
    refine ⟨fun h => (by rw [h] at hr; cases hr), fun j hj => ?_⟩
    by_cases hji : j = i
    · subst hji
      exact hy.wpOp hi (hT l w hlg hS) ⟨hS1 l w hS, H⟩
    · have := ready_mono hj hji
      rw [H.1] at this
      cases this
  | succ f ih =>
    intro l a w hfree hr hlg hy hS H
    refine ⟨fun h => (by rw [h] at hr; cases hr), fun j hj => ?_⟩
    by_cases hji : j = i
    · subst hji
      exact hy.wpOp hi (hT l w hlg hS) ⟨hS1 l w hS, H⟩
    · have h1 := H.2 j (ready_mono hj hji)
      obtain ⟨hjun, oj, hoj, hall⟩ := mem_ready.1 hj
      have hnot : ∀ e ∈ oj.after, Region.binds md e = true → e.on ≠ i := fun e he hb heq => by
        have h1 := hall e he hb
        have h0 := (mem_ready.1 hr).1
        rw [heq] at h1
        rcases Nat.lt_or_ge i l.size with h' | h'
        · simp [h'] at h0 h1
          rw [h0] at h1
          cases h1
        · simp [Array.getElem?_eq_none h'] at h1
      have hjg : j ≠ g := fun e => by
        subst e
        rw [hg] at hoj
        injection hoj with hoj
        subst hoj
        obtain ⟨e, he, hb, ho⟩ := hgi
        exact hnot e he hb ho
      have h2 := wpOp_putIf hoj (hfree j oj hoj hji hjun hnot) (fun cs b => hsel i oi cs b hi) (fun cs b => hsel j oj cs b hoj) hQ hy h1
      refine wpOp_mono (fun a' w' h3 => ?_) h2
      have hc := Array.setIfInBounds_comm (xs := l) true true (Ne.symm hji)
      have h4 : S (l.setIfInBounds j true) w' := hS2 _ _ (by
        have := h3.2.1
        rw [hc] at this
        exact this)
      refine ⟨h4, ih (l.setIfInBounds j true) a' w' ?_ (ready_mono hr (Ne.symm hji)) (by rw [getD_set_ne true hjg]; exact hlg) h3.1 h4 ?_⟩
      · intro k ok hk hki hun hno
        refine hfree k ok hk hki ?_ hno
        by_cases hjk : j = k
        · subst hjk; exact hjun
        · rw [getD_set_ne true hjk] at hun; exact hun
      · have := h3.2.2
        rw [hc] at this
        exact this
/-- the same, its side conditions as Bools -/
theorem AnyL.take (g : Nat) {i : Nat} {oi : Oper} {v : Value} {f : Nat} {l : Array Bool} {a : Act} {w : World} (T : World → Prop) (hi : ops[i]? = some oi) (hs : Region.noSelect ops = true) (hf : Region.free md ops l i = true) (hr : (Region.ready md ops l).contains i = true)
    (hg : ((ops[g]?).map fun o => o.after.any fun e => Region.binds md e && e.on == i) = some true) (hlg : l.getD g true = false) (hQ : ∀ c a w, Q (.panic c) (a.put oi.dst v) w → Q (.panic c) a w)
    (hT : ∀ l w, l.getD g true = false → S l w → T w) (hS1 : ∀ l w, S l w → S (l.setIfInBounds i true) w) (hS2 : ∀ l w, S (l.setIfInBounds i true) w → S l w) (hy : YieldsIf P ops T oi v a) (hS : S l w)
    (h : AnyL P md ops Q S f (l.setIfInBounds i true) (a.put oi.dst v) w) : AnyL P md ops Q S (f + 1) l a w := by
  obtain ⟨og, hog⟩ : ∃ og, ops[g]? = some og := by
    cases e : ops[g]? with
    | none => rw [e] at hg; simp at hg
    | some og => exact ⟨og, rfl⟩
  rw [hog] at hg
  simp only [Option.map_some, Option.some.injEq] at hg
  obtain ⟨e, he, hb⟩ := Array.any_eq_true'.1 hg
  simp only [Bool.and_eq_true, beq_iff_eq] at hb
  exact AnyL.first hi hog ⟨e, he, hb.1, hb.2⟩ (Region.noSelect_spec hs) hQ hT hS1 hS2 f l a w (Region.free_spec hi hf) (by simpa using hr) hlg hy hS h
/-- whichever comes up -/
theorem AnyL.take_at (g i t : Nat) {oi : Oper} {v : Value} {f : Nat} {l : Array Bool} {a : Act} {w : World} (T : World → Prop) (hi : ops[i]? = some oi) (hd : oi.dst = some t) (hs : Region.noSelect ops = true) (hf : Region.free md ops l i = true) (hr : (Region.ready md ops l).contains i = true)
    (hg : ((ops[g]?).map fun o => o.after.any fun e => Region.binds md e && e.on == i) = some true) (hlg : l.getD g true = false) (hQ : ∀ c a w, Q (.panic c) (a.put oi.dst v) w → Q (.panic c) a w)
    (hT : ∀ l w, l.getD g true = false → S l w → T w) (hS1 : ∀ l w, S l w → S (l.setIfInBounds i true) w) (hS2 : ∀ l w, S (l.setIfInBounds i true) w → S l w) (hy : YieldsIf P ops T oi v a) (hS : S l w)
    (h : AnyL P md ops Q S f (l.setIfInBounds i true) (a.put (some t) v) w) : AnyL P md ops Q S (f + 1) l a w :=
  AnyL.take g T hi hs hf hr hg hlg hQ hT hS1 hS2 hy hS (by rw [hd]; exact h)
theorem AnyL.all {rs : List Nat} {f : Nat} {l : Array Bool} {a : Act} {w : World} (hr : Region.ready md ops l = rs) (hne : rs ≠ [])
    (h : ∀ i ∈ rs, wpOp P ops Q i (fun a' w' => S (l.setIfInBounds i true) w' ∧ AnyL P md ops Q S f (l.setIfInBounds i true) a' w') a w) : AnyL P md ops Q S (f + 1) l a w :=
  ⟨fun h0 => absurd (hr ▸ h0) hne, hr ▸ h⟩
theorem AnyL.done {l : Array Bool} {a : Act} {w : World} (hr : Region.ready md ops l = []) (h : Q .normal a w) : ∀ f, AnyL P md ops Q S f l a w
  | 0 => ⟨hr, h⟩
  | _ + 1 => ⟨fun _ => h, by rw [hr]; simp⟩
theorem AnyL.start {id : Nat} {a : Act} {w : World} (hm : P.follows .mixedOrders = true) (h : AnyL P .any ops Q S ops.size (Array.replicate ops.size false) a w.drew) : (Code.region id ops true).wp P Q a w :=
  wp_region_any hm (AnyL.any _ _ _ _ h)
end
end Go.Proofs.Ytbcjfdhphpckfaa
