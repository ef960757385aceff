/-
  The document's queue: its front; a text discarded. The document's queue: a text pushed (the steps of its drawn region). umtx: what is there while a packet is built.
-/
import Derived.Test.YtjonkpdjhjobfaaJUmtxLives14
import Derived.BigQuiet
import Derived.StillTailTactics
import Derived.Test.YtjonkpdjhjobfaaJUmtxLives07
import Derived.Test.YtjonkpdjhjobfaaJUmtxLives06
import Derived.Test.YtjonkpdjhjobfaaJUmtxLives10
import Derived.Test.YtjonkpdjhjobfaaJUmtxLives13
import Derived.Deep.RegionHeld3
import Derived.Deep.DeepCutAuto
namespace Go.Proofs.Ytjonkpdjhjobfaa
open Go.RowKit

def S34 (B : Nat) (w : World) (k : Nat) : Prop := B ≤ k ∧ ∃ t cs, Row w k t cs ∧ (t = 3 ∨ t = 4)
section
variable {w v : World} {y B : Nat} {room : Int} {E : List Ent} {AL AT AG : Option Addr} {cL cT cG : Nat}
theorem rq_front_none (h : RQ w y B room E) (hf : fE E = E.length) : Calls Try.prog 168 #[.pointer (some ⟨y, 0, none⟩)] w fun e w' => e = .returned (.tuple #[.int .u64 0, .slice none 0 0, .bool false]) ∧ w = w' := by
  have HF := Lib.hid (by have h1 := rq_first h; rw [show fEi E = -1 by unfold fEi; rw [if_neg (by omega)]] at h1; exact h1)
  clear h hf
  go_enter Try.func168, Try.ntmps168
  go_wp2_with (go_at_call 206; (with_reducible refine HF.out.mono ?_); rintro e w1 ⟨rfl, rfl⟩)
  go_ret3
  exact ⟨rfl, rfl⟩
set_option maxRecDepth 100000 in
set_option maxHeartbeats 3200000 in
theorem rq_front (h : RQ w y B room E) {e : Ent} (he : E[fE E]? = some e) : Calls Try.prog 168 #[.pointer (some ⟨y, 0, none⟩)] w fun r w' => r = .returned (.tuple #[.int .u64 ((fE E : Int) + 1), .slice (some ⟨e.g, e.tk, none⟩) (e.bs.length - e.tk) (e.c - e.tk), .bool (decide (0 < e.tk))]) ∧ Below w.heap.size w w' := by
  have hlt := (List.getElem?_eq_some_iff.1 he).1
  have HF := Lib.hid (by have h1 := rq_first h; rw [show fEi E = (fE E : Int) by unfold fEi; rw [if_pos hlt]] at h1; exact h1)
  obtain ⟨AL, cL, AT, cT, AG, cG, hr, hl⟩ := h.row
  obtain ⟨g1, rfl, z1⟩ := (own_at hl.t).cell (eT_at he)
  obtain ⟨g2, rfl, z2⟩ := (own_at hl.l).cell (eL_at he)
  obtain ⟨e1, e2, e3, e4, e5, e6, _⟩ := h.ent e (List.mem_of_getElem? he)
  have e7 := e4 (fE_at he)
  obtain ⟨c0, c1, c2, c3⟩ := qcells hr
  have hm := h.many
  generalize fE E = f at *
  generalize E.length = n at *
  generalize e.bs.length = bl at *
  obtain ⟨eg, ec, _, tk, _⟩ := e
  simp only at *
  have h1 : (f : Int) < n := by omega
  have h0 : (0 : Int) ≤ f := by omega
  have ht0 : (0 : Int) ≤ tk := by omega
  have ht1 : (tk : Int) ≤ bl := by omega
  have hu : IntKind.u64.wrap ((f : Int) + 1) = (f : Int) + 1 := by rw [IntKind.wrap_u64]; omega
  have hu0 : IntKind.u64.wrap (f : Int) = (f : Int) := by rw [IntKind.wrap_u64]; omega
  clear h hr hl he e4 hlt
  go_enter Try.func168, Try.ntmps168
  go_wp2_with (go_at_call 206; (with_reducible refine HF.out.mono ?_); rintro e w1 ⟨rfl, rfl⟩)
  go_quiet (fail)
  go_wp2
  go_ret3
  exact ⟨rfl, below_drewN (Below.refl _ _) _⟩
theorem own_row {m E' n c : Nat} {g : Nat} {xs : List Value} (h : w.ownsRow m E' 1 (.slice (some ⟨g, 0, none⟩) n c) n xs) : ∃ cs, Row w g E' cs := by
  rcases h.2 with ⟨e, _⟩ | ⟨g', cap, cur, e, _, hh, _⟩
  · cases e
  · injection e with e1 _ _
    injection e1 with e1
    injection e1 with e1
    subst e1
    exact ⟨_, hh⟩
theorem own_in {m E' n c : Nat} {g : Nat} {xs : List Value} (h : w.ownsRow m E' 1 (.slice (some ⟨g, 0, none⟩) n c) n xs) : g < w.heap.size := (h.lt g rfl).2
theorem own_free {m E' n c i : Nat} {g : Nat} {xs : List Value} (h : w.ownsRow m E' 1 (.slice (some ⟨g, 0, none⟩) n c) n xs) : w.frozen? ⟨g, i, none⟩ = false := by
  rcases h.2 with ⟨e, _⟩ | ⟨g', cap, cur, e, _, hh, _⟩
  · cases e
  · injection e with e1 _ _
    injection e1 with e1
    injection e1 with e1
    subst e1
    exact Row.free hh i
theorem RL.later (h : RL w B E AL AT AG cL cT cG) (hb : Below w.heap.size w v) : RL v B E AL AT AG cL cT cG := ⟨own_after h.l hb, own_after h.t hb, own_after h.g hb⟩
theorem own_put {m E' n c i : Nat} {g : Nat} {xs : List Value} (h : w.ownsRow m E' 1 (.slice (some ⟨g, 0, none⟩) n c) n xs) (u : Value) : (w.setCell ⟨g, i, none⟩ u).ownsRow m E' 1 (.slice (some ⟨g, 0, none⟩) n c) n (xs.set i u) := by
  refine ⟨by rw [List.length_set]; exact h.1, ?_⟩
  rcases h.2 with ⟨e, _⟩ | ⟨g', cap, cur, e, h2, h3, h4, h5, h6, h7⟩
  · cases e
  · injection e with e1 _ e3
    injection e1 with e1
    injection e1 with e1
    subst e1 e3
    refine .inr ⟨g, c, cur.setIfInBounds i u, rfl, h2, Row.written (t := E') (cs := cur) h3 i u, h4, h5, by simp [h6], ?_⟩
    rw [Array.toList_setIfInBounds, List.take_set, h7]
theorem set_eL {i : Nat} {e : Ent} (he : E[i]? = some e) (t' : Nat) (g' : Bool) : eL (E.set i { e with tk := t', gone := g' }) = eL E := by
  unfold eL
  rw [List.map_set]
  refine List.ext_getElem? fun j => ?_
  rw [List.getElem?_set]
  split
  · rename_i hj; subst hj
    split
    · rw [List.getElem?_map, he]; rfl
    · rename_i h9; rw [List.getElem?_eq_none (by omega)]
  · rfl
theorem set_eT {i : Nat} (e : Ent) (t' : Nat) (g' : Bool) : eT (E.set i { e with tk := t', gone := g' }) = (eT E).set i (.int .i64 (t' : Int)) := by
  unfold eT
  rw [List.map_set]
theorem set_eG {i : Nat} (e : Ent) (t' : Nat) (g' : Bool) : eG (E.set i { e with tk := t', gone := g' }) = (eG E).set i (.bool g') := by
  unfold eG
  rw [List.map_set]
theorem same_at {α : Type} {xs : List α} {i : Nat} {a : α} (h : xs[i]? = some a) : xs.set i a = xs := by
  refine List.ext_getElem? fun j => ?_
  rw [List.getElem?_set]
  split
  · rename_i hj; subst hj
    split
    · exact h.symm
    · rename_i h9; rw [List.getElem?_eq_none (by omega)]
  · rfl
theorem put_typed {m E' n g i : Nat} {t : TypeId} {cs : Array Value} {x : Value} {xs : List Value} (h : w.ownsRow m E' 1 x n xs) (hr : Row w g t cs) (hne : E' ≠ t) (u : Value) : (w.setCell ⟨g, i, none⟩ u).ownsRow m E' 1 x n xs :=
  own_typed h ((Only.refl (fun k => k = g) w).set (p := ⟨g, i, none⟩) (.inl rfl) u) fun g' cs' hr' e => by
    subst e
    exact Row.apart hr' hr hne rfl
theorem Ent.ok.put {g i : Nat} {t : TypeId} {cs : Array Value} {e : Ent} (h : e.ok B w) (hr : Row w g t cs) (hne : t ≠ 5) (u : Value) : e.ok B (w.setCell ⟨g, i, none⟩ u) :=
  h.only ((Only.refl (fun k => k = g) w).set (p := ⟨g, i, none⟩) (.inl rfl) u) fun g' cs' hr' e => by
    subst e
    exact Row.apart hr hr' hne rfl
theorem Ent.ok.turn {e : Ent} (h : e.ok B w) {t' : Nat} {g' : Bool} (h1 : t' ≤ e.bs.length) (h2 : g' = false → t' < e.bs.length) : Ent.ok B w { e with tk := t', gone := g' } := by
  obtain ⟨a1, a2, _, _, a5, a6, a7, a8⟩ := h
  exact ⟨a1, a2, h1, h2, a5, a6, a7, a8⟩
theorem RQ.gone {i : Nat} {e : Ent} {g3 : Nat} (h : RQ w y B room E) (hr : Row w y 52 #[.int .i64 room, .slice AL E.length cL, .slice AT E.length cT, .slice (some ⟨g3, 0, none⟩) E.length cG]) (hl : RL w B E AL AT (some ⟨g3, 0, none⟩) cL cT cG)
    (he : E[i]? = some e) (g' : Bool) (h2 : g' = false → e.tk < e.bs.length) : RQ (w.setCell ⟨g3, i, none⟩ (.bool g')) y B room (E.set i { e with tk := e.tk, gone := g' }) := by
  obtain ⟨cs3, hr3⟩ := own_row hl.g
  have hy : y ≠ g3 := Row.apart hr hr3 (by decide)
  refine ⟨⟨AL, cL, AT, cT, some ⟨g3, 0, none⟩, cG, ?_, ⟨?_, ?_, ?_⟩⟩, fun e' he' => ?_, by rw [List.length_set]; exact h.many⟩
  · rw [List.length_set]; exact hr.elsewhere hy _
  · rw [List.length_set, set_eL he]; exact put_typed hl.l hr3 (by decide) _
  · rw [List.length_set, set_eT, same_at (eT_at he)]; exact put_typed hl.t hr3 (by decide) _
  · rw [List.length_set, set_eG]; exact own_put hl.g _
  · rcases List.mem_or_eq_of_mem_set he' with h5 | h5
    · exact (h.ent e' h5).put hr3 (by decide) _
    · subst h5
      exact ((h.ent e (List.mem_of_getElem? he)).put hr3 (by decide) _).turn (h.ent e (List.mem_of_getElem? he)).2.2.1 h2
theorem RL.gone {i : Nat} {e : Ent} {g3 : Nat} (hl : RL w B E AL AT (some ⟨g3, 0, none⟩) cL cT cG) (he : E[i]? = some e) (g' : Bool) : RL (w.setCell ⟨g3, i, none⟩ (.bool g')) B (E.set i { e with tk := e.tk, gone := g' }) AL AT (some ⟨g3, 0, none⟩) cL cT cG := by
  obtain ⟨cs3, hr3⟩ := own_row hl.g
  refine ⟨?_, ?_, ?_⟩
  · rw [List.length_set, set_eL he]; exact put_typed hl.l hr3 (by decide) _
  · rw [List.length_set, set_eT, same_at (eT_at he)]; exact put_typed hl.t hr3 (by decide) _
  · rw [List.length_set, set_eG]; exact own_put hl.g _
theorem RQ.upd {i : Nat} {e : Ent} {g1 g3 : Nat} (h : RQ w y B room E) (hr : Row w y 52 #[.int .i64 room, .slice AL E.length cL, .slice (some ⟨g1, 0, none⟩) E.length cT, .slice (some ⟨g3, 0, none⟩) E.length cG]) (hl : RL w B E AL (some ⟨g1, 0, none⟩) (some ⟨g3, 0, none⟩) cL cT cG)
    (he : E[i]? = some e) (t' : Nat) (g' : Bool) (h1 : t' ≤ e.bs.length) (h2 : g' = false → t' < e.bs.length) : RQ ((w.setCell ⟨g1, i, none⟩ (.int .i64 (t' : Int))).setCell ⟨g3, i, none⟩ (.bool g')) y B room (E.set i { e with tk := t', gone := g' }) := by
  obtain ⟨cs1, hr1⟩ := own_row hl.t
  obtain ⟨cs3, hr3⟩ := own_row hl.g
  have hy : y ≠ g3 := Row.apart hr hr3 (by decide)
  have hy1 : y ≠ g1 := Row.apart hr hr1 (by decide)
  have h31 : g3 ≠ g1 := Row.apart hr3 hr1 (by decide)
  have hr3' := hr3.elsewhere (p := ⟨g1, i, none⟩) h31 (.int .i64 (t' : Int))
  refine ⟨⟨AL, cL, some ⟨g1, 0, none⟩, cT, some ⟨g3, 0, none⟩, cG, ?_, ⟨?_, ?_, ?_⟩⟩, fun e' he' => ?_, by rw [List.length_set]; exact h.many⟩
  · rw [List.length_set]; exact (hr.elsewhere hy1 _).elsewhere hy _
  · rw [List.length_set, set_eL he]; exact put_typed (put_typed hl.l hr1 (by decide) _) hr3' (by decide) _
  · rw [List.length_set, set_eT]; exact put_typed (own_put hl.t _) hr3' (by decide) _
  · rw [List.length_set, set_eG]; exact own_put (put_typed hl.g hr1 (by decide) _) _
  · rcases List.mem_or_eq_of_mem_set he' with h5 | h5
    · exact ((h.ent e' h5).put hr1 (by decide) _).put hr3' (by decide) _
    · subst h5
      exact (((h.ent e (List.mem_of_getElem? he)).put hr1 (by decide) _).put hr3' (by decide) _).turn h1 h2
/-- a text by its number, or none -/
def atN (E : List Ent) (n : Nat) : Option Ent := if n = 0 then none else E[n - 1]?
set_option maxRecDepth 100000 in
set_option maxHeartbeats 3200000 in
theorem rq_discard_none (n : Nat) (hn : n < 18446744073709551616) (h : RQ w y B room E) (he : ∀ e, atN E n = some e → e.gone = true) : Calls Try.prog 20 #[.pointer (some ⟨y, 0, none⟩), .int .u64 n] w fun r w' => r = .returned (.int .i64 4) ∧ Below w.heap.size w w' := by
  obtain ⟨AL, cL, AT, cT, AG, cG, hr, hl⟩ := h.row
  have HG := Lib.hid (own_at hl.g)
  obtain ⟨c0, c1, c2, c3⟩ := qcells hr
  have hm := h.many
  have HE := Lib.hid (fun (h1 : 1 ≤ n) (h2 : n ≤ E.length) => by
    have h3 : E[n - 1]? = some E[n - 1] := List.getElem?_eq_getElem (by omega)
    have h4 := he _ (by unfold atN; rw [if_neg (by omega)]; exact h3)
    have h5 := eG_at h3
    rw [h4] at h5
    exact h5)
  generalize E.length = q at *
  have hq0 : IntKind.u64.wrap (q : Int) = (q : Int) := by rw [IntKind.wrap_u64]; omega
  clear h hr hl he
  by_cases h1 : n < 1
  · obtain rfl : n = 0 := by omega
    go_enter Try.func20, Try.ntmps20
    go_wp2
    go_ret
    exact ⟨rfl, Below.refl _ _⟩
  · by_cases h2 : q < n
    · have h1i : ¬ (n : Int) < 1 := by omega
      have h2i : (q : Int) < n := by omega
      clear h1 h2
      go_enter Try.func20, Try.ntmps20
      go_wp2
      go_ret
      exact ⟨rfl, Below.refl _ _⟩
    · have h1i : ¬ (n : Int) < 1 := by omega
      have h2i : ¬ (q : Int) < n := by omega
      obtain ⟨g, rfl, z⟩ := HG.out.cell (HE.out (by omega) (by omega))
      have hw : IntKind.u64.wrap ((n : Int) - 1) = ((n - 1 : Nat) : Int) := by rw [IntKind.wrap_u64]; omega
      have h3 : ((n - 1 : Nat) : Int) < q := by omega
      clear h1 h2
      generalize n - 1 = k at *
      have h30 : (0 : Int) ≤ k := by omega
      go_enter Try.func20, Try.ntmps20
      go_wp2
      go_ret
      exact ⟨rfl, Below.refl _ _⟩
set_option maxRecDepth 100000 in
set_option maxHeartbeats 3200000 in
theorem rq_discard_state (n : Nat) (h : RQ w y B room E) {e : Ent} (hn : 1 ≤ n) (he : E[n - 1]? = some e) (hg : e.gone = false) (ht : 0 < e.tk) : Calls Try.prog 20 #[.pointer (some ⟨y, 0, none⟩), .int .u64 n] w fun r w' => r = .returned (.int .i64 7) ∧ Below w.heap.size w w' := by
  have hlt := (List.getElem?_eq_some_iff.1 he).1
  obtain ⟨AL, cL, AT, cT, AG, cG, hr, hl⟩ := h.row
  obtain ⟨g1, rfl, z1⟩ := (own_at hl.t).cell (eT_at he)
  obtain ⟨g3, rfl, z3⟩ := (own_at hl.g).cell (eG_at he)
  obtain ⟨c0, c1, c2, c3⟩ := qcells hr
  have hm := h.many
  generalize E.length = q at *
  generalize e.tk = tk at *
  rw [hg] at z3
  have hq0 : IntKind.u64.wrap (q : Int) = (q : Int) := by rw [IntKind.wrap_u64]; omega
  have h1i : ¬ (n : Int) < 1 := by omega
  have h2i : ¬ (q : Int) < n := by omega
  have hw : IntKind.u64.wrap ((n : Int) - 1) = ((n - 1 : Nat) : Int) := by rw [IntKind.wrap_u64]; omega
  have h3 : ((n - 1 : Nat) : Int) < q := by omega
  have hti : (0 : Int) < tk := by omega
  clear h hr hl he hg hlt hn ht
  generalize n - 1 = k at *
  have h30 : (0 : Int) ≤ k := by omega
  go_enter Try.func20, Try.ntmps20
  go_wp2
  go_ret
  exact ⟨rfl, Below.refl _ _⟩
set_option maxRecDepth 100000 in
set_option maxHeartbeats 3200000 in
theorem rq_discard (n : Nat) (h : RQ w y B room E) {e : Ent} (hn : 1 ≤ n) (he : E[n - 1]? = some e) (hg : e.gone = false) (ht : e.tk = 0) : Calls Try.prog 20 #[.pointer (some ⟨y, 0, none⟩), .int .u64 n] w fun r w' => r = .returned (.int .i64 0) ∧ RQ w' y B room (E.set (n - 1) { e with tk := e.tk, gone := true }) ∧ Only (S34 B w) w w' := by
  have hlt := (List.getElem?_eq_some_iff.1 he).1
  have HQ := Lib.hid h
  have HE := Lib.hid he
  obtain ⟨AL, cL, AT, cT, AG, cG, hr, hl⟩ := h.row
  obtain ⟨g1, rfl, z1⟩ := (own_at hl.t).cell (eT_at he)
  obtain ⟨g3, rfl, z3⟩ := (own_at hl.g).cell (eG_at he)
  have HF := Lib.hid (fun (d : Nat) => h.gone hr hl he true (fun hh => by cases hh))
  have f3 : w.frozen? ⟨g3, n - 1, none⟩ = false := own_free hl.g
  have HO := Lib.hid (show Only (S34 B w) w (w.setCell ⟨g3, n - 1, none⟩ (.bool true)) from by
    obtain ⟨cs3, hr3⟩ := own_row hl.g
    exact (Only.refl (S34 B w) w).set (p := ⟨g3, n - 1, none⟩) (.inl ⟨(own_block hl.g g3 rfl).1, 4, cs3, hr3, .inr rfl⟩) _)
  obtain ⟨c0, c1, c2, c3⟩ := qcells hr
  have hm := h.many
  rw [ht] at z1
  rw [hg] at z3
  generalize E.length = q at *
  have hq0 : IntKind.u64.wrap (q : Int) = (q : Int) := by rw [IntKind.wrap_u64]; omega
  have h1i : ¬ (n : Int) < 1 := by omega
  have h2i : ¬ (q : Int) < n := by omega
  have hw : IntKind.u64.wrap ((n : Int) - 1) = ((n - 1 : Nat) : Int) := by rw [IntKind.wrap_u64]; omega
  have h3 : ((n - 1 : Nat) : Int) < q := by omega
  clear h hr hl he hg hlt hn ht
  generalize n - 1 = k at *
  have h30 : (0 : Int) ≤ k := by omega
  go_enter Try.func20, Try.ntmps20
  go_wp2
  go_ret
  exact ⟨rfl, HF.out 0, HO.out⟩
def allGone (E : List Ent) (k : Nat) : List Ent := (E.take k).map (fun e => { e with tk := e.tk, gone := true }) ++ E.drop k
theorem allGone_len (E : List Ent) (k : Nat) : (allGone E k).length = E.length := by
  unfold allGone
  rw [List.length_append, List.length_map, List.length_take, List.length_drop]
  omega
theorem allGone_at {k : Nat} : (allGone E k)[k]? = E[k]? := by
  unfold allGone
  by_cases hk : k < E.length
  · rw [List.getElem?_append_right (by simp; omega), List.length_map, List.length_take, Nat.min_eq_left (by omega), Nat.sub_self, List.getElem?_drop]
    simp
  · rw [List.getElem?_eq_none (by rw [List.length_append, List.length_map, List.length_take, List.length_drop]; omega), List.getElem?_eq_none (by omega)]
theorem allGone_succ {k : Nat} {e : Ent} (h : E[k]? = some e) : (allGone E k).set k { e with tk := e.tk, gone := true } = allGone E (k + 1) := by
  have hk := (List.getElem?_eq_some_iff.1 h).1
  unfold allGone
  rw [List.set_append_right _ _ (by simp; omega), List.take_add_one, h, List.map_append, List.append_assoc]
  congr 1
  have hd : E.drop k = e :: E.drop (k + 1) := by
    rw [List.drop_eq_getElem_cons hk, (List.getElem?_eq_some_iff.1 h).2]
  rw [List.length_map, List.length_take, Nat.min_eq_left (by omega), Nat.sub_self, hd]
  rfl
set_option maxRecDepth 100000 in
set_option maxHeartbeats 3200000 in
theorem rq_clear (h : RQ w y B room E) : Calls Try.prog 24 #[.pointer (some ⟨y, 0, none⟩)] w fun r w' => ∃ A c, r = .returned (.slice A (idk E E.length).length c) ∧ SlAt w.heap.size 35 w' A (u64v (idk E E.length)) ∧ RQ w' y B room (allGone E E.length) ∧ Only (S34 B w) w w' := by
  have HI := Lib.hid (rq_ids h)
  obtain ⟨AL, cL, AT, cT, AG, cG, hr, hl⟩ := h.row
  have HQ := Lib.hid h
  have HR := Lib.hid hr
  have HLL := Lib.hid hl
  have HNX := Lib.hid (fun i (hi : i < E.length) => (⟨_, List.getElem?_eq_getElem hi⟩ : ∃ e, E[i]? = some e))
  have hm := h.many
  generalize idk E E.length = ids at *
  generalize hn : E.length = n at *
  have HN := Lib.hid hn
  clear h hr hl hn
  go_enter Try.func24, Try.ntmps24
  go_wp2_with (go_at_call 92; (with_reducible refine HI.out.mono ?_); rintro e w1 ⟨A1, c1', rfl, hs, hb⟩; (have HS := Lib.hid hs; have HB1 := Lib.hid hb; clear hs hb))
  go_loopw [4] (fun s4 wr => ∃ i : Nat, i ≤ n ∧ s4 = .int .i64 i ∧ Hid (RQ wr y B room (allGone E i)) ∧ Hid (∃ cL, Row wr y 52 #[.int .i64 room, .slice AL n cL, .slice AT n cT, .slice AG n cG] ∧ RL wr B (allGone E i) AL AT AG cL cT cG) ∧ Hid (SlAt w.heap.size 35 wr A1 (u64v ids)) ∧ Hid (Only (S34 B w) w wr)) (fun s4 _ => n - (intOf s4).toNat)
  case atStart => exact ⟨0, by omega, rfl, Lib.hid (HQ.out.later HB1.out), Lib.hid ⟨cL, HR.out.later HB1.out, HLL.out.later HB1.out⟩, HS, Lib.hid (.of_below HB1.out)⟩
  case round =>
    obtain ⟨i, hi, rfl, HQr, HRr, HSr, HOr⟩ := hrel
    obtain ⟨cL', hrr, hlr⟩ := HRr.out
    obtain ⟨c0, c1, c2, c3⟩ := qcells hrr
    by_cases hlt : i < n
    · obtain ⟨e, he⟩ := HNX.out i hlt
      have he2 : (allGone E i)[i]? = some e := allGone_at.trans he
      obtain ⟨g3, rfl, z3⟩ := (own_at hlr.g).cell (eG_at he2)
      have f3 : wr.frozen? ⟨g3, i, none⟩ = false := own_free hlr.g
      have h1 : (i : Int) < n := by omega
      have h0 : (0 : Int) ≤ i := by omega
      have hrr2 : Row wr y 52 #[.int .i64 room, .slice AL (allGone E i).length cL', .slice AT (allGone E i).length cT, .slice (some ⟨g3, 0, none⟩) (allGone E i).length cG] := by rw [allGone_len, HN.out]; exact hrr
      have HG := Lib.hid (HQr.out.gone hrr2 hlr he2 true (fun hh => by cases hh))
      have HSU := Lib.hid (allGone_succ he)
      obtain ⟨cs3, hr3⟩ := own_row hlr.g
      have HT3 := Lib.hid hr3
      have hold : g3 < w.heap.size ∧ B ≤ g3 := by
        have hg0 := own_in HLL.out.g
        exact ⟨hg0, (own_block HLL.out.g g3 rfl).1⟩
      have HOLD := Lib.hid hold
      have HW4 := Lib.hid (own_row HLL.out.g)
      have HLX := Lib.hid hlr
      have HRX := Lib.hid hrr
      have HLT := Lib.hid hlt
      have HE2 := Lib.hid he2
      clear he he2 hlt hr3 hold hrr2 hlr hrr
      go_wp2
      go_roundw
      case rel => exact ⟨i + 1, by have := HLT.out; omega, by go_num, Lib.hid (by rw [← HSU.out]; exact HG.out), Lib.hid ⟨cL', HRX.out.elsewhere (Row.apart HRX.out HT3.out (by decide)) _, by rw [← HSU.out]; exact HLX.out.gone HE2.out true⟩, Lib.hid (HSr.out.only ((Only.refl (fun k => k = g3) wr).set (p := ⟨g3, i, none⟩) (.inl rfl) _) (fun g cs hr _ e => by subst e; exact Row.apart hr HT3.out (by decide) rfl)), Lib.hid (HOr.out.set (p := ⟨g3, i, none⟩) (.inl (by obtain ⟨cs4, h4⟩ := HW4.out; exact ⟨HOLD.out.2, 4, cs4, h4, .inr rfl⟩)) _)⟩
      case measure => have := HLT.out; simp [intOf]; omega
    · have h1 : ¬ (i : Int) < n := by omega
      obtain rfl : i = n := by omega
      clear hlt
      go_wp2
      go_ret
      exact ⟨A1, ⟨c1', rfl⟩, HSr.out, HQr.out, HOr.out⟩
end
end Go.Proofs.Ytjonkpdjhjobfaa
namespace Go.Proofs.Ytjonkpdjhjobfaa
open Go.RowKit

/-- only rows of the types X, and new memory, have changed -/
structure KR (X : TypeId → Prop) (B : Nat) (w v : World) : Prop where
  base : B ≤ w.heap.size
  below : Below B w v
  size : w.heap.size ≤ v.heap.size
  rows : ∀ g t cs, Row w g t cs → ¬ X t → Row v g t cs
section
variable {w v u : World} {X Y : TypeId → Prop} {B : Nat}
theorem KR.refl (X : TypeId → Prop) (hB : B ≤ w.heap.size) : KR X B w w := ⟨hB, Below.refl _ _, Nat.le_refl _, fun _ _ _ h _ => h⟩
theorem KR.trans (h : KR X B w v) (h2 : KR X B v u) : KR X B w u := ⟨h.base, h.below.trans h2.below, Nat.le_trans h.size h2.size, fun g t cs hr hx => h2.rows g t cs (h.rows g t cs hr hx) hx⟩
theorem KR.weaker (h : KR X B w v) (hx : ∀ t, X t → Y t) : KR Y B w v := ⟨h.base, h.below, h.size, fun g t cs hr hy => h.rows g t cs hr fun hh => hy (hx t hh)⟩
theorem KR.of_below (hB : B ≤ w.heap.size) (h : Below w.heap.size w v) : KR X B w v := ⟨hB, h.mono hB, h.size, fun _ _ _ hr _ => hr.later h⟩
theorem KR.alloc (h : KR X B w v) (o : Obj) : KR X B w (v.alloc o) :=
  ⟨h.base, h.below.alloc (Nat.le_trans h.base h.size) o, Nat.le_trans h.size (bl_alloc (Below.refl _ _) o).size, fun g t cs hr hx => (h.rows g t cs hr hx).more o⟩
theorem KR.own {m E n : Nat} {x : Value} {xs : List Value} (h : KR X B w v) (ho : w.ownsRow m E 1 x n xs) (hE : ¬ X E) : v.ownsRow m E 1 x n xs := by
  refine ⟨ho.1, ?_⟩
  rcases ho.2 with h0 | ⟨g, cap, cur, rfl, hb, hh, h1⟩
  · exact .inl h0
  · exact .inr ⟨g, cap, cur, rfl, hb, h.rows g E cur hh hE, h1⟩
theorem KR.set {g i : Nat} {t : TypeId} {cs : Array Value} (hr : Row w g t cs) (hx : X t) (hg : B ≤ g) (hB : B ≤ w.heap.size) (x : Value) : KR X B w (w.setCell ⟨g, i, none⟩ x) := by
  have ho : Only (fun k => k = g) w (w.setCell ⟨g, i, none⟩ x) := (Only.refl (fun k => k = g) w).set (p := ⟨g, i, none⟩) (.inl rfl) x
  refine ⟨hB, ho.below hB (fun k hk e => by omega), ho.size, fun g' t' cs' hr' hn => hr'.only ho (fun e => ?_)⟩
  subst e
  unfold Row at hr hr'
  rw [hr] at hr'
  have e := Option.some.inj hr'
  cases e
  exact hn hx
theorem step_own {ops : Array Oper} {o : Oper} {a : Act} {K : Act → World → Prop} {Q : Exit → Act → World → Prop} {F : Prop} {n T E by' g : Nat} {z x u : Value} {xs : List Value} (hgd : o.guard = none) (s y : Operand)
    (ho : o.op = .call { callee := .builtin .append, args := #[s, y], argTypes := #[T, T] }) (hty : o.type = T) (hT : Try.prog.underlying T = some (.slice E)) (hI : (Try.prog.info? E).map (fun i => (i.zero, i.size, i.bytes)) = some (some z, 1, by')) (hz : z.cells.size = 1) (hby : by' ≤ 24) (hu : u.oneCell' = true)
    (hs : a.eval s = x) (hy : a.eval y = .slice (some ⟨g, 0, none⟩) 1 1) (hown : w.ownsRow B E 1 x n xs) (hrow : Row w g E #[u]) (hB : B ≤ w.heap.size) (hn : n ≤ 100000)
    (hK : ∀ A' c' w', w'.ownsRow B E 1 (.slice A' (n + 1) c') (n + 1) (xs ++ [u]) → KR (fun t => t = E) B w w' → K (a.put o.dst (.slice A' (n + 1) c')) w') :
    if Region.wanted o (yielded ops a.tmps) = true then Oper.wp Try.prog o a w K Q else F := by
  obtain ⟨i0, hi, hi0, hi1, hi2⟩ := info_parts hI
  obtain ⟨v', w2, hrun, hown2, hgr, _, hat⟩ := run_append_own_at (P := Try.prog) (w := w) B T T E i0 z 1 by' hT hi hi0 hi1 hi2 hz (by omega) x n xs hown ⟨g, 0, none⟩ 1 1 [u] rfl
    (fun j u' hu' => by
      match j, hu' with
      | 0, hu' =>
        simp only [List.getElem?_cons_zero, Option.some.injEq] at hu'
        subst hu'
        rw [add_zero_o]
        exact hrow.read rfl
      | j + 1, hu' => simp at hu') (by intro y hy; simp at hy; subst hy; exact hu) (by unfold maxLen; omega) (by have := Nat.mul_le_mul (show n + 1 ≤ 100001 by omega) hby; omega) hB
  have hon : Only (fun k => x.ownBlock = some k) w w2 := (Only.refl _ _).grown hgr (fun k hk => .inl hk)
  obtain ⟨A', c', rfl⟩ : ∃ A' c', v' = .slice A' (n + 1) c' := by
    rcases hown2.2 with ⟨_, e⟩ | ⟨g, cap, cur, e, _⟩
    · omega
    · exact ⟨some ⟨g, 0, none⟩, cap, e⟩
  refine step_run hgd s y T ho x (.slice (some ⟨g, 0, none⟩) 1 1) hs hy (by rw [hty]; exact hrun) (hK A' c' w2 hown2 ⟨hB, hon.below hB (fun k hk hk2 => by have := (own_block hown k hk2).1; omega), hon.size, fun g' t cs hr hne => hr.only hon (fun hk => ?_)⟩)
  exact own_apart hown hr (fun e => hne e.symm) hk
theorem step_copy {ops : Array Oper} {o : Oper} {a : Act} {K : Act → World → Prop} {Q : Exit → Act → World → Prop} {F : Prop} {A : Option Addr} {c n : Nat} {l : List Nat} (hgd : o.guard = none) (s y : Operand)
    (ho : o.op = .call { callee := .builtin .append, args := #[s, y], argTypes := #[38, 38] }) (hty : o.type = 38) (hs : a.eval s = .slice none 0 0) (hy : a.eval y = .slice A n c) (hl : l.length = n) (h0 : 0 < n) (hn : n ≤ 1000000) (hsrc : QSrcB w A (qbts l))
    (hK : ∀ g cap w', n ≤ cap → cap ≤ 9223372036854775807 → w.heap.size ≤ g → (∃ cs : Array Value, Row w' g 5 cs ∧ ∀ (j b : Nat), l[j]? = some b → cs[j]? = some (Value.int .u8 (b : Nat))) → Below w.heap.size w w' → K (a.put o.dst (.slice (some ⟨g, 0, none⟩) n cap)) w') :
    if Region.wanted o (yielded ops a.tmps) = true then Oper.wp Try.prog o a w K Q else F := by
  subst hl
  obtain ⟨cap, w1, hr, hc1, hc2, hf⟩ := copy_fresh (c := c) hsrc h0 hn
  exact step_run hgd s y 38 ho _ _ hs hy (by rw [hty]; exact hr) (hK _ cap w1 hc1 (by unfold maxLen at hc2; omega) hf.1 hf.2.1 hf.2.2)
end
end Go.Proofs.Ytjonkpdjhjobfaa
namespace Go.Proofs.Ytjonkpdjhjobfaa
open Go.RowKit

section
variable {B x q last : Nat} {c : Cf} {room : Int} {ts : List Txt} {w v wc : World} {t : TypeId} {cs : Array Value} {g i : Nat}
theorem QRep.other {W : World} (h : QRep B W q room last ts) (hE : Row W x t cs) (ht : t ≠ 214 ∧ t ≠ 217 ∧ t ≠ 5) {u : World} (ho : Only (fun k => k = x) W u) : QRep B u q room last ts :=
  h.apart (S := fun k => k = x) ho (fun k hk t' cs' hr => by
    subst hk
    have e := row_type hE hr
    subst e
    exact ht)
theorem NewRows.down {m m' : Nat} {x : Value} {L : List RowB} (h : NewRows m w x L) (hm : m' ≤ m) : NewRows m' w x L := ⟨own_down h.1 hm, fun r hr => by
  obtain ⟨g, a, b, h2⟩ := h.2 r hr
  exact ⟨g, a, by omega, h2⟩⟩
theorem NewIds.down {m m' : Nat} {x : Value} {l : List Nat} (h : NewIds m w x l) (hm : m' ≤ m) : NewIds m' w x l := own_down h hm
/-- what a sender's calls may change: the queue's blocks, and the sender itself -/
def UOnly (B x : Nat) (w w' : World) : Prop := Only (fun k => QT B w k ∨ k = x) w w'
theorem UOnly.below (h : UOnly B x w v) (hB : B ≤ w.heap.size) (hx : B ≤ x) : Below B w v := Only.below h hB fun k hk hq => by
  rcases hq with hq | hq
  · have := hq.1; omega
  · omega
theorem UOnly.of_q (h : QOnly B w v) : UOnly B x w v := Only.weaker h fun _ _ hk => .inl hk
theorem UOnly.row (h : UOnly B x w v) (hr : Row w g t cs) (h1 : t ≠ 214) (h2 : t ≠ 217) (hx : g ≠ x) : Row v g t cs := hr.only h (fun hk => by
  rcases hk with hk | hk
  · obtain ⟨_, t', cs', e1, e2⟩ := hk
    have e := row_type hr e1
    subst e
    rcases e2 with e2 | e2
    · exact h1 e2
    · exact h2 e2
  · exact hx hk)
/-- behind the cutter's call -/
structure UBd (B x q last : Nat) (c : Cf) (room sn : Int) (ts : List Txt) (rm : Int) (w : World) (sb pb k : Nat) (n : Int) (ts' : List Txt) (A D : Option Addr) (L : List RowB) (wy : World) : Prop where
  src : Row wy sb 32 (MCells c (.pointer (some ⟨q, 0, none⟩)))
  pc : Row wy pb 141 #[.int .i64 (fiT ts n), .slice A L.length L.length, .slice D k k]
  snd : Row wy x 34 (SCells c (.pointer (some ⟨q, 0, none⟩)) sn)
  bld : Bld rm 11 (lenT ts) k n
  rest : RestT ts k n ts'
  qs : QS B q room wy last ts'
  tx : texts L = fieldsT (ts.map Txt.bs) k n
  rows : ∃ cc, NewRows w.heap.size wy (.slice A L.length cc) L
  ids : ∃ cc, NewIds w.heap.size wy (.slice D k cc) ((ts.take k).map Txt.id)
  only : QOnly B w wy
  kn : 0 < k ∨ 0 < n
theorem UBd.later {sn rm n : Int} {sb pb k : Nat} {ts' : List Txt} {A D : Option Addr} {L : List RowB} (h : UBd B x q last c room sn ts rm w sb pb k n ts' A D L v) {u : World} (hb : Below v.heap.size v u) : UBd B x q last c room sn ts rm w sb pb k n ts' A D L u :=
  ⟨h.src.later hb, h.pc.later hb, h.snd.later hb, h.bld, h.rest, h.qs.later hb, h.tx, (by obtain ⟨cc, h1⟩ := h.rows; exact ⟨cc, h1.later hb⟩), (by obtain ⟨cc, h1⟩ := h.ids; exact ⟨cc, h1.later hb⟩), h.only.trans (QOnly.of_below hb), h.kn⟩
/-- what the cutter's call leaves, before its piece is stored -/
structure UBc (B x q last : Nat) (c : Cf) (room sn : Int) (ts : List Txt) (rm : Int) (w : World) (sb k : Nat) (n : Int) (ts' : List Txt) (A D : Option Addr) (L : List RowB) (w4 : World) : Prop where
  src : Row w4 sb 32 (MCells c (.pointer (some ⟨q, 0, none⟩)))
  snd : Row w4 x 34 (SCells c (.pointer (some ⟨q, 0, none⟩)) sn)
  bld : Bld rm 11 (lenT ts) k n
  rest : RestT ts k n ts'
  qs : QS B q room w4 last ts'
  tx : texts L = fieldsT (ts.map Txt.bs) k n
  rows : ∃ cc, NewRows w.heap.size w4 (.slice A L.length cc) L
  ids : ∃ cc, NewIds w.heap.size w4 (.slice D k cc) ((ts.take k).map Txt.id)
  only : QOnly B w w4
  kn : 0 < k ∨ 0 < n
theorem UBc.made {sn rm n : Int} {sb k : Nat} {ts' : List Txt} {A D : Option Addr} {L : List RowB} (h : UBc B x q last c room sn ts rm w sb k n ts' A D L v) : UBd B x q last c room sn ts rm w sb v.heap.size k n ts' A D L (v.alloc (.cells #[.int .i64 (fiT ts n), .slice A L.length L.length, .slice D k k] 141)) := by
  have hb := bl_alloc (Below.refl v.heap.size v) (.cells #[.int .i64 (fiT ts n), .slice A L.length L.length, .slice D k k] 141)
  exact ⟨h.src.later hb, Row.made _ _ _, h.snd.later hb, h.bld, h.rest, h.qs.later hb, h.tx, (by obtain ⟨cc, h1⟩ := h.rows; exact ⟨cc, h1.later hb⟩), (by obtain ⟨cc, h1⟩ := h.ids; exact ⟨cc, h1.later hb⟩), h.only.trans (QOnly.of_below hb), h.kn⟩
abbrev set3 (w : World) (g : Nat) (a b d : Value) : World := ((w.setCell ⟨g, 0, none⟩ a).setCell ⟨g, 1, none⟩ b).setCell ⟨g, 2, none⟩ d
theorem UBc.stored {sn rm n : Int} {sb k pb : Nat} {ts' : List Txt} {A D : Option Addr} {L : List RowB} (h : UBc B x q last c room sn ts rm w sb k n ts' A D L v) (hp : Row v pb 141 #[.int .i64 0, .slice none 0 0, .slice none 0 0]) (hpb : w.heap.size ≤ pb) :
    UBd B x q last c room sn ts rm w sb pb k n ts' A D L (set3 v pb (.int .i64 (fiT ts n)) (.slice A L.length L.length) (.slice D k k)) := by
  have ho : Only (fun k => k = pb) v (set3 v pb (.int .i64 (fiT ts n)) (.slice A L.length L.length) (.slice D k k)) := (((Only.refl (fun k => k = pb) v).set (p := ⟨pb, 0, none⟩) (.inl rfl) _).set (p := ⟨pb, 1, none⟩) (.inl rfl) _).set (p := ⟨pb, 2, none⟩) (.inl rfl) _
  refine ⟨h.src.only ho (fun e => h.src.apart hp (by decide) e), ?_, h.snd.only ho (fun e => h.snd.apart hp (by decide) e), h.bld, h.rest, h.qs.with (h.qs.q.other hp (by decide) ho), h.tx, ?_, ?_, h.only.fresh hpb ho, h.kn⟩
  · have h0 : Row _ pb 141 #[.int .i64 (fiT ts n), .slice none 0 0, .slice none 0 0] := hp.written 0 _
    have h1 : Row _ pb 141 #[.int .i64 (fiT ts n), .slice A L.length L.length, .slice none 0 0] := h0.written 1 _
    exact h1.written 2 _
  · obtain ⟨cc, h1⟩ := h.rows
    exact ⟨cc, h1.at hp (by decide) (by decide) ho⟩
  · obtain ⟨cc, h1⟩ := h.ids
    exact ⟨cc, h1.only ho (fun g cs' hr _ e => by subst e; exact absurd (row_type hr hp) (by decide))⟩
end
end Go.Proofs.Ytjonkpdjhjobfaa
