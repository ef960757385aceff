/-
  A text that is let go; what a queue's calls may change.
-/
import Derived.Test.YtmaefeckkodllaaQueueIds
import Derived.Test.YtmaefeckkodllaaSpanAdd
import Derived.IntWalk
namespace Go.Proofs.Ytmaefeckkodllaa
open Go.RowKit

/-- a queue's own blocks: itself, and lists of texts -/
def QT (B : Nat) (w : World) (k : Nat) : Prop := B ≤ k ∧ ∃ t cs, Row w k t cs ∧ (t = 80 ∨ t = 98)
def QOnly (B : Nat) (w w' : World) : Prop := Only (QT B w) w w'
theorem QT.back {B : Nat} {w w' : World} {S : Nat → Prop} (h : Only S w w') {k : Nat} (hk : k < w.heap.size) (hq : QT B w' k) (hn : ¬ S k) : QT B w k := by
  obtain ⟨h1, t, cs, h2, h3⟩ := hq
  exact ⟨h1, t, cs, by unfold Row at h2 ⊢; rw [← h.same k hk hn]; exact h2, h3⟩
theorem QOnly.trans {B : Nat} {w v u : World} (h : QOnly B w v) (h' : QOnly B v u) : QOnly B w u :=
  h.andThen h' fun k hk hq => by
    rcases Classical.em (QT B w k) with h1 | h1
    · exact h1
    · exact hq.back h hk h1
theorem QOnly.of_below {B : Nat} {w v : World} (h : Below w.heap.size w v) : QOnly B w v := Only.of_below h
theorem QOnly.refl (B : Nat) (w : World) : QOnly B w w := Only.refl _ _
theorem QOnly.below {B : Nat} {w v : World} (h : QOnly B w v) (hB : B ≤ w.heap.size) : Below B w v := Only.below h hB fun k hk hq => by have := hq.1; omega
theorem QOnly.row {B : Nat} {w v : World} (h : QOnly B w v) {g : Nat} {t : TypeId} {cs : Array Value} (hr : Row w g t cs) (h1 : t ≠ 80) (h2 : t ≠ 98) : Row v g t cs :=
  hr.only h fun ⟨_, t', cs', hr', ht⟩ => by
    unfold Row at hr hr'
    rw [hr] at hr'
    injection hr' with hr'
    injection hr' with _ hr'
    subst hr'
    rcases ht with ht | ht
    · exact h1 ht
    · exact h2 ht
theorem QT.self {B p : Nat} {w : World} {cs : Array Value} (hp : B ≤ p) (h : Row w p 80 cs) : QT B w p := ⟨hp, _, _, h, .inl rfl⟩
theorem QT.list {B : Nat} {w : World} {v : Value} {n : Nat} {xs : List Value} (h : OwnX w B 98 3 v n xs) : ∀ k, v.ownBlock = some k → QT B w k := by
  intro k hk
  rcases h.2 with ⟨rfl, _⟩ | ⟨g, cap, cur, rfl, hb, hh, _⟩
  · simp [Value.ownBlock] at hk
  · have e : g = k := by simpa [Value.ownBlock] using hk
    subst e
    exact ⟨hb, _, _, hh, .inr rfl⟩
theorem OwnX.apart {w : World} {B e size : Nat} {v : Value} {n : Nat} {xs : List Value} (h : OwnX w B e size v n xs) {g : Nat} {t : TypeId} {cs : Array Value} (hr : Row w g t cs) (hne : e ≠ t) : v.ownBlock ≠ some g := by
  rcases h.2 with ⟨rfl, _⟩ | ⟨g', cap, cur, rfl, _, hh, _⟩
  · simp [Value.ownBlock]
  · intro he
    have e1 : g' = g := by simpa [Value.ownBlock] using he
    subst e1
    unfold Row at hr
    rw [hh] at hr
    injection hr with hr
    injection hr with _ hr
    exact hne hr
theorem Txt.lies.q {B : Nat} {w v : World} {t : Txt} (h : t.lies B w) (ho : QOnly B w v) : t.lies B v := by
  obtain ⟨h1, h2, h3, cs, h4, h5⟩ := h
  exact ⟨h1, h2, h3, cs, ho.row h4 (by decide) (by decide), h5⟩

theorem erase_txc (ts : List Txt) (k : Nat) : txc (ts.eraseIdx k) = txc (ts.take k) ++ txc (ts.drop (k + 1)) := by
  rw [List.eraseIdx_eq_take_drop_succ, txc_append]

/-- the list without one text, laid into new memory -/
theorem drop_append {B p last k g cap : Nat} {room : Int} {ts : List Txt} {w : World} (hp : B ≤ p) (hB : B ≤ w.heap.size) (hrow : Row w p 80 #[.int .i64 room, .int .u64 last, .slice (some ⟨g, 0, none⟩) ts.length cap])
    (hown : OwnX w B 98 3 (.slice (some ⟨g, 0, none⟩) ts.length cap) ts.length (txc ts)) (hl : ∀ t ∈ ts, t.lies B w) (hk : k < ts.length) (hn : ts.length ≤ 1000) (ad : Addr) (had : cap ≠ k + 1 → ad = ⟨g, (k + 1) * 3, none⟩) :
    ∃ A' n' cap' w', (Builtin.append_ #[78, 78] 78 #[.slice (some ⟨g, 0, none⟩) k k, .slice (some ad) (ts.length - (k + 1)) (cap - (k + 1))]).run Try.prog w = .ok (.slice A' n' cap') w' ∧
      Row w' p 80 #[.int .i64 room, .int .u64 last, .slice (some ⟨g, 0, none⟩) ts.length cap] ∧
      QRep B (w'.setCell ⟨p, 2, none⟩ (.slice A' n' cap')) p room last (ts.eraseIdx k) ∧ QOnly B w (w'.setCell ⟨p, 2, none⟩ (.slice A' n' cap')) := by
  obtain ⟨i0, hi, hi0, hi1, hi2⟩ := info98_parts
  obtain ⟨g1, cap1, hv, hc1, hc2⟩ := hown.form (by omega)
  injection hv with hA _ hcc
  subst hcc
  have hfront := hown.front (m := k) (by omega) _ _ rfl (by omega)
  rw [txc_take] at hfront
  have hlen : (txc (ts.drop (k + 1))).length = (ts.length - (k + 1)) * 3 := by rw [length_txc, List.length_drop]
  obtain ⟨v', w', hr, h2, h3, h4⟩ := run_append_x (P := Try.prog) (w := w) (ty := 78) Try.underlying78 hi hi0 hi1 hi2 rfl hfront ad (ts.length - (k + 1)) (cap - (k + 1)) (txc (ts.drop (k + 1))) hlen
    (fun j u hu => by
      have hj : j < (txc (ts.drop (k + 1))).length := (List.getElem?_eq_some_iff.1 hu).1
      have hne : cap ≠ k + 1 := by omega
      rw [had hne]
      have e : (⟨g, (k + 1) * 3, none⟩ : Addr).add j = ⟨g, (k + 1) * 3 + j, none⟩ := by
        unfold Addr.add
        split
        · rename_i h; rw [h]; rfl
        · rfl
      rw [e]
      refine hown.cells (g := g) rfl _ _ ?_
      rw [← hu, ← txc_drop, List.getElem?_drop]) (txc_one _) (by omega) (by omega) hB
  obtain ⟨A', cap', rfl, _, _⟩ := h2.shape
  have happ : (Value.slice (some ⟨g, 0, none⟩) k k).ownBlock ≠ some p := hfront.apart hrow (by decide)
  have hrow' : Row w' p 80 #[.int .i64 room, .int .u64 last, .slice (some ⟨g, 0, none⟩) ts.length cap] := (h3.block p hrow.inside (fun e => happ e.symm)).trans hrow
  have hq1 : QOnly B w w' := (Only.refl _ _).grown h3 (fun j hj => .inl (QT.list hfront j hj))
  have hq2 : QOnly B w' (w'.setCell ⟨p, 2, none⟩ (.slice A' (k + (ts.length - (k + 1))) cap')) := (Only.refl _ _).set (p := ⟨p, 2, none⟩) (.inl (QT.self hp hrow')) _
  refine ⟨_, _, _, w', hr, hrow', ⟨hp, ?_, _, hrow'.written 2 _, ?_, fun t ht => ?_⟩, hq1.trans hq2⟩
  · have := hq1.size; have := hq2.size; omega
  · have e1 : (ts.eraseIdx k).length = k + (ts.length - (k + 1)) := by rw [List.length_eraseIdx, if_pos hk]; omega
    rw [e1, erase_txc]
    exact h2.only (S := fun j => j = p) ((Only.refl (fun j => j = p) _).set (p := ⟨p, 2, none⟩) (.inl rfl) _) (fun j hj e => by subst e; exact h2.apart hrow' (by decide) hj)
  · exact ((hl t (List.mem_of_mem_eraseIdx ht)).q hq1).q hq2

set_option maxRecDepth 100000 in
set_option maxHeartbeats 1600000 in
theorem remove_any {B p last k : Nat} {room : Int} {ts : List Txt} {w : World} (h : QRep B w p room last ts) (hk : k < ts.length) (hn : ts.length ≤ 1000) :
    Calls Try.prog 60 #[.pointer (some ⟨p, 0, none⟩), .int .i64 k] w fun e w' => e = .returned (.tuple #[]) ∧ QRep B w' p room last (ts.eraseIdx k) ∧ QOnly B w w' := by
  obtain ⟨hB, hB2, sv, hrow, hown, hl⟩ := h
  obtain ⟨g, cap, rfl, hc1, hc2⟩ := hown.form (by omega)
  unfold maxLen at hc2
  have c2 : w.cell? ⟨p, 2, none⟩ = some (.slice (some ⟨g, 0, none⟩) ts.length cap) := hrow.read rfl
  have f2 := hrow.free 2
  by_cases hce : cap = k + 1
  · obtain ⟨A', n', cap', w', hr, hr', hq, ho⟩ := drop_append (w := w.drew) hB hB2 hrow hown hl hk hn ⟨g, 0, none⟩ (fun h => absurd hce h)
    subst hce
    have hz : ts.length - (k + 1) = 0 := by omega
    rw [Nat.sub_self, hz] at hr
    have HZ := Lib.hid hz
    clear hz
    have HR := Lib.hid hr
    have HQ := Lib.hid hq
    have HO := Lib.hid ho
    have d2 : w'.cell? ⟨p, 2, none⟩ = some (.slice (some ⟨g, 0, none⟩) ts.length (k + 1)) := hr'.read rfl
    have e2 := hr'.free 2
    have hi0 : (0 : Int) ≤ (k : Int) := by omega
    have hi1 : (k : Int) < (ts.length : Int) := by omega
    have hkc : k ≤ k + 1 := by omega
    have hkl : k + 1 ≤ ts.length := by omega
    have hw0 : (0 : Int) ≤ (k : Int) + 1 := by omega
    have hx0 : (k : Int) ≤ (k : Int) + 1 := by omega
    have hx1 : (k : Int) + 1 ≤ (ts.length : Int) := by omega
    have hw1 : ((k : Int) + 1).toNat = k + 1 := by omega
    have hw : IntKind.i64.wrap ((k : Int) + 1) = (k : Int) + 1 := IntWalk.i64_in _ (by omega)
    clear hr hq ho hr' hrow hown hl
    go_enter Try.func60, Try.ntmps60
    go_region_law (refine step_run rfl (.tmp 11) (.tmp 18) 78 rfl (.slice (some ⟨g, 0, none⟩) k k) (.slice (some ⟨g, 0, none⟩) 0 0) (by rfl) (by rfl) HR.out ?_)
    all_goals
      go_end0
      exact ⟨rfl, HQ.out, (show QOnly B w w.drew from Only.drew (Only.refl _ _) ).trans HO.out⟩
  · obtain ⟨A', n', cap', w', hr, hr', hq, ho⟩ := drop_append (w := w.drew) hB hB2 hrow hown hl hk hn ⟨g, (k + 1) * 3, none⟩ (fun _ => rfl)
    have HR := Lib.hid hr
    have HQ := Lib.hid hq
    have HO := Lib.hid ho
    have d2 : w'.cell? ⟨p, 2, none⟩ = some (.slice (some ⟨g, 0, none⟩) ts.length cap) := hr'.read rfl
    have e2 := hr'.free 2
    have hi0 : (0 : Int) ≤ (k : Int) := by omega
    have hi1 : (k : Int) < (ts.length : Int) := by omega
    have hkc : k ≤ cap := by omega
    have hkl : k + 1 ≤ ts.length := by omega
    have hkl2 : k + 1 ≤ cap := by omega
    have hw0 : (0 : Int) ≤ (k : Int) + 1 := by omega
    have hx0 : (k : Int) ≤ (k : Int) + 1 := by omega
    have hx1 : (k : Int) + 1 ≤ (ts.length : Int) := by omega
    have hw1 : ((k : Int) + 1).toNat = k + 1 := by omega
    have hw : IntKind.i64.wrap ((k : Int) + 1) = (k : Int) + 1 := IntWalk.i64_in _ (by omega)
    clear hr hq ho hr' hrow hown hl
    go_enter Try.func60, Try.ntmps60
    go_region_law (refine step_run rfl (.tmp 11) (.tmp 18) 78 rfl (.slice (some ⟨g, 0, none⟩) k k) (.slice (some ⟨g, (k + 1) * 3, none⟩) (ts.length - (k + 1)) (cap - (k + 1))) (by rfl) (by rfl) HR.out ?_)
    all_goals
      go_end0
      exact ⟨rfl, HQ.out, (show QOnly B w w.drew from Only.drew (Only.refl _ _) ).trans HO.out⟩
end Go.Proofs.Ytmaefeckkodllaa
