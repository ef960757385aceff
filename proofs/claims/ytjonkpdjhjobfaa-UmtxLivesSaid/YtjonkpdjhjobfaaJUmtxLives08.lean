/-
  A text that is let go; what a queue's calls may change. A text pushed into a queue. QBytes taken of a queue's first text; the first text; a text discarded; all let go. The first text of a queue; a text discarded; all let go; a queue that is nil.
-/
import Derived.Test.YtjonkpdjhjobfaaJUmtxLives07
import Derived.Test.YtjonkpdjhjobfaaJUmtxLives06
import Derived.IntWalk
import Derived.Laws.OwnMore
import Derived.Laws.CopyRow
import Derived.Laws.EntriesVeiled
import Derived.Deep.Onto
import Derived.Deep.RegionHeld3
namespace Go.Proofs.Ytjonkpdjhjobfaa
open Go.RowKit

/-- a queue's own blocks: itself, and lists of texts -/
def QT (B : Nat) (w : World) (k : Nat) : Prop := B ≤ k ∧ ∃ t cs, Row w k t cs ∧ (t = 214 ∨ t = 217)
def QOnly (B : Nat) (w w' : World) : Prop := Only (QT B w) w w'
theorem QT.back {B : Nat} {w w' : World} {S : Nat → Prop} (h : Only S w w') {k : Nat} (hk : k < w.heap.size) (hq : QT B w' k) (hn : ¬ S k) : QT B w k := by
  obtain ⟨h1, t, cs, h2, h3⟩ := hq
  exact ⟨h1, t, cs, by unfold Row at h2 ⊢; rw [← h.same k hk hn]; exact h2, h3⟩
theorem QOnly.trans {B : Nat} {w v u : World} (h : QOnly B w v) (h' : QOnly B v u) : QOnly B w u :=
  h.andThen h' fun k hk hq => by
    rcases Classical.em (QT B w k) with h1 | h1
    · exact h1
    · exact hq.back h hk h1
theorem QOnly.of_below {B : Nat} {w v : World} (h : Below w.heap.size w v) : QOnly B w v := Only.of_below h
theorem QOnly.refl (B : Nat) (w : World) : QOnly B w w := Only.refl _ _
theorem QOnly.below {B : Nat} {w v : World} (h : QOnly B w v) (hB : B ≤ w.heap.size) : Below B w v := Only.below h hB fun k hk hq => by have := hq.1; omega
theorem QOnly.row {B : Nat} {w v : World} (h : QOnly B w v) {g : Nat} {t : TypeId} {cs : Array Value} (hr : Row w g t cs) (h1 : t ≠ 214) (h2 : t ≠ 217) : Row v g t cs :=
  hr.only h fun ⟨_, t', cs', hr', ht⟩ => by
    unfold Row at hr hr'
    rw [hr] at hr'
    injection hr' with hr'
    injection hr' with _ hr'
    subst hr'
    rcases ht with ht | ht
    · exact h1 ht
    · exact h2 ht
theorem QT.self {B p : Nat} {w : World} {cs : Array Value} (hp : B ≤ p) (h : Row w p 214 cs) : QT B w p := ⟨hp, _, _, h, .inl rfl⟩
theorem QT.list {B : Nat} {w : World} {v : Value} {n : Nat} {xs : List Value} (h : OwnX w B 217 3 v n xs) : ∀ k, v.ownBlock = some k → QT B w k := by
  intro k hk
  rcases h.2 with ⟨rfl, _⟩ | ⟨g, cap, cur, rfl, hb, hh, _⟩
  · simp [Value.ownBlock] at hk
  · have e : g = k := by simpa [Value.ownBlock] using hk
    subst e
    exact ⟨hb, _, _, hh, .inr rfl⟩
theorem OwnX.apart {w : World} {B e size : Nat} {v : Value} {n : Nat} {xs : List Value} (h : OwnX w B e size v n xs) {g : Nat} {t : TypeId} {cs : Array Value} (hr : Row w g t cs) (hne : e ≠ t) : v.ownBlock ≠ some g := by
  rcases h.2 with ⟨rfl, _⟩ | ⟨g', cap, cur, rfl, _, hh, _⟩
  · simp [Value.ownBlock]
  · intro he
    have e1 : g' = g := by simpa [Value.ownBlock] using he
    subst e1
    unfold Row at hr
    rw [hh] at hr
    injection hr with hr
    injection hr with _ hr
    exact hne hr
theorem Txt.lies.q {B : Nat} {w v : World} {t : Txt} (h : t.lies B w) (ho : QOnly B w v) : t.lies B v := by
  obtain ⟨h1, h2, h3, cs, h4, h5⟩ := h
  exact ⟨h1, h2, h3, cs, ho.row h4 (by decide) (by decide), h5⟩

theorem erase_txc (ts : List Txt) (k : Nat) : txc (ts.eraseIdx k) = txc (ts.take k) ++ txc (ts.drop (k + 1)) := by
  rw [List.eraseIdx_eq_take_drop_succ, txc_append]

set_option maxRecDepth 100000 in
/-- the list without one text, laid into new memory -/
theorem drop_append {B p last k g cap : Nat} {room : Int} {ts : List Txt} {w : World} (hp : B ≤ p) (hB : B ≤ w.heap.size) (hrow : Row w p 214 #[.int .i64 room, .int .u64 last, .slice (some ⟨g, 0, none⟩) ts.length cap])
    (hown : OwnX w B 217 3 (.slice (some ⟨g, 0, none⟩) ts.length cap) ts.length (txc ts)) (hl : ∀ t ∈ ts, t.lies B w) (hk : k < ts.length) (hn : ts.length ≤ 1000) (ad : Addr) (had : cap ≠ k + 1 → ad = ⟨g, (k + 1) * 3, none⟩) :
    ∃ A' n' cap' w', (Builtin.append_ #[212, 212] 212 #[.slice (some ⟨g, 0, none⟩) k k, .slice (some ad) (ts.length - (k + 1)) (cap - (k + 1))]).run Try.prog w = .ok (.slice A' n' cap') w' ∧
      Row w' p 214 #[.int .i64 room, .int .u64 last, .slice (some ⟨g, 0, none⟩) ts.length cap] ∧
      QRep B (w'.setCell ⟨p, 2, none⟩ (.slice A' n' cap')) p room last (ts.eraseIdx k) ∧ QOnly B w (w'.setCell ⟨p, 2, none⟩ (.slice A' n' cap')) := by
  obtain ⟨i0, hi, hi0, hi1, hi2⟩ := info217_parts
  obtain ⟨g1, cap1, hv, hc1, hc2⟩ := hown.form (by omega)
  injection hv with hA _ hcc
  subst hcc
  have hfront := hown.front (m := k) (by omega) _ _ rfl (by omega)
  rw [txc_take] at hfront
  have hlen : (txc (ts.drop (k + 1))).length = (ts.length - (k + 1)) * 3 := by rw [length_txc, List.length_drop]
  obtain ⟨v', w', hr, h2, h3, h4⟩ := run_append_x (P := Try.prog) (w := w) (ty := 212) Try.underlying212 hi hi0 hi1 hi2 rfl hfront ad (ts.length - (k + 1)) (cap - (k + 1)) (txc (ts.drop (k + 1))) hlen
    (fun j u hu => by
      have hj : j < (txc (ts.drop (k + 1))).length := (List.getElem?_eq_some_iff.1 hu).1
      have hne : cap ≠ k + 1 := by omega
      rw [had hne]
      have e : (⟨g, (k + 1) * 3, none⟩ : Addr).add j = ⟨g, (k + 1) * 3 + j, none⟩ := by
        unfold Addr.add
        split
        · rename_i h; rw [h]; rfl
        · rfl
      rw [e]
      refine hown.cells (g := g) rfl _ _ ?_
      rw [← hu, ← txc_drop, List.getElem?_drop]) (txc_one _) (by omega) (by omega) hB
  obtain ⟨A', cap', rfl, _, _⟩ := h2.shape
  have happ : (Value.slice (some ⟨g, 0, none⟩) k k).ownBlock ≠ some p := hfront.apart hrow (by decide)
  have hrow' : Row w' p 214 #[.int .i64 room, .int .u64 last, .slice (some ⟨g, 0, none⟩) ts.length cap] := (h3.block p hrow.inside (fun e => happ e.symm)).trans hrow
  have hq1 : QOnly B w w' := (Only.refl _ _).grown h3 (fun j hj => .inl (QT.list hfront j hj))
  have hq2 : QOnly B w' (w'.setCell ⟨p, 2, none⟩ (.slice A' (k + (ts.length - (k + 1))) cap')) := (Only.refl _ _).set (p := ⟨p, 2, none⟩) (.inl (QT.self hp hrow')) _
  refine ⟨_, _, _, w', hr, hrow', ⟨hp, ?_, _, hrow'.written 2 _, ?_, fun t ht => ?_⟩, hq1.trans hq2⟩
  · have := hq1.size; have := hq2.size; omega
  · have e1 : (ts.eraseIdx k).length = k + (ts.length - (k + 1)) := by rw [List.length_eraseIdx, if_pos hk]; omega
    rw [e1, erase_txc]
    exact h2.only (S := fun j => j = p) ((Only.refl (fun j => j = p) _).set (p := ⟨p, 2, none⟩) (.inl rfl) _) (fun j hj e => by subst e; exact h2.apart hrow' (by decide) hj)
  · exact ((hl t (List.mem_of_mem_eraseIdx ht)).q hq1).q hq2

set_option maxRecDepth 100000 in
set_option maxHeartbeats 1600000 in
theorem remove_any {B p last k : Nat} {room : Int} {ts : List Txt} {w : World} (h : QRep B w p room last ts) (hk : k < ts.length) (hn : ts.length ≤ 1000) :
    Calls Try.prog 166 #[.pointer (some ⟨p, 0, none⟩), .int .i64 k] w fun e w' => e = .returned (.tuple #[]) ∧ QRep B w' p room last (ts.eraseIdx k) ∧ QOnly B w w' := by
  obtain ⟨hB, hB2, sv, hrow, hown, hl⟩ := h
  obtain ⟨g, cap, rfl, hc1, hc2⟩ := hown.form (by omega)
  unfold maxLen at hc2
  have c2 : w.cell? ⟨p, 2, none⟩ = some (.slice (some ⟨g, 0, none⟩) ts.length cap) := hrow.read rfl
  have f2 := hrow.free 2
  by_cases hce : cap = k + 1
  · obtain ⟨A', n', cap', w', hr, hr', hq, ho⟩ := drop_append (w := w.drew) hB hB2 hrow hown hl hk hn ⟨g, 0, none⟩ (fun h => absurd hce h)
    subst hce
    have hz : ts.length - (k + 1) = 0 := by omega
    rw [Nat.sub_self, hz] at hr
    have HZ := Lib.hid hz
    clear hz
    have HR := Lib.hid hr
    have HQ := Lib.hid hq
    have HO := Lib.hid ho
    have d2 : w'.cell? ⟨p, 2, none⟩ = some (.slice (some ⟨g, 0, none⟩) ts.length (k + 1)) := hr'.read rfl
    have e2 := hr'.free 2
    have hi0 : (0 : Int) ≤ (k : Int) := by omega
    have hi1 : (k : Int) < (ts.length : Int) := by omega
    have hkc : k ≤ k + 1 := by omega
    have hkl : k + 1 ≤ ts.length := by omega
    have hw0 : (0 : Int) ≤ (k : Int) + 1 := by omega
    have hx0 : (k : Int) ≤ (k : Int) + 1 := by omega
    have hx1 : (k : Int) + 1 ≤ (ts.length : Int) := by omega
    have hw1 : ((k : Int) + 1).toNat = k + 1 := by omega
    have hw : IntKind.i64.wrap ((k : Int) + 1) = (k : Int) + 1 := IntWalk.i64_in _ (by omega)
    clear hr hq ho hr' hrow hown hl
    go_enter Try.func166, Try.ntmps166
    go_region_law (refine step_run rfl (.tmp 11) (.tmp 18) 212 rfl (.slice (some ⟨g, 0, none⟩) k k) (.slice (some ⟨g, 0, none⟩) 0 0) (by rfl) (by rfl) HR.out ?_)
    all_goals
      go_end0
      exact ⟨rfl, HQ.out, (show QOnly B w w.drew from Only.drew (Only.refl _ _) ).trans HO.out⟩
  · obtain ⟨A', n', cap', w', hr, hr', hq, ho⟩ := drop_append (w := w.drew) hB hB2 hrow hown hl hk hn ⟨g, (k + 1) * 3, none⟩ (fun _ => rfl)
    have HR := Lib.hid hr
    have HQ := Lib.hid hq
    have HO := Lib.hid ho
    have d2 : w'.cell? ⟨p, 2, none⟩ = some (.slice (some ⟨g, 0, none⟩) ts.length cap) := hr'.read rfl
    have e2 := hr'.free 2
    have hi0 : (0 : Int) ≤ (k : Int) := by omega
    have hi1 : (k : Int) < (ts.length : Int) := by omega
    have hkc : k ≤ cap := by omega
    have hkl : k + 1 ≤ ts.length := by omega
    have hkl2 : k + 1 ≤ cap := by omega
    have hw0 : (0 : Int) ≤ (k : Int) + 1 := by omega
    have hx0 : (k : Int) ≤ (k : Int) + 1 := by omega
    have hx1 : (k : Int) + 1 ≤ (ts.length : Int) := by omega
    have hw1 : ((k : Int) + 1).toNat = k + 1 := by omega
    have hw : IntKind.i64.wrap ((k : Int) + 1) = (k : Int) + 1 := IntWalk.i64_in _ (by omega)
    clear hr hq ho hr' hrow hown hl
    go_enter Try.func166, Try.ntmps166
    go_region_law (refine step_run rfl (.tmp 11) (.tmp 18) 212 rfl (.slice (some ⟨g, 0, none⟩) k k) (.slice (some ⟨g, (k + 1) * 3, none⟩) (ts.length - (k + 1)) (cap - (k + 1))) (by rfl) (by rfl) HR.out ?_)
    all_goals
      go_end0
      exact ⟨rfl, HQ.out, (show QOnly B w w.drew from Only.drew (Only.refl _ _) ).trans HO.out⟩
end Go.Proofs.Ytjonkpdjhjobfaa
namespace Go.Proofs.Ytjonkpdjhjobfaa
open Go.RowKit

theorem new_three (W : World) (u v x : Value) (t : TypeId) : ∀ j y, [u, v, x][j]? = some y → (W.alloc (.cells #[u, v, x] t)).cell? ((⟨W.heap.size, 0, none⟩ : Addr).add j) = some y :=
  World.news_of_block (cs := #[u, v, x]) (heap_alloc_new W _)

theorem push_tail {B p last : Nat} {room : Int} {ts : List Txt} {l : List Nat} {wY w2 : World} {A : Option Addr} {cap g2 : Nat} (hp : B ≤ p) (hB : B ≤ wY.heap.size) (hrow : Row wY p 214 #[.int .i64 room, .int .u64 ((last : Int) + 1), .slice A ts.length cap])
    (hown : OwnX wY B 217 3 (.slice A ts.length cap) ts.length (txc ts)) (hl : ∀ t ∈ ts, t.lies B wY) (hn : ts.length ≤ 1000) (hf : Fresh wY.drew l g2 w2) (hll : l.length ≤ 1000) :
    ∃ A' n' cap' w3, (Builtin.append_ #[212, 212] 212 #[.slice A ts.length cap, .slice (some ⟨w2.heap.size, 0, none⟩) 1 1]).run Try.prog (w2.alloc (.cells #[.int .u64 ((last : Int) + 1), .slice (some ⟨g2, 0, none⟩) l.length l.length, .bool false] 217)) = .ok (.slice A' n' cap') w3 ∧
      Row w3 p 214 #[.int .i64 room, .int .u64 ((last : Int) + 1), .slice A ts.length cap] ∧ Row w2 p 214 #[.int .i64 room, .int .u64 ((last : Int) + 1), .slice A ts.length cap] ∧
      (∃ t, t.id = last + 1 ∧ t.bs = l ∧ t.bg = false ∧ wY.heap.size ≤ t.g ∧ QRep B (w3.setCell ⟨p, 2, none⟩ (.slice A' n' cap')) p room (last + 1) (ts ++ [t])) ∧ QOnly B wY (w3.setCell ⟨p, 2, none⟩ (.slice A' n' cap')) := by
  obtain ⟨i0, hi, hi0, hi1, hi2⟩ := info217_parts
  obtain ⟨hg2, ⟨cs, hcs, hcb⟩, hb2⟩ := hf
  have hb2' : Below wY.heap.size wY w2 := bl_step (bl_drew (Below.refl _ _)) hb2
  have hrow2 := hrow.later hb2'
  have hsz2 := hb2'.size
  let o : Obj := .cells #[.int .u64 ((last : Int) + 1), .slice (some ⟨g2, 0, none⟩) l.length l.length, .bool false] 217
  have hown3 : OwnX (w2.alloc o) B 217 3 (.slice A ts.length cap) ts.length (txc ts) := (hown.only (S := fun _ => False) (.of_below hb2') (fun _ _ h => h)).alloc o
  obtain ⟨v', w3, hr, h2, h3, h4⟩ := run_append_x (P := Try.prog) (w := w2.alloc o) (ty := 212) Try.underlying212 hi hi0 hi1 hi2 rfl hown3 ⟨w2.heap.size, 0, none⟩ 1 1 [.int .u64 ((last : Int) + 1), .slice (some ⟨g2, 0, none⟩) l.length l.length, .bool false] rfl
    (new_three w2 _ _ _ 217) (by intro u hu; simp at hu; rcases hu with rfl | rfl | rfl <;> rfl) (by omega) (by omega) (by simp; omega)
  obtain ⟨A', cap', rfl, _, _⟩ := h2.shape
  have hrow2o := hrow2.more o
  have happ := hown3.apart hrow2o (by decide)
  have hrow3 : Row w3 p 214 #[.int .i64 room, .int .u64 ((last : Int) + 1), .slice A ts.length cap] := (h3.block p hrow2o.inside (fun e => happ e.symm)).trans hrow2o
  have hq1 : QOnly B wY (w2.alloc o) := QOnly.of_below (bl_alloc hb2' o)
  have hq2 : QOnly B (w2.alloc o) w3 := (Only.refl _ _).grown h3 (fun j hj => .inl (QT.list hown3 j hj))
  have hq3 : QOnly B w3 (w3.setCell ⟨p, 2, none⟩ (.slice A' (ts.length + 1) cap')) := (Only.refl _ _).set (p := ⟨p, 2, none⟩) (.inl (QT.self hp hrow3)) _
  refine ⟨_, _, _, w3, hr, hrow3, hrow2, ⟨⟨last + 1, g2, 0, l.length, l, false⟩, rfl, rfl, rfl, hg2, ⟨hp, ?_, _, hrow3.written 2 _, ?_, ?_⟩⟩, (hq1.trans hq2).trans hq3⟩
  · have := hq1.size; have := hq2.size; have := hq3.size; omega
  · rw [List.length_append, List.length_singleton, txc_append]
    exact h2.only (S := fun j => j = p) ((Only.refl (fun j => j = p) _).set (p := ⟨p, 2, none⟩) (.inl rfl) _) (fun j hj e => by subst e; exact h2.apart hrow3 (by decide) hj)
  · intro t ht
    rw [List.mem_append, List.mem_singleton] at ht
    rcases ht with ht | rfl
    · exact (((hl t ht).q hq1).q hq2).q hq3
    · exact ⟨by have : wY.heap.size ≤ g2 := hg2; show B ≤ g2; omega, Nat.le_refl _, by show l.length ≤ _; omega, cs, hq3.row (hq2.row (hcs.more o) (by decide) (by decide)) (by decide) (by decide), fun j b hb => by show cs[0 + j]? = _; rw [Nat.zero_add]; exact hcb j b hb⟩

set_option maxHeartbeats 400000 in
theorem push_nil (x : Value) (w : World) : Calls Try.prog 82 #[.pointer none, x] w fun e w' => e = .returned (.tuple #[.int .u64 0, .int .i64 6]) ∧ w = w' := by
  go_enter Try.func82, Try.ntmps82
  go_wp2_with (go_at_call 147; refine (none_nil _).mono ?_; rintro e _ ⟨rfl, rfl⟩)
  go_ret2
  exact ⟨rfl, rfl⟩

section
variable {B p last : Nat} {room : Int} {ts : List Txt} {w : World}
theorem QRep.row (h : QRep B w p room last ts) : ∃ sv, Row w p 214 #[.int .i64 room, .int .u64 last, sv] := by
  obtain ⟨_, _, sv, hr, _⟩ := h
  exact ⟨sv, hr⟩

set_option maxHeartbeats 400000 in
theorem push_arg (A : Option Addr) (c : Nat) (h : QRep B w p room last ts) (hr : 0 < room) :
    Calls Try.prog 82 #[.pointer (some ⟨p, 0, none⟩), .slice A 0 c] w fun e w' => e = .returned (.tuple #[.int .u64 0, .int .i64 1]) ∧ w = w' := by
  obtain ⟨sv, hrow⟩ := h.row
  have HROW := Lib.hid hrow
  clear hrow h
  go_enter Try.func82, Try.ntmps82
  go_wp2_with (go_at_call 147; refine (none_not HROW.out hr).mono ?_; rintro e _ ⟨rfl, rfl⟩)
  go_ret2
  exact ⟨rfl, rfl⟩
set_option maxHeartbeats 400000 in
theorem push_long (A : Option Addr) (n c : Nat) (h : QRep B w p room last ts) (hr : 0 < room) (hn : 1000 < n) (hn2 : n ≤ 9223372036854775807) :
    Calls Try.prog 82 #[.pointer (some ⟨p, 0, none⟩), .slice A n c] w fun e w' => e = .returned (.tuple #[.int .u64 0, .int .i64 2]) ∧ w = w' := by
  obtain ⟨sv, hrow⟩ := h.row
  have HROW := Lib.hid hrow
  have h0 : ((n : Int) == 0) = false := by simp; omega
  clear hrow h
  go_enter Try.func82, Try.ntmps82
  go_wp2_with (go_at_call 147; refine (none_not HROW.out hr).mono ?_; rintro e _ ⟨rfl, rfl⟩)
  go_ret2
  exact ⟨rfl, rfl⟩

set_option maxRecDepth 100000 in
set_option maxHeartbeats 800000 in
theorem push_full (A : Option Addr) (n c : Nat) (h : QRep B w p room last ts) (hr : 0 < room) (hr2 : room ≤ 20000) (hb : (bytesF ts : Int) ≤ room) (hn0 : 0 < n) (hn : n ≤ 1000) (hts : ts.length ≤ 64) (hf : ts.length = 64 ∨ room < (bytesF ts : Int) + n) :
    Calls Try.prog 82 #[.pointer (some ⟨p, 0, none⟩), .slice A n c] w fun e w' => e = .returned (.tuple #[.int .u64 0, .int .i64 5]) ∧ Below w.heap.size w w' := by
  obtain ⟨_, _, sv, hrow, hown, _⟩ := id h
  obtain ⟨A1, cap, rfl, hcap, hmx⟩ := hown.shape
  unfold maxLen at hmx
  have HROW := Lib.hid hrow
  have HB := Lib.hid (qbytes_any (h.later (bl_drew (Below.refl _ _))) hr (by omega))
  have HQ := Lib.hid h
  have c0 := hrow.read (i := 0) rfl
  have c2 := hrow.read (i := 2) rfl
  have h0 : ((n : Int) == 0) = false := by simp; omega
  clear hrow h hown
  by_cases h64 : ts.length = 64
  · have hge : 64 ≤ ts.length := by omega
    have hd : decide ((64 : Int) ≤ (ts.length : Int)) = true := by simp; omega
    clear h64 hf
    go_enter Try.func82, Try.ntmps82
    go_wp2_with (go_at_call 147; refine (none_not HROW.out hr).mono ?_; rintro e _ ⟨rfl, rfl⟩)
    go_quiet (fail)
    go_wp2
    go_ret2
    exact ⟨rfl, below_drewN (Below.refl _ _) _⟩
  · have hlt : ts.length < 64 := by omega
    have hd : decide ((64 : Int) ≤ (ts.length : Int)) = false := by simp; omega
    have hgt : room < (bytesF ts : Int) + n := by omega
    clear h64 hf
    generalize bytesF ts = bf at *
    go_enter Try.func82, Try.ntmps82
    go_wp2_with (go_at_call 147; refine (none_not HROW.out hr).mono ?_; rintro e _ ⟨rfl, rfl⟩)
    have hw0 : (0 : Int) ≤ (bf : Int) + n := by omega
    have hw : IntKind.i64.wrap ((bf : Int) + n) = (bf : Int) + n := IntWalk.i64_in _ (by omega)
    go_region_held3 (fun w' => w'.cell? ⟨p, 0, none⟩ = some (.int .i64 room) ∧ w'.cell? ⟨p, 2, none⟩ = some (.slice A1 ts.length cap)) (first | go_keep | (exact ⟨kept_box (by assumption) (by assumption), kept_box (by assumption) (by assumption)⟩)) (first | (go_at_call 89; refine (HB.out).mono ?_; rintro e w1 ⟨rfl, hb1⟩))
    go_wp2
    go_ret2
    exact ⟨rfl, bl_step (bl_drew (Below.refl _ _)) hb1⟩

/-- the same; the text lies in new memory -/
def PushDoneG (B p last : Nat) (room : Int) (ts : List Txt) (l : List Nat) (w : World) (e : Ending) (w' : World) : Prop :=
  e = .returned (.tuple #[.int .u64 ((last : Int) + 1), .int .i64 0]) ∧ (∃ t : Txt, t.id = last + 1 ∧ t.bs = l ∧ t.bg = false ∧ w.heap.size ≤ t.g ∧ QRep B w' p room (last + 1) (ts ++ [t])) ∧ QOnly B w w'

set_option maxRecDepth 100000 in
set_option maxHeartbeats 3200000 in
theorem push_okg (A : Option Addr) (l : List Nat) (c : Nat) (h : QRep B w p room last ts) (hr : 0 < room) (hr2 : room ≤ 20000) (h0 : 0 < l.length) (hn : l.length ≤ 1000) (hts : ts.length < 64) (hf : (bytesF ts : Int) + l.length ≤ room) (hlast : last ≤ 1000000000)
    (hsrc : ∀ W, QOnly B w W → QSrcB W A (qbts l)) :
    Calls Try.prog 82 #[.pointer (some ⟨p, 0, none⟩), .slice A l.length c] w (PushDoneG B p last room ts l w) := by
  obtain ⟨hB, hB2, sv, hrow, hown, hl⟩ := id h
  obtain ⟨A1, cap, rfl, hcap, hmx⟩ := hown.shape
  unfold maxLen at hmx
  have HROW := Lib.hid hrow
  have HBY := Lib.hid (qbytes_any (h.later (bl_drew (Below.refl _ _))) hr (by omega))
  have HQ := Lib.hid h
  have HSRC := Lib.hid hsrc
  have c0 := hrow.read (i := 0) rfl
  have c2 := hrow.read (i := 2) rfl
  have hd : decide ((64 : Int) ≤ (ts.length : Int)) = false := by simp; omega
  clear hrow h hown hl hsrc
  obtain ⟨bf, hbf⟩ : ∃ bf, bytesF ts = bf := ⟨_, rfl⟩
  rw [hbf] at hf HBY
  clear hbf
  obtain ⟨n, hn'⟩ : ∃ n, l.length = n := ⟨_, rfl⟩
  rw [hn'] at h0 hn hf
  have HN := Lib.hid hn'
  rw [hn']
  clear hn'
  have hn0 : ((n : Int) == 0) = false := by simp; omega
  have hd1 : decide ((1000 : Int) < (n : Int)) = false := by simp; omega
  go_enter Try.func82, Try.ntmps82
  go_wp2_with (go_at_call 147; refine (none_not HROW.out hr).mono ?_; rintro e _ ⟨rfl, rfl⟩)
  have hw0 : (0 : Int) ≤ (bf : Int) + n := by omega
  have hw : IntKind.i64.wrap ((bf : Int) + n) = (bf : Int) + n := IntWalk.i64_in _ (by omega)
  go_region_held3 (fun w' => w'.cell? ⟨p, 0, none⟩ = some (.int .i64 room) ∧ w'.cell? ⟨p, 2, none⟩ = some (.slice A1 ts.length cap)) (first | go_keep | (exact ⟨kept_box (by assumption) (by assumption), kept_box (by assumption) (by assumption)⟩)) (first | (go_at_call 89; refine (HBY.out).mono ?_; rintro e w1 ⟨rfl, hb1⟩))
  have hbw1 : Below w.heap.size w w1 := bl_step (bl_drew (Below.refl _ _)) hb1
  obtain ⟨_, hB3, sv1, hrow1, hown1, hl1⟩ := HQ.out.later hbw1
  have esv : sv1 = .slice A1 ts.length cap := by
    have := HROW.out.later hbw1
    unfold Row at this hrow1
    rw [hrow1] at this
    injection this with this
    injection this with this _
    injection this with this
    injection this with _ this
    injection this with _ this
    injection this with this _
  subst esv
  have c1 := hrow1.read (i := 1) rfl
  have f1 := hrow1.free 1
  have hrowY := hrow1.written 1 (.int .u64 ((last : Int) + 1))
  have hoY : QOnly B w1 (w1.setCell ⟨p, 1, none⟩ (.int .u64 ((last : Int) + 1))) := (Only.refl _ _).set (p := ⟨p, 1, none⟩) (.inl (QT.self hB hrow1)) _
  have hownY := hown1.only (S := fun j => j = p) ((Only.refl (fun j => j = p) _).set (p := ⟨p, 1, none⟩) (.inl rfl) (.int .u64 ((last : Int) + 1))) (fun j hj e => by subst e; exact hown1.apart hrow1 (by decide) hj)
  have hlY : ∀ t ∈ ts, t.lies B (w1.setCell ⟨p, 1, none⟩ (.int .u64 ((last : Int) + 1))) := fun t ht => (hl1 t ht).q hoY
  have HOY := Lib.hid ((QOnly.of_below (B := B) hbw1).trans hoY)
  have hszY : B ≤ (w1.setCell ⟨p, 1, none⟩ (.int .u64 ((last : Int) + 1))).heap.size := by have := hoY.size; omega
  have HSY := Lib.hid (HSRC.out _ HOY.out)
  have HRY := Lib.hid hrowY
  have HWY := Lib.hid hownY
  have HLY := Lib.hid hlY
  clear hrow1 hrowY hoY hown1 hownY hl1 hlY hb1 hbw1
  have hu : IntKind.u64.wrap ((last : Int) + 1) = (last : Int) + 1 := by rw [IntKind.wrap_u64]; omega
  go_wp2
  generalize w1.setCell ⟨p, 1, none⟩ (.int .u64 ((last : Int) + 1)) = wY at *
  have hRY : Row wY p 214 #[.int .i64 room, .int .u64 ((last : Int) + 1), .slice A1 ts.length cap] := HRY.out
  have y1 : wY.cell? ⟨p, 1, none⟩ = some (.int .u64 ((last : Int) + 1)) := hRY.read rfl
  have y2 : wY.cell? ⟨p, 2, none⟩ = some (.slice A1 ts.length cap) := hRY.read rfl
  have HRY' := Lib.hid hRY
  have HC : Hid (∀ W, W = wY.drew → Calls Try.prog 148 #[.slice A n c] W (CopyDone l W)) := Lib.hid (fun W hW => by
    have := qcopied_any A c l W (by rw [hW]; exact HSY.out) (by rw [HN.out]; omega) (by rw [HN.out]; omega)
    rw [HN.out] at this
    exact this)
  clear hRY HRY c0 c1 c2 f1
  go_region_law (first
    | (go_simp; go_at_call 148; refine (HC.out _ rfl).mono ?_; rintro e w2 ⟨g2, rfl, hfr⟩; obtain ⟨A', n', cap', w3, hr3, hrow3, hrow2, hq3, ho3⟩ := push_tail hB hszY HRY'.out HWY.out HLY.out (by omega) hfr (by rw [HN.out]; omega); rw [HN.out] at hr3 ⊢; have z1 := hrow2.read (i := 1) rfl; have z2 := hrow2.read (i := 2) rfl; have z3 := (hrow2.more (.cells #[.int .u64 ((last : Int) + 1), .slice (some ⟨g2, 0, none⟩) n n, .bool false] 217)).read (i := 2) rfl; have x2 := hrow3.read (i := 2) rfl; have x3 := hrow3.free 2; have HR3 := Lib.hid hr3; have HQ3 := Lib.hid hq3; have HO3 := Lib.hid ho3; have HRW3 := Lib.hid hrow3; clear hr3 hq3 ho3 hrow2 hrow3 hfr; go_simp)
    | (refine step_run rfl (.tmp 47) (.tmp 55) 212 rfl (.slice A1 ts.length cap) (.slice (some ⟨w2.heap.size, 0, none⟩) 1 1) (by rfl) (by rfl) HR3.out ?_))
  all_goals
    have v1 : (w3.setCell ⟨p, 2, none⟩ (.slice A' n' cap')).cell? ⟨p, 1, none⟩ = some (.int .u64 ((last : Int) + 1)) := (HRW3.out.written 2 (.slice A' n' cap')).read rfl
    go_wp2
    go_ret2
    obtain ⟨t9, a9, b9, c9, d9, e9⟩ := HQ3.out
    exact ⟨rfl, ⟨t9, a9, b9, c9, Nat.le_trans HOY.out.size d9, e9⟩, HOY.out.trans HO3.out⟩
end
end Go.Proofs.Ytjonkpdjhjobfaa
namespace Go.Proofs.Ytjonkpdjhjobfaa
open Go.RowKit

/-- a list of bytes of the call's own -/
def QBytes (w : World) (g : Nat) (l : List Nat) : Prop := ∃ cs : Array Value, Row w g 5 cs ∧ ∀ (j b : Nat), l[j]? = some b → cs[j]? = some (Value.int .u8 (b : Nat))
theorem QBytes.q {B : Nat} {w v : World} {g : Nat} {l : List Nat} (h : QBytes w g l) (ho : QOnly B w v) : QBytes v g l := by
  obtain ⟨cs, h1, h2⟩ := h
  exact ⟨cs, ho.row h1 (by decide) (by decide), h2⟩
theorem QBytes.later {w v : World} {g : Nat} {l : List Nat} (h : QBytes w g l) (hb : Below w.heap.size w v) : QBytes v g l := by
  obtain ⟨cs, h1, h2⟩ := h
  exact ⟨cs, h1.later hb, h2⟩

section
variable {B p last : Nat} {room : Int} {ts : List Txt} {w : World}
set_option maxHeartbeats 400000 in
theorem take_zero {a b : Value} (n : Int) (h : Row w p 214 #[.int .i64 0, a, b]) : Calls Try.prog 152 #[.pointer (some ⟨p, 0, none⟩), .int .i64 n] w fun e w' => e = .returned (.tuple #[.slice none 0 0, .bool false, .int .i64 6]) ∧ w = w' := by
  have HR := Lib.hid h
  clear h
  go_enter Try.func152, Try.ntmps152
  go_wp2_with (go_at_call 147; refine (none_zero HR.out).mono ?_; rintro e _ ⟨rfl, rfl⟩)
  go_ret3
  exact ⟨rfl, rfl⟩
/-- what a Take does that is not refused: n bytes, and what is left -/
def TakeDone (B p last : Nat) (room : Int) (t : Txt) (r : List Txt) (n : Nat) (w : World) (e : Ending) (w' : World) : Prop :=
  ∃ g, e = .returned (.tuple #[.slice (some ⟨g, 0, none⟩) n n, .bool (n == t.bs.length), .int .i64 0]) ∧ w.heap.size ≤ g ∧ QBytes w' g (t.bs.take n) ∧ QOnly B w w' ∧
    ∃ t' : Txt, t'.id = t.id ∧ t'.bs = t.bs.drop n ∧ t'.bg = true ∧ QRep B w' p room last (if n = t.bs.length then r else t' :: r)
/-- the same; what is left lies where it lay -/
def TakeDoneG (B p last : Nat) (room : Int) (t : Txt) (r : List Txt) (n : Nat) (w : World) (e : Ending) (w' : World) : Prop :=
  ∃ g, e = .returned (.tuple #[.slice (some ⟨g, 0, none⟩) n n, .bool (n == t.bs.length), .int .i64 0]) ∧ w.heap.size ≤ g ∧ QBytes w' g (t.bs.take n) ∧ QOnly B w w' ∧
    ∃ t' : Txt, t'.id = t.id ∧ t'.bs = t.bs.drop n ∧ (t'.bg = true ∧ t'.g = t.g) ∧ QRep B w' p room last (if n = t.bs.length then r else t' :: r)

theorem TakeDoneG.intro {t : Txt} {r : List Txt} {n g : Nat} {v : Bool} {w' : World} (hv : (n == t.bs.length) = v) (h1 : w.heap.size ≤ g) (h2 : QBytes w' g (t.bs.take n)) (h3 : QOnly B w w') (t' : Txt) (h4 : t'.id = t.id) (h5 : t'.bs = t.bs.drop n) (h6 : t'.bg = true ∧ t'.g = t.g)
    (h7 : QRep B w' p room last (if n = t.bs.length then r else t' :: r)) : TakeDoneG B p last room t r n w (.returned (.tuple #[.slice (some ⟨g, 0, none⟩) n n, .bool v, .int .i64 0])) w' :=
  ⟨g, by rw [hv], h1, h2, h3, t', h4, h5, h6, h7⟩

theorem qsrc_take {w : World} {A : Option Addr} {l : List Nat} (h : QSrcB w A (qbts l)) (n : Nat) : QSrcB w A (qbts (l.take n)) := by
  intro h0
  obtain ⟨b, off, rfl, hc⟩ := h (by rw [qlength_bts] at *; simp at h0; omega)
  refine ⟨b, off, rfl, fun j u hu => hc j u ?_⟩
  unfold qbts at *
  rw [List.map_take, List.getElem?_take] at hu
  split at hu
  · exact hu
  · cases hu

/-- the first text with its first bytes gone -/
theorem took_rep {t : Txt} {r : List Txt} {n off' g cap : Nat} (hq : B ≤ p) (hB2 : B ≤ w.heap.size) (hrow : Row w p 214 #[.int .i64 room, .int .u64 last, .slice (some ⟨g, 0, none⟩) (t :: r).length cap])
    (hown : OwnX w B 217 3 (.slice (some ⟨g, 0, none⟩) (t :: r).length cap) (t :: r).length (txc (t :: r))) (hl : ∀ x ∈ t :: r, x.lies B w) (hn : n ≤ t.bs.length) (hoff : n < t.bs.length → off' = t.off + n) :
    ∃ t' : Txt, t'.id = t.id ∧ t'.bs = t.bs.drop n ∧ (t'.bg = true ∧ t'.g = t.g) ∧ QRep B ((w.setCell ⟨g, 1, none⟩ (.slice (some ⟨t.g, off', none⟩) (t.bs.length - n) (t.cap - n))).setCell ⟨g, 2, none⟩ (.bool true)) p room last (t' :: r) ∧
      QOnly B w ((w.setCell ⟨g, 1, none⟩ (.slice (some ⟨t.g, off', none⟩) (t.bs.length - n) (t.cap - n))).setCell ⟨g, 2, none⟩ (.bool true)) ∧ t'.waits = .slice (some ⟨t.g, off', none⟩) (t.bs.length - n) (t.cap - n) := by
  have hgt : QT B w g := QT.list hown g rfl
  have hgp : p ≠ g := fun e => by subst e; exact hown.apart hrow (by decide) rfl
  have ho1 : QOnly B w (w.setCell ⟨g, 1, none⟩ (.slice (some ⟨t.g, off', none⟩) (t.bs.length - n) (t.cap - n))) := (Only.refl _ _).set (p := ⟨g, 1, none⟩) (.inl hgt) _
  have ho : QOnly B w ((w.setCell ⟨g, 1, none⟩ (.slice (some ⟨t.g, off', none⟩) (t.bs.length - n) (t.cap - n))).setCell ⟨g, 2, none⟩ (.bool true)) := Only.set ho1 (p := ⟨g, 2, none⟩) (.inl hgt) _
  have h2 := (hown.stored (g := g) rfl 1 (.slice (some ⟨t.g, off', none⟩) (t.bs.length - n) (t.cap - n))).stored (g := g) rfl 2 (.bool true)
  have ht' : (t.bs.drop n).length = t.bs.length - n := by simp
  refine ⟨⟨t.id, t.g, off', t.cap - n, t.bs.drop n, true⟩, rfl, rfl, ⟨rfl, rfl⟩, ⟨hq, by have := ho.size; omega, _, (hrow.elsewhere (p := ⟨g, 1, none⟩) hgp _).elsewhere (p := ⟨g, 2, none⟩) hgp _, ?_, ?_⟩, ho, by unfold Txt.waits; simp⟩
  · have e : ((txc (t :: r)).set 1 (.slice (some ⟨t.g, off', none⟩) (t.bs.length - n) (t.cap - n))).set 2 (.bool true) = txc (⟨t.id, t.g, off', t.cap - n, t.bs.drop n, true⟩ :: r) := by
      rw [txc_cons, txc_cons]
      unfold Txt.waits
      simp
    rw [e] at h2
    exact h2
  · intro x hx
    rcases List.mem_cons.1 hx with rfl | hx
    · obtain ⟨l1, l2, l3, cs, l4, l5⟩ := hl t (List.mem_cons_self ..)
      refine ⟨l1, by show (t.bs.drop n).length ≤ t.cap - n; rw [ht']; omega, by show t.cap - n ≤ _; omega, cs, ho.row l4 (by decide) (by decide), fun j b hb => ?_⟩
      have hb' : (t.bs.drop n)[j]? = some b := hb
      rw [List.getElem?_drop] at hb'
      have hlt : n + j < t.bs.length := (List.getElem?_eq_some_iff.1 hb').1
      show cs[off' + j]? = _
      rw [hoff (by omega), Nat.add_assoc]
      exact l5 _ _ hb'
    · exact (hl x (List.mem_cons_of_mem _ hx)).q ho

set_option maxRecDepth 100000 in
set_option maxHeartbeats 3200000 in
theorem take_okg {t : Txt} {r : List Txt} (n : Nat) (h : QRep B w p room last (t :: r)) (hr : 0 < room) (hn1 : 1 ≤ n) (hn2 : n ≤ t.bs.length) (hlen : t.bs.length ≤ 100000) (hrl : r.length ≤ 900) :
    Calls Try.prog 152 #[.pointer (some ⟨p, 0, none⟩), .int .i64 n] w (TakeDoneG B p last room t r n w) := by
  obtain ⟨hB, hB2, sv, hrow, hown, hl⟩ := id h
  obtain ⟨g, cap, rfl, hcap, hmx⟩ := hown.form (by simp)
  have c2 := hrow.read (i := 2) rfl
  have HR := Lib.hid hrow
  have hcell := hown.cells (g := g) rfl
  have d1 := hcell 1 _ (txc_at (ts := t :: r) (i := 0) rfl).2.1
  unfold Txt.waits at d1
  obtain ⟨l1, l2, l3, hsr⟩ := id (hl t (List.mem_cons_self ..))
  have HSRC := Lib.hid (qsrc_take (hl t (List.mem_cons_self ..)).src n)
  have HTL := Lib.hid (show (t.bs.take n).length = n by simp; omega)
  have HQ := Lib.hid h
  have HOWN := Lib.hid hown
  have hrr : (t :: r).length = r.length + 1 := rfl
  have HLN := Lib.hid hrr
  generalize hNN : (t :: r).length = N at *
  have HNN := Lib.hid hNN
  have hN : 0 < N := by omega
  have hN0 : ((N : Int) == 0) = false := by simp; omega
  unfold maxLen at hmx
  clear hrow hown hcell hrr hl h hNN hsr
  obtain ⟨m, hm⟩ : ∃ m, t.bs.length = m := ⟨_, rfl⟩
  rw [hm] at hn2 hlen l2 d1
  have HM := Lib.hid hm
  clear hm
  have hi1 : (n : Int) ≤ (m : Int) := by omega
  have hi2 : ¬ (m : Int) < (n : Int) := by omega
  go_enter Try.func152, Try.ntmps152
  go_wp2_with (go_at_call 147; refine (none_not HR.out hr).mono ?_; rintro e _ ⟨rfl, rfl⟩)
  have HC := Lib.hid (qcopied_any (some ⟨t.g, t.off, none⟩) t.cap (t.bs.take n) w HSRC.out (by rw [HTL.out]; omega) (by rw [HTL.out]; omega))
  rw [HTL.out] at HC
  refine (HC.out).mono ?_
  rintro e w2 ⟨g2, rfl, hg2, hby, hb2⟩
  rw [HTL.out]
  have HG2 := Lib.hid hg2
  have HBY := Lib.hid (show QBytes w2 g2 (t.bs.take n) from hby)
  have HB2 := Lib.hid hb2
  obtain ⟨_, hB3, sv2, hrow2, hown2, hl2⟩ := HQ.out.later hb2
  have esv : sv2 = .slice (some ⟨g, 0, none⟩) N cap := by
    have := HR.out.later hb2
    unfold Row at this hrow2
    rw [hrow2] at this
    injection this with this
    injection this with this _
    injection this with this
    injection this with _ this
    injection this with _ this
    injection this with this _
  subst esv
  rw [HNN.out] at hown2
  have k2 := hrow2.read (i := 2) rfl
  have hcell2 := hown2.cells (g := g) rfl
  have e1 := hcell2 1 _ (txc_at (ts := t :: r) (i := 0) rfl).2.1
  have e2 := hcell2 2 _ (txc_at (ts := t :: r) (i := 0) rfl).2.2
  unfold Txt.waits at e1
  rw [HM.out] at e1
  have f1 := hown2.free (g := g) rfl 1
  have f2 := hown2.free (g := g) rfl 2
  have HTK := fun off' (ho : n < t.bs.length → off' = t.off + n) => took_rep (g := g) (cap := cap) (t := t) (r := r) (n := n) (off' := off') hB hB3 (by rw [HNN.out]; exact hrow2) (by rw [HNN.out]; exact hown2) hl2 (by rw [HM.out]; exact hn2) ho
  rw [HM.out] at HTK
  have HTK := Lib.hid HTK
  have HQ2 := Lib.hid (QOnly.of_below (B := B) hb2)
  clear hg2 hby hb2 hrow2 hown2 hl2 hcell2 hB3
  have hn1' : (1 : Int) ≤ (n : Int) := by omega
  rcases Nat.lt_or_ge n m with hlt | hge
  · have hce : ¬ t.cap = n := by omega
    obtain ⟨t', ht1, ht2, ht3, ht4, ht5, ht6⟩ := HTK.out (t.off + n) (fun _ => rfl)
    have HT4 := Lib.hid ht4
    have HT5 := Lib.hid ht5
    have HT1 := Lib.hid (And.intro ht1 (And.intro ht2 ht3))
    have hpos : (0 : Int) < ((m - n : Nat) : Int) := by omega
    have hposn : 0 < m - n := by omega
    have heq : (n == t.bs.length) = false := by rw [HM.out]; simp; omega
    have HEQ := Lib.hid heq
    have hne : ¬ n = t.bs.length := by rw [HM.out]; omega
    have HNE := Lib.hid hne
    clear ht1 ht2 ht3 ht4 ht5 ht6 heq hne
    go_wp2
    go_ret3
    refine TakeDoneG.intro HEQ.out HG2.out (HBY.out.q HT5.out) (HQ2.out.trans HT5.out) t' HT1.out.1 HT1.out.2.1 HT1.out.2.2 ?_
    rw [if_neg HNE.out]
    exact HT4.out
  · obtain rfl : m = n := by omega
    have hrm : 0 < (Txt.mk 0 0 0 0 [] false :: r).length := by simp
    by_cases hce : t.cap = m
    · obtain ⟨t', ht1, ht2, ht3, ht4, ht5, ht6⟩ := HTK.out t.off (fun h => by omega)
      rw [Nat.sub_self, hce, Nat.sub_self] at ht4 ht5
      have HT4 := Lib.hid ht4
      have HT5 := Lib.hid ht5
      have HT1 := Lib.hid (And.intro ht1 (And.intro ht2 ht3))
      have heq : (m == t.bs.length) = true := by rw [HM.out]; simp
      have HEQ := Lib.hid heq
      clear ht1 ht2 ht3 ht4 ht5 ht6 heq
      go_wp2_with fail
      refine (remove_any (k := 0) HT4.out (by simp) (by simp; omega)).mono ?_
      rintro e w3 ⟨rfl, hq3, ho3⟩
      have HQ3 := Lib.hid hq3
      have HO3 := Lib.hid ho3
      clear hq3 ho3
      go_wp2
      go_ret3
      refine TakeDoneG.intro HEQ.out HG2.out ((HBY.out.q HT5.out).q HO3.out) ((HQ2.out.trans HT5.out).trans HO3.out) t' HT1.out.1 HT1.out.2.1 HT1.out.2.2 ?_
      rw [if_pos HM.out.symm]
      exact HQ3.out
    · obtain ⟨t', ht1, ht2, ht3, ht4, ht5, ht6⟩ := HTK.out (t.off + m) (fun h => by omega)
      rw [Nat.sub_self] at ht4 ht5
      have HT4 := Lib.hid ht4
      have HT5 := Lib.hid ht5
      have HT1 := Lib.hid (And.intro ht1 (And.intro ht2 ht3))
      have heq : (m == t.bs.length) = true := by rw [HM.out]; simp
      have HEQ := Lib.hid heq
      clear ht1 ht2 ht3 ht4 ht5 ht6 heq
      go_wp2_with fail
      refine (remove_any (k := 0) HT4.out (by simp) (by simp; omega)).mono ?_
      rintro e w3 ⟨rfl, hq3, ho3⟩
      have HQ3 := Lib.hid hq3
      have HO3 := Lib.hid ho3
      clear hq3 ho3
      go_wp2
      go_ret3
      refine TakeDoneG.intro HEQ.out HG2.out ((HBY.out.q HT5.out).q HO3.out) ((HQ2.out.trans HT5.out).trans HO3.out) t' HT1.out.1 HT1.out.2.1 HT1.out.2.2 ?_
      rw [if_pos HM.out.symm]
      exact HQ3.out
theorem take_ok {t : Txt} {r : List Txt} (n : Nat) (h : QRep B w p room last (t :: r)) (hr : 0 < room) (hn1 : 1 ≤ n) (hn2 : n ≤ t.bs.length) (hlen : t.bs.length ≤ 100000) (hrl : r.length ≤ 900) :
    Calls Try.prog 152 #[.pointer (some ⟨p, 0, none⟩), .int .i64 n] w (TakeDone B p last room t r n w) := by
  refine (take_okg n h hr hn1 hn2 hlen hrl).mono ?_
  rintro e w' ⟨g, h1, h2, h3, h4, t', k1, k2, k3, k4⟩
  exact ⟨g, h1, h2, h3, h4, t', k1, k2, k3.1, k4⟩
end
end Go.Proofs.Ytjonkpdjhjobfaa
namespace Go.Proofs.Ytjonkpdjhjobfaa
open Go.RowKit

section
variable {B p last : Nat} {room : Int} {ts : List Txt} {w : World}
set_option maxHeartbeats 400000 in
theorem qbytes_nil (w : World) : Calls Try.prog 89 #[.pointer none] w fun e w' => e = .returned (.int .i64 0) ∧ w = w' := by
  go_enter Try.func89, Try.ntmps89
  go_wp2_with (go_at_call 147; refine (none_nil _).mono ?_; rintro e _ ⟨rfl, rfl⟩)
  go_ret
  exact ⟨rfl, rfl⟩
set_option maxHeartbeats 400000 in
theorem clear_nil (w : World) : Calls Try.prog 90 #[.pointer none] w fun e w' => e = .returned (.slice none 0 0) ∧ w = w' := by
  go_enter Try.func90, Try.ntmps90
  go_wp2_with (go_at_call 147; refine (none_nil _).mono ?_; rintro e _ ⟨rfl, rfl⟩)
  go_ret
  exact ⟨rfl, rfl⟩
set_option maxHeartbeats 400000 in
theorem discard_nil (id : Int) (w : World) : Calls Try.prog 88 #[.pointer none, .int .u64 id] w fun e w' => e = .returned (.int .i64 6) ∧ w = w' := by
  go_enter Try.func88, Try.ntmps88
  go_wp2_with (go_at_call 147; refine (none_nil _).mono ?_; rintro e _ ⟨rfl, rfl⟩)
  go_ret
  exact ⟨rfl, rfl⟩
set_option maxHeartbeats 400000 in
theorem front_none (h : QRep B w p room last []) (hr : 0 < room) : Calls Try.prog 150 #[.pointer (some ⟨p, 0, none⟩)] w fun e w' => e = .returned (.tuple #[.int .u64 0, .slice none 0 0, .bool false]) ∧ w = w' := by
  obtain ⟨_, _, sv, hrow, hown, _⟩ := h
  obtain ⟨A1, cap, rfl, hcap, hmx⟩ := hown.shape
  have c2 := hrow.read (i := 2) rfl
  have HR := Lib.hid hrow
  clear hrow hown
  simp only [List.length_nil] at c2 hcap
  go_enter Try.func150, Try.ntmps150
  go_wp2_with (go_at_call 147; refine (none_not HR.out hr).mono ?_; rintro e _ ⟨rfl, rfl⟩)
  go_ret3
  exact ⟨rfl, rfl⟩

/-- the first text handed out -/
def FrontDone (t : Txt) (w : World) (e : Ending) (w' : World) : Prop :=
  ∃ g, e = .returned (.tuple #[.int .u64 t.id, .slice (some ⟨g, 0, none⟩) t.bs.length t.bs.length, .bool t.bg]) ∧ w.heap.size ≤ g ∧ QBytes w' g t.bs ∧ Below w.heap.size w w'

set_option maxRecDepth 100000 in
set_option maxHeartbeats 1600000 in
theorem front_ok {t : Txt} {r : List Txt} (h : QRep B w p room last (t :: r)) (hr : 0 < room) (h0 : 0 < t.bs.length) (hlen : t.bs.length ≤ 100000) :
    Calls Try.prog 150 #[.pointer (some ⟨p, 0, none⟩)] w (FrontDone t w) := by
  obtain ⟨hB, hB2, sv, hrow, hown, hl⟩ := h
  obtain ⟨g, cap, rfl, hcap, hmx⟩ := hown.form (by simp)
  have c2 := hrow.read (i := 2) rfl
  have HR := Lib.hid hrow
  have hcell := hown.cells (g := g) rfl
  have d0 := hcell 0 _ (txc_at (ts := t :: r) (i := 0) rfl).1
  have d1 := hcell 1 _ (txc_at (ts := t :: r) (i := 0) rfl).2.1
  have d2 := hcell 2 _ (txc_at (ts := t :: r) (i := 0) rfl).2.2
  unfold Txt.waits at d1
  obtain ⟨l1, l2, l3, _⟩ := id (hl t (List.mem_cons_self ..))
  have hsrc := (hl t (List.mem_cons_self ..)).src
  have hrr : (t :: r).length = r.length + 1 := rfl
  generalize (t :: r).length = N at *
  have hN : 0 < N := by omega
  have hN0 : ((N : Int) == 0) = false := by simp; omega
  unfold maxLen at hmx
  have HSRC := Lib.hid (hsrc.later (bl_alloc (Below.refl _ _) (.cells #[.int .u64 t.id, .slice (some ⟨t.g, t.off, none⟩) t.bs.length t.cap, .bool t.bg] 217)))
  have hbox := Row.made w 217 #[.int .u64 t.id, .slice (some ⟨t.g, t.off, none⟩) t.bs.length t.cap, .bool t.bg]
  have b0 := hbox.read (i := 0) (x := .int .u64 t.id) rfl
  have b1 := hbox.read (i := 1) (x := .slice (some ⟨t.g, t.off, none⟩) t.bs.length t.cap) rfl
  have b2 := hbox.read (i := 2) (x := .bool t.bg) rfl
  have HC := Lib.hid (fun W (hW : W = (w.alloc (.cells #[.int .u64 t.id, .slice (some ⟨t.g, t.off, none⟩) t.bs.length t.cap, .bool t.bg] 217)).drew) => qcopied_any (some ⟨t.g, t.off, none⟩) t.cap t.bs W (by rw [hW]; exact HSRC.out) h0 (by omega))
  clear hrow hown hcell hrr hl hsrc hbox
  go_enter Try.func150, Try.ntmps150
  go_wp2_with (go_at_call 147; refine (none_not HR.out hr).mono ?_; rintro e _ ⟨rfl, rfl⟩)
  go_region_held3 (fun w' => w'.cell? ⟨w.heap.size, 0, none⟩ = some (.int .u64 t.id) ∧ w'.cell? ⟨w.heap.size, 1, none⟩ = some (.slice (some ⟨t.g, t.off, none⟩) t.bs.length t.cap) ∧ w'.cell? ⟨w.heap.size, 2, none⟩ = some (.bool t.bg)) (first | go_keep | (exact ⟨kept_box (by assumption) (by assumption), kept_box (by assumption) (by assumption), kept_box (by assumption) (by assumption)⟩)) (first
    | (go_at_call 148; refine (HC.out _ rfl).mono ?_; rintro e w2 ⟨g2, rfl, hg2, hby, hb2⟩))
  have HF : Hid (FrontDone t w (.returned (.tuple #[.int .u64 t.id, .slice (some ⟨g2, 0, none⟩) t.bs.length t.bs.length, .bool t.bg])) w2) :=
    Lib.hid ⟨g2, rfl, by have : (w.alloc (.cells #[.int .u64 t.id, .slice (some ⟨t.g, t.off, none⟩) t.bs.length t.cap, .bool t.bg] 217)).heap.size ≤ g2 := hg2; simp at this; omega, hby, bl_step (bl_alloc (Below.refl _ _) _) (bl_step (bl_drew (Below.refl _ _)) hb2)⟩
  clear hg2 hby hb2
  go_wp2
  go_ret3
  exact HF.out

/-- what a Discard answers, and what is left -/
def discE (id : Nat) (ts : List Txt) : Int := match ts[placeF id ts]? with
  | none => 4
  | some t => if t.bg then 7 else 0
def discF (id : Nat) (ts : List Txt) : List Txt := match ts[placeF id ts]? with
  | none => ts
  | some t => if t.bg then ts else ts.eraseIdx (placeF id ts)

set_option maxRecDepth 100000 in
set_option maxHeartbeats 1600000 in
theorem discard_any (nid : Nat) (h : QRep B w p room last ts) (hr : 0 < room) (hn : ts.length ≤ 900) :
    Calls Try.prog 88 #[.pointer (some ⟨p, 0, none⟩), .int .u64 nid] w fun e w' => e = .returned (.int .i64 (discE nid ts)) ∧ QRep B w' p room last (discF nid ts) ∧ QOnly B w w' := by
  obtain ⟨hB, hB2, sv, hrow, hown, hl⟩ := id h
  have HQ := Lib.hid h
  have HR := Lib.hid hrow
  have HP := Lib.hid (place_any (id := nid) h)
  have hple := placeF_le nid ts
  have c2 := hrow.read (i := 2) rfl
  rcases Nat.lt_or_ge (placeF nid ts) ts.length with hlt | hge
  · obtain ⟨t, ht⟩ : ∃ t, ts[placeF nid ts]? = some t := ⟨_, List.getElem?_eq_getElem hlt⟩
    have HE := Lib.hid (show discE nid ts = if t.bg then 7 else 0 by unfold discE; rw [ht])
    have HF := Lib.hid (show discF nid ts = if t.bg then ts else ts.eraseIdx (placeF nid ts) by unfold discF; rw [ht])
    obtain ⟨g, cap, rfl, hcap, hmx⟩ := hown.form (by omega)
    unfold maxLen at hmx
    have d2 := hown.cells (g := g) rfl _ _ (txc_at ht).2.2
    have HREM := Lib.hid (remove_any (k := placeF nid ts) h hlt (by omega))
    rw [HE.out, HF.out]
    generalize placeF nid ts = P at *
    have hi0 : (0 : Int) ≤ (P : Int) := by omega
    have hi1 : (P : Int) < (ts.length : Int) := by omega
    have hne : ((P : Int) == (ts.length : Int)) = false := by simp; omega
    clear h hrow hown hl ht HE HF
    cases hbg : t.bg
    · rw [hbg] at d2
      clear hbg
      go_enter Try.func88, Try.ntmps88
      go_wp2_with (first
        | (go_at_call 147; refine (none_not HR.out hr).mono ?_; rintro e _ ⟨rfl, rfl⟩)
        | (go_at_call 165; refine (HP.out).mono ?_; rintro e _ ⟨rfl, rfl⟩)
        | (go_at_call 166; refine (HREM.out).mono ?_; rintro e w2 ⟨rfl, hq, ho⟩; have HQ2 := Lib.hid hq; have HO2 := Lib.hid ho; clear hq ho))
      go_ret
      exact ⟨rfl, HQ2.out, HO2.out⟩
    · rw [hbg] at d2
      clear hbg
      go_enter Try.func88, Try.ntmps88
      go_wp2_with (first
        | (go_at_call 147; refine (none_not HR.out hr).mono ?_; rintro e _ ⟨rfl, rfl⟩)
        | (go_at_call 165; refine (HP.out).mono ?_; rintro e _ ⟨rfl, rfl⟩))
      go_ret
      exact ⟨rfl, HQ.out, QOnly.refl _ _⟩
  · have hno : ts[placeF nid ts]? = none := List.getElem?_eq_none hge
    have HE := Lib.hid (show discE nid ts = 4 by unfold discE; rw [hno])
    have HF := Lib.hid (show discF nid ts = ts by unfold discF; rw [hno])
    obtain ⟨A1, cap, rfl, hcap, hmx⟩ := hown.shape
    unfold maxLen at hmx
    rw [HE.out, HF.out]
    generalize placeF nid ts = P at *
    have heq : ((P : Int) == (ts.length : Int)) = true := by simp; omega
    clear h hrow hown hl hno HE HF
    go_enter Try.func88, Try.ntmps88
    go_wp2_with (first
      | (go_at_call 147; refine (none_not HR.out hr).mono ?_; rintro e _ ⟨rfl, rfl⟩)
      | (go_at_call 165; refine (HP.out).mono ?_; rintro e _ ⟨rfl, rfl⟩))
    go_ret
    exact ⟨rfl, HQ.out, QOnly.refl _ _⟩
end
end Go.Proofs.Ytjonkpdjhjobfaa
