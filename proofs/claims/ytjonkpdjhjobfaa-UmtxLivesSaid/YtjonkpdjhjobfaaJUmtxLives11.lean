/-
  cut: a piece while it is built, and what Build does.
-/
import Derived.Test.YtjonkpdjhjobfaaJUmtxLives09
import Derived.Test.YtjonkpdjhjobfaaJUmtxLives10
namespace Go.Proofs.Ytjonkpdjhjobfaa
open Go.RowKit

/-- k texts go whole, and of the next one n bytes, if n is positive -/
structure Bld (room x : Int) (ls : List Nat) (k : Nat) (n : Int) : Prop where
  le : k ≤ ls.length
  whole : ∀ i l, i < k → ls[i]? = some l → nextF l (ls.take i) room x = l
  next : n = nextF (ls.getD k 0) (ls.take k) room x
  stop : n ≤ 0 ∨ (k < ls.length ∧ n < (ls.getD k 0 : Nat))
def lenT (ts : List Txt) : List Nat := ts.map fun t => t.bs.length
theorem length_lenT (ts : List Txt) : (lenT ts).length = ts.length := by simp [lenT]
theorem lenT_at {ts : List Txt} {k : Nat} {t : Txt} (h : ts[k]? = some t) : (lenT ts)[k]? = some t.bs.length := by simp [lenT, h]
theorem lenT_take (ts : List Txt) (k : Nat) : (lenT ts).take k = lenT (ts.take k) := by simp [lenT, List.map_take]
def headBg (ts : List Txt) : Bool := match ts with
  | [] => false
  | t :: _ => t.bg
def fiT (ts : List Txt) (n : Int) : Int := (if headBg ts then 2 else 0) + (if n ≤ 0 then 0 else 1)
theorem fiT_pos {ts : List Txt} {b : Bool} {n : Int} (h : headBg ts = b) (hn : 0 < n) : fiT ts n = (if b then 2 else 0) + 1 := by
  unfold fiT
  rw [h, if_neg (show ¬ n ≤ 0 by omega)]
theorem fiT_zero {ts : List Txt} {b : Bool} {n : Int} (h : headBg ts = b) (hn : n ≤ 0) : fiT ts n = (if b then 2 else 0) := by
  unfold fiT
  rw [h, if_pos hn]
  omega
def fieldsT (bss : List (List Nat)) (k : Nat) (n : Int) : List (List Nat) := bss.take k ++ (if n ≤ 0 then [] else [(bss.getD k []).take n.toNat])
/-- what waits behind it -/
def RestT (ts : List Txt) (k : Nat) (n : Int) (ts' : List Txt) : Prop :=
  (n ≤ 0 ∧ ts' = ts.drop k) ∨ (0 < n ∧ ∃ t t' : Txt, ts[k]? = some t ∧ t'.id = t.id ∧ t'.bs = t.bs.drop n.toNat ∧ (t'.bg = true ∧ t'.g = t.g) ∧ ts' = t' :: ts.drop (k + 1))
/-- what Build does that is not refused -/
def CutDone (B p last : Nat) (R : Int) (ts : List Txt) (room x : Int) (w : World) (e : Ending) (w' : World) : Prop :=
  ∃ k n ts', Bld room x (lenT ts) k n ∧ RestT ts k n ts' ∧ QRep B w' p R last ts' ∧ QOnly B w w' ∧
    ((k = 0 ∧ n ≤ 0 ∧ e = .returned (.tuple #[.agg #[.int .i64 0, .slice none 0 0, .slice none 0 0], .int .i64 4])) ∨
     ((0 < k ∨ 0 < n) ∧ ∃ A D L, e = .returned (.tuple #[.agg #[.int .i64 (fiT ts n), .slice A L.length L.length, .slice D k k], .int .i64 0]) ∧ texts L = fieldsT (ts.map Txt.bs) k n ∧
        (∃ c, NewRows w.heap.size w' (.slice A L.length c) L) ∧ ∃ c, NewIds w.heap.size w' (.slice D k c) ((ts.take k).map Txt.id)))
/-- a piece while it is built -/
structure CutI (B p last : Nat) (R : Int) (w0 : World) (p9 : Nat) (fi : Int) (F D : Value) (L : List RowB) (ids : List Nat) (rs : List Txt) (w : World) : Prop where
  q : QRep B w p R last rs
  only : QOnly B w0 w
  rows : NewRows w0.heap.size w F L
  ids : NewIds w0.heap.size w D ids
  res : Row w w0.heap.size 141 #[.int .i64 0, .slice none 0 0, .slice none 0 0]
  prow : Row w p9 141 #[.int .i64 fi, F, D]
  above : w0.heap.size < p9
section
variable {B p last p9 : Nat} {R : Int} {w0 w v : World} {fi : Int} {F D : Value} {L : List RowB} {ids : List Nat} {rs : List Txt}
theorem CutI.later (h : CutI B p last R w0 p9 fi F D L ids rs w) (hb : Below w.heap.size w v) : CutI B p last R w0 p9 fi F D L ids rs v :=
  ⟨h.q.later hb, h.only.trans (QOnly.of_below hb), h.rows.later hb, h.ids.later hb, h.res.later hb, h.prow.later hb, h.above⟩
/-- a step of the queue -/
theorem CutI.step {rs' : List Txt} (h : CutI B p last R w0 p9 fi F D L ids rs w) (ho : QOnly B w v) (hq : QRep B v p R last rs') : CutI B p last R w0 p9 fi F D L ids rs' v :=
  ⟨hq, h.only.trans ho, h.rows.q ho, h.ids.q ho, ho.row h.res (by decide) (by decide), ho.row h.prow (by decide) (by decide), h.above⟩
theorem QOnly.fresh {B g : Nat} {w0 w v : World} (h : QOnly B w0 w) (hg : w0.heap.size ≤ g) (ho : Only (fun k => k = g) w v) : QOnly B w0 v :=
  Only.andThen h ho (fun k hk e => by omega)
theorem CutI.store (h : CutI B p last R w0 p9 fi F D L ids rs w) (i : Nat) (u : Value) : QRep B (w.setCell ⟨p9, i, none⟩ u) p R last rs ∧ QOnly B w0 (w.setCell ⟨p9, i, none⟩ u) ∧ NewRows w0.heap.size (w.setCell ⟨p9, i, none⟩ u) F L ∧ NewIds w0.heap.size (w.setCell ⟨p9, i, none⟩ u) D ids ∧ Row (w.setCell ⟨p9, i, none⟩ u) w0.heap.size 141 #[.int .i64 0, .slice none 0 0, .slice none 0 0] := by
  have ho : Only (fun k => k = p9) w (w.setCell ⟨p9, i, none⟩ u) := (Only.refl (fun k => k = p9) w).set (p := ⟨p9, i, none⟩) (.inl rfl) _
  refine ⟨h.q.apart ho (fun k hk t cs hr => ?_), h.only.fresh (by have := h.above; omega) ho, h.rows.at h.prow (by decide) (by decide) ho, h.ids.at h.prow (by decide) ho, h.res.only ho (by have := h.above; omega)⟩
  subst hk
  have e := qrow_same h.prow hr
  subst e
  exact ⟨by decide, by decide, by decide⟩
theorem CutI.setfi (h : CutI B p last R w0 p9 fi F D L ids rs w) (z : Int) : CutI B p last R w0 p9 z F D L ids rs (w.setCell ⟨p9, 0, none⟩ (.int .i64 z)) := by
  obtain ⟨h1, h2, h3, h4, h5⟩ := h.store 0 (.int .i64 z)
  exact ⟨h1, h2, h3, h4, h5, h.prow.written 0 _, h.above⟩
/-- a list of fields grows -/
theorem CutI.grow {e : TypeId} {x : Value} {n : Nat} {xs : List Value} (h : CutI B p last R w0 p9 fi F D L ids rs w) (hx : w.ownsRow w0.heap.size e 1 x n xs) (he : e ≠ 141) (he2 : e ≠ 214) (he3 : e ≠ 217) (he4 : e ≠ 5) (ho : Only (fun k => x.ownBlock = some k) w v) :
    QRep B v p R last rs ∧ QOnly B w0 v ∧ Row v w0.heap.size 141 #[.int .i64 0, .slice none 0 0, .slice none 0 0] ∧ Row v p9 141 #[.int .i64 fi, F, D] := by
  refine ⟨h.q.apart ho (fun k hk t cs hr => ?_), Only.andThen h.only ho (fun k hk hk2 => ?_), h.res.only ho (own_apart hx h.res he), h.prow.only ho (own_apart hx h.prow he)⟩
  · have key : ∀ t : TypeId, e ≠ t → ∀ cs, ¬ Row w k t cs := fun t hne cs hr => own_apart hx hr hne hk
    refine ⟨fun e => ?_, fun e => ?_, fun e => ?_⟩ <;> (subst e; exact key _ (by assumption) _ hr)
  · have := (own_block hx k hk2).1
    omega
theorem CutI.addRow (h : CutI B p last R w0 p9 fi F D L ids rs w) (r : RowB) (hL : L.length ≤ 1000) (hr : RowNew w0.heap.size w r) :
    ∃ A' c' w2, (Builtin.append_ #[48, 48] 48 #[F, .slice (some ⟨w.heap.size, 0, none⟩) 1 1]).run Try.prog (w.alloc (.cells #[r.v] 38)) = .ok (.slice A' (L.length + 1) c') w2 ∧
      Row w2 p9 141 #[.int .i64 fi, F, D] ∧ CutI B p last R w0 p9 fi (.slice A' (L.length + 1) c') D (L ++ [r]) ids rs (w2.setCell ⟨p9, 1, none⟩ (.slice A' (L.length + 1) c')) := by
  obtain ⟨A', c', w2, h1, h2, h3⟩ := h.rows.next r h.only.size hL hr
  obtain ⟨k1, k2, k3, k4⟩ := h.grow h.rows.1 (by decide) (by decide) (by decide) (by decide) h3
  have k5 : NewIds w0.heap.size w2 D ids := h.ids.only h3 (fun g cs hr _ hg => own_apart h.rows.1 hr (by decide) hg)
  have hI : CutI B p last R w0 p9 fi F D L ids rs w2 → True := fun _ => trivial
  have ho : Only (fun k => k = p9) w2 (w2.setCell ⟨p9, 1, none⟩ (.slice A' (L.length + 1) c')) := (Only.refl (fun k => k = p9) w2).set (p := ⟨p9, 1, none⟩) (.inl rfl) _
  refine ⟨A', c', w2, h1, k4, ?_, k2.fresh (by have := h.above; omega) ho, h2.at k4 (by decide) (by decide) ho, k5.at k4 (by decide) ho, k3.only ho (by have := h.above; omega), k4.written 1 _, h.above⟩
  refine k1.apart ho (fun k hk t cs hr => ?_)
  subst hk
  have e := qrow_same k4 hr
  subst e
  exact ⟨by decide, by decide, by decide⟩
theorem CutI.addId (h : CutI B p last R w0 p9 fi F D L ids rs w) (i : Nat) (hL : ids.length ≤ 1000) :
    ∃ A' c' w2, (Builtin.append_ #[39, 39] 39 #[D, .slice (some ⟨w.heap.size, 0, none⟩) 1 1]).run Try.prog (w.alloc (.cells #[.int .u64 i] 35)) = .ok (.slice A' (ids.length + 1) c') w2 ∧
      Row w2 p9 141 #[.int .i64 fi, F, D] ∧ CutI B p last R w0 p9 fi F (.slice A' (ids.length + 1) c') L (ids ++ [i]) rs (w2.setCell ⟨p9, 2, none⟩ (.slice A' (ids.length + 1) c')) := by
  obtain ⟨A', c', w2, h1, h2, h3⟩ := h.ids.next i h.only.size hL
  obtain ⟨k1, k2, k3, k4⟩ := h.grow h.ids (by decide) (by decide) (by decide) (by decide) h3
  have k5 : NewRows w0.heap.size w2 F L := h.rows.only h3 (fun g t cs hr ht _ hg => by
    rcases ht with rfl | rfl
    · exact own_apart h.ids hr (by decide) hg
    · exact own_apart h.ids hr (by decide) hg)
  have ho : Only (fun k => k = p9) w2 (w2.setCell ⟨p9, 2, none⟩ (.slice A' (ids.length + 1) c')) := (Only.refl (fun k => k = p9) w2).set (p := ⟨p9, 2, none⟩) (.inl rfl) _
  refine ⟨A', c', w2, h1, k4, ?_, k2.fresh (by have := h.above; omega) ho, k5.at k4 (by decide) (by decide) ho, h2.at k4 (by decide) ho, k3.only ho (by have := h.above; omega), k4.written 2 _, h.above⟩
  refine k1.apart ho (fun k hk t cs hr => ?_)
  subst hk
  have e := qrow_same k4 hr
  subst e
  exact ⟨by decide, by decide, by decide⟩
end

/-- the first text whole -/
def TakeAll (B p last : Nat) (R : Int) (t : Txt) (r : List Txt) (w : World) (e : Ending) (w' : World) : Prop :=
  ∃ g, e = .returned (.tuple #[.slice (some ⟨g, 0, none⟩) t.bs.length t.bs.length, .bool true, .int .i64 0]) ∧ w.heap.size ≤ g ∧ QBytes w' g t.bs ∧ QOnly B w w' ∧ QRep B w' p R last r
theorem take_whole {B p last : Nat} {R : Int} {t : Txt} {r : List Txt} {w : World} (h : QRep B w p R last (t :: r)) (hr : 0 < R) (h0 : 0 < t.bs.length) (hlen : t.bs.length ≤ 100000) (hrl : r.length ≤ 900) :
    Calls Try.prog 152 #[.pointer (some ⟨p, 0, none⟩), .int .i64 t.bs.length] w (TakeAll B p last R t r w) := by
  refine (take_ok t.bs.length h hr h0 (Nat.le_refl _) hlen hrl).mono ?_
  rintro e w' ⟨g, rfl, h1, h2, h3, t', _, _, _, h4⟩
  rw [if_pos rfl] at h4
  rw [List.take_length] at h2
  exact ⟨g, by simp, h1, h2, h3, h4⟩
/-- some of the first text -/
def TakeSome (B p last : Nat) (R : Int) (t : Txt) (r : List Txt) (n : Nat) (w : World) (e : Ending) (w' : World) : Prop :=
  ∃ g, e = .returned (.tuple #[.slice (some ⟨g, 0, none⟩) n n, .bool false, .int .i64 0]) ∧ w.heap.size ≤ g ∧ QBytes w' g (t.bs.take n) ∧ QOnly B w w' ∧ ∃ t' : Txt, t'.id = t.id ∧ t'.bs = t.bs.drop n ∧ (t'.bg = true ∧ t'.g = t.g) ∧ QRep B w' p R last (t' :: r)
theorem take_some {B p last : Nat} {R : Int} {t : Txt} {r : List Txt} {w : World} (n : Nat) (h : QRep B w p R last (t :: r)) (hr : 0 < R) (h0 : 1 ≤ n) (h1 : n < t.bs.length) (hlen : t.bs.length ≤ 100000) (hrl : r.length ≤ 900) :
    Calls Try.prog 152 #[.pointer (some ⟨p, 0, none⟩), .int .i64 n] w (TakeSome B p last R t r n w) := by
  refine (take_okg n h hr h0 (by omega) hlen hrl).mono ?_
  rintro e w' ⟨g, rfl, h1, h2, h3, t', k1, k2, k3, h4⟩
  rw [if_neg (by omega)] at h4
  have e : (n == t.bs.length) = false := by simp; omega
  exact ⟨g, by rw [e], h1, h2, h3, t', k1, k2, k3, h4⟩
section
variable {B p last p9 k a b c dc : Nat} {R room x n : Int} {w0 w : World} {fi : Int} {A DA : Option Addr} {L : List RowB} {ids : List Nat} {rs ts : List Txt}
/-- what holds whatever becomes of the result's own memory -/
structure CutEnd (B p last : Nat) (R : Int) (w0 : World) (F D : Value) (L : List RowB) (ids : List Nat) (rs : List Txt) (v : World) : Prop where
  q : QRep B v p R last rs
  only : QOnly B w0 v
  rows : NewRows w0.heap.size v F L
  ids : NewIds w0.heap.size v D ids
theorem CutI.close (h : CutI B p last R w0 p9 fi (.slice A a c) (.slice DA b dc) L ids rs w) :
    Row ((w.setCell ⟨p9, 1, none⟩ (.slice A a a)).setCell ⟨p9, 2, none⟩ (.slice DA b b)).drew p9 141 #[.int .i64 fi, .slice A a a, .slice DA b b] ∧
      Row ((w.setCell ⟨p9, 1, none⟩ (.slice A a a)).setCell ⟨p9, 2, none⟩ (.slice DA b b)).drew w0.heap.size 141 #[.int .i64 0, .slice none 0 0, .slice none 0 0] ∧
      ∀ v, Only (fun k => k = w0.heap.size) ((w.setCell ⟨p9, 1, none⟩ (.slice A a a)).setCell ⟨p9, 2, none⟩ (.slice DA b b)).drew v → CutEnd B p last R w0 (.slice A a c) (.slice DA b dc) L ids rs v := by
  have hne : w0.heap.size ≠ p9 := by have := h.above; omega
  refine ⟨(h.prow.written 1 _).written 2 _, (h.res.elsewhere (p := ⟨p9, 1, none⟩) hne _).elsewhere (p := ⟨p9, 2, none⟩) hne _, fun v hv => ?_⟩
  have ho1 : Only (fun k => k = p9) w (w.setCell ⟨p9, 1, none⟩ (.slice A a a)) := (Only.refl (fun k => k = p9) w).set (p := ⟨p9, 1, none⟩) (.inl rfl) _
  have ho2 : Only (fun k => k = p9) w ((w.setCell ⟨p9, 1, none⟩ (.slice A a a)).setCell ⟨p9, 2, none⟩ (.slice DA b b)).drew := (ho1.set (p := ⟨p9, 2, none⟩) (.inl rfl) _).drew
  have ho : Only (fun k => k = p9 ∨ k = w0.heap.size) w v := (ho2.weaker (T := fun k => k = p9 ∨ k = w0.heap.size) (fun k _ hk => .inl hk)).andThen hv (fun k _ hk => .inr hk)
  have key : ∀ k t cs, (k = p9 ∨ k = w0.heap.size) → Row w k t cs → t = 141 := by
    rintro k t cs (rfl | rfl) hr
    · exact (qrow_same h.prow hr).symm
    · exact (qrow_same h.res hr).symm
  refine ⟨h.q.apart ho (fun k hk t cs hr => ?_), Only.andThen h.only ho (fun k hk hk2 => by have := h.above; omega), h.rows.only ho (fun g t cs hr ht _ hg => ?_), h.ids.only ho (fun g cs hr _ hg => ?_)⟩
  · have e := key k t cs hk hr
    subst e
    exact ⟨by decide, by decide, by decide⟩
  · have e := key g t cs hg hr
    subst e
    rcases ht with ht | ht <;> revert ht <;> decide
  · have e := key g _ cs hg hr
    revert e
    decide
theorem cutdone_ok (hB : Bld room x (lenT ts) k n) (hR : RestT ts k n rs) (hkn : 0 < k ∨ 0 < n) (hfi : fi = fiT ts n) (hL : L.length = a) (htx : texts L = fieldsT (ts.map Txt.bs) k n) (hE : CutEnd B p last R w0 (.slice A a c) (.slice DA k dc) L ((ts.take k).map Txt.id) rs w) :
    CutDone B p last R ts room x w0 (.returned (.tuple #[.agg #[.int .i64 fi, .slice A a a, .slice DA k k], .int .i64 0])) w := by
  subst hL hfi
  exact ⟨k, n, rs, hB, hR, hE.q, hE.only, .inr ⟨hkn, A, DA, L, rfl, htx, ⟨c, hE.rows⟩, dc, hE.ids⟩⟩
end
theorem cutdone_none {B p last p9 : Nat} {R room x n fi : Int} {w0 w : World} {F D : Value} {L : List RowB} {ids : List Nat} {ts : List Txt} (hB : Bld room x (lenT ts) 0 n) (hn : n ≤ 0) (h : CutI B p last R w0 p9 fi F D L ids (ts.drop 0) w) (u0 u1 u2 : Value) :
    CutDone B p last R ts room x w0 (.returned (.tuple #[.agg #[.int .i64 0, .slice none 0 0, .slice none 0 0], .int .i64 4])) (((w.setCell ⟨w0.heap.size, 0, none⟩ u0).setCell ⟨w0.heap.size, 1, none⟩ u1).setCell ⟨w0.heap.size, 2, none⟩ u2) := by
  have ho : Only (fun k => k = w0.heap.size) w (((w.setCell ⟨w0.heap.size, 0, none⟩ u0).setCell ⟨w0.heap.size, 1, none⟩ u1).setCell ⟨w0.heap.size, 2, none⟩ u2) := (((Only.refl (fun k => k = w0.heap.size) w).set (p := ⟨w0.heap.size, 0, none⟩) (.inl rfl) _).set (p := ⟨w0.heap.size, 1, none⟩) (.inl rfl) _).set (p := ⟨w0.heap.size, 2, none⟩) (.inl rfl) _
  refine ⟨0, n, ts.drop 0, hB, .inl ⟨hn, rfl⟩, h.q.apart ho (fun k hk t cs hr => ?_), h.only.fresh (Nat.le_refl _) ho, .inl ⟨rfl, hn, rfl⟩⟩
  subst hk
  have e := qrow_same h.res hr
  subst e
  exact ⟨by decide, by decide, by decide⟩
end Go.Proofs.Ytjonkpdjhjobfaa
