/-
  CutFits: what the statement keeps beside its queue. Pieces of texts: what the statement's helper keeps. How lists of numbers of 16 bits that a statement draws read. CutFits walked. Pieces of texts: the statement's helper walked. Pieces of texts: at most 20 texts.
-/
import Derived.Test.YtjobgnemklpiaaaJGlueLoses22
import Derived.Test.YtjobgnemklpiaaaJGlueLoses11
import Derived.StillTailTactics
import Derived.Deep.RegionHeld3
namespace Go.Proofs.Ytjobgnemklpiaaa
open Go.RowKit

theorem own_q2 {B B' e size n : Nat} {w w' : World} {v : Value} {xs : List Value} (h : w.ownsRow B' e size v n xs) (h1 : e ≠ 77) (h2 : e ≠ 167) (ho : QOnly B w w') : w'.ownsRow B' e size v n xs :=
  own_only h ho fun k hk ⟨_, t, cs, hr, ht⟩ => by
    refine own_apart h hr (fun e => ?_) hk
    subst e
    rcases ht with ht | ht
    · exact h1 ht
    · exact h2 ht
/-- the first text, if there is one -/
theorem QS.front {B p last : Nat} {R : Int} {w : World} {ts : List Txt} (h : QS B p R w last ts) (hr : 0 < R) :
    Calls Try.prog 45 #[.pointer (some ⟨p, 0, none⟩)] w fun e w' => (∃ (id : Nat) (A : Option Addr) (n c : Nat), e = .returned (.tuple #[.int .u64 id, .slice A n c, .bool (headBg ts)])) ∧ Below w.heap.size w w' := by
  rcases ts with _ | ⟨t, r⟩
  · refine (front_none h.q hr).mono ?_
    rintro e w' ⟨rfl, rfl⟩
    exact ⟨⟨0, none, 0, 0, rfl⟩, Below.refl _ _⟩
  · have hb := h.bytes t (List.mem_cons_self ..)
    refine (front_ok h.q hr hb.1 (by omega)).mono ?_
    rintro e w' ⟨g, rfl, _, _, hb⟩
    exact ⟨⟨t.id, _, _, _, rfl⟩, hb⟩
/-- the statement's lists: all that was pushed, what was got -/
structure CF (W : World) (p last : Nat) (ts : List Txt) (all : Value) (allB : List Nat) (got : Value) (g : List Nat) (wr : World) : Prop where
  q : QS p p 20000 wr last ts
  allY : OwnY p wr all allB
  gotY : OwnY p wr got g
  c1 : Clear ts all
  c2 : Clear ts got
  ne : ∀ k, all.ownBlock = some k → got.ownBlock ≠ some k
  below : Below p W wr
  base : p = W.heap.size
section
variable {W w v : World} {p last : Nat} {ts : List Txt} {all got : Value} {allB g : List Nat}
theorem own_row5 {B : Nat} {v : Value} {l : List Nat} (h : OwnY B w v l) : ∀ k, v.ownBlock = some k → ∀ t cs, Row w k t cs → t = 5 := by
  intro k hk t cs hr
  rcases Nat.decEq 5 t with h1 | h1
  · exact absurd hk (own_apart h hr h1)
  · exact h1.symm
theorem CF.later (h : CF W p last ts all allB got g w) (hb : Below w.heap.size w v) : CF W p last ts all allB got g v :=
  ⟨h.q.later hb, h.allY.later hb, h.gotY.later hb, h.c1, h.c2, h.ne, h.below.trans (hb.mono h.q.q.2.1), h.base⟩
theorem CF.step {last' : Nat} {ts' : List Txt} (h : CF W p last ts all allB got g w) (ho : QOnly p w v) (hq : QS p p 20000 v last' ts') (h1 : Clear ts' all) (h2 : Clear ts' got) : CF W p last' ts' all allB got g v :=
  ⟨hq, own_q2 h.allY (by decide) (by decide) ho, own_q2 h.gotY (by decide) (by decide) ho, h1, h2, h.ne, h.below.trans (ho.below h.q.q.2.1), h.base⟩
theorem OwnY.inside {B : Nat} {v : Value} {l : List Nat} (h : OwnY B w v l) : ∀ k, v.ownBlock = some k → k < w.heap.size := fun k hk => (own_block h k hk).2
theorem waitB_snoc (ts : List Txt) (t : Txt) : waitB (ts ++ [t]) = waitB ts ++ t.bs := by simp [waitB]
theorem QRep.in5 {B p last : Nat} {R : Int} {ts : List Txt} (h : QRep B w p R last ts) : ∀ t ∈ ts, t.g < w.heap.size := by
  obtain ⟨_, _, _, _, _, h5⟩ := h
  intro t ht
  obtain ⟨_, _, _, cs, h4, _⟩ := h5 t ht
  exact h4.inside
/-- bytes are put behind a list of the statement's own -/
theorem CF.grow {x : Value} {l y : List Nat} {A : Option Addr} (hq : QS p p 20000 w last ts) (hx : OwnY p w x l) (hc : Clear ts x) (m c : Nat) (hs : Src w A (bts y)) (hm : y.length = m) (hlm : l.length + m ≤ 1000000) :
    ∃ A' c' w', (Builtin.append_ #[61, 61] 61 #[x, .slice A m c]).run Try.prog w = .ok (.slice A' (l.length + m) c') w' ∧ OwnY p w' (.slice A' (l.length + m) c') (l ++ y) ∧ Only (fun k => x.ownBlock = some k) w w' ∧
      QS p p 20000 w' last ts ∧ Clear ts (.slice A' (l.length + m) c') ∧ ((Value.slice A' (l.length + m) c').ownBlock = x.ownBlock ∨ (Value.slice A' (l.length + m) c').ownBlock = some w.heap.size) := by
  obtain ⟨A', c', w', h1, h2, h3, h4, h5⟩ := app_bytes m c hx hq.q.2.1 hs hm (by omega)
  refine ⟨A', c', w', h1, h2, h4, hq.with (hq.q.beside h4 (fun k hk t cs hr => ⟨own_row5 hx k hk t cs hr, fun x hx e => hc x hx (by rw [e]; exact hk)⟩)), fun t ht => ?_, h5⟩
  rcases h5 with h5 | h5
  · rw [h5]; exact hc t ht
  · rw [h5]
    intro e
    injection e with e
    have := hq.q.in5 t ht
    omega
theorem CF.push (h : CF W p last ts all (waitB ts) (.slice none 0 0) [] w) (r : RowB) (hr : r.ok W) (hlast : last ≤ 100) :
    Calls Try.prog 36 #[.pointer (some ⟨p, 0, none⟩), .slice r.A r.bs.length r.cap] w fun e w' =>
      (∃ er : Int, e = .returned (.tuple #[.int .u64 0, .int .i64 er]) ∧ er ≠ 0 ∧ CF W p last ts all (waitB ts) (.slice none 0 0) [] w') ∨
      (∃ nid : Nat, e = .returned (.tuple #[.int .u64 nid, .int .i64 0]) ∧ Below p W w' ∧ ∃ A n c, all = .slice A n c ∧ ∃ A' c' w2 t, (Builtin.append_ #[61, 61] 61 #[.slice A n c, .slice r.A r.bs.length r.cap]).run Try.prog w' = .ok (.slice A' (n + r.bs.length) c') w2 ∧
        CF W p (last + 1) (ts ++ [t]) (.slice A' (n + r.bs.length) c') (waitB (ts ++ [t])) (.slice none 0 0) [] w2) := by
  have hlen := hr.2.1
  have hcap := hr.2.2.1
  refine (h.q.push r.A r.bs r.cap (by omega) (by omega) (by omega) (by omega) hr.2.2.2 (fun V hV => src_qsrc (src_later hr.1 ((h.below.trans (hV.below h.q.q.2.1)).mono (Nat.le_of_eq h.base.symm))))).mono ?_
  rintro e w' ⟨nid, er, rfl, ho, ⟨rfl, rfl, h1, h2, h3, h4, t, k1, k2, ⟨k3, k35⟩, k4⟩ | ⟨h1, rfl, h2, _⟩⟩
  · refine .inr ⟨last + 1, rfl, h.below.trans (ho.below h.q.q.2.1), ?_⟩
    obtain ⟨A, c, ea, _⟩ := h.allY.form
    have hc : Clear (ts ++ [t]) all := by
      intro y hy
      rw [List.mem_append, List.mem_singleton] at hy
      rcases hy with hy | rfl
      · exact h.c1 y hy
      · intro e9
        have := h.allY.inside _ e9
        omega
    have hbl := h.below.trans (ho.below h.q.q.2.1)
    have hsm := length_waitB ts
    have hsm2 := h.q.small
    obtain ⟨A', c', w2, g1, g2, g3, g4, g5, g6⟩ := CF.grow k4 (own_q2 h.allY (by decide) (by decide) ho) hc r.bs.length r.cap (src_later hr.1 (hbl.mono (Nat.le_of_eq h.base.symm))) rfl (by omega)
    refine ⟨A, (waitB ts).length, c, ea, A', c', w2, t, by rw [ea] at g1; exact g1, ?_⟩
    have hon : Below p w' w2 := own_only_below (own_q2 h.allY (by decide) (by decide) ho) g3 k4.q.2.1
    refine ⟨g4, ?_, World.ownsRow_nil _ _ _ _, g5, fun t _ => by simp [Value.ownBlock], fun k _ => by simp [Value.ownBlock], hbl.trans hon, h.base⟩
    have e9 : (waitB (ts ++ [t])) = waitB ts ++ r.bs := by rw [waitB_snoc, k2]
    rw [e9]
    exact g2
  · exact .inl ⟨er, rfl, h1, h.step ho h2 h.c1 h.c2⟩
theorem own_two_apart {B B' e e' s s' n n' : Nat} {x y : Value} {xs ys : List Value} (h : w.ownsRow B e s x n xs) (h' : w.ownsRow B' e' s' y n' ys) (hne : e ≠ e') : ∀ k, x.ownBlock = some k → y.ownBlock ≠ some k := by
  intro k hk
  rcases h.2 with ⟨rfl, _⟩ | ⟨g, cap, cur, rfl, _, hh, _⟩
  · simp [Value.ownBlock] at hk
  · have e9 : g = k := by simpa [Value.ownBlock] using hk
    subst e9
    exact own_apart h' (show Row w g e cur from hh) (fun e9 => hne e9.symm)
/-- fields' blocks are none of a value's -/
def ApartB (L : List RowB) (v : Value) : Prop := ∀ r ∈ L, ∀ k, r.A = some ⟨k, 0, none⟩ → v.ownBlock ≠ some k
theorem NewRows.beside {m : Nat} {x : Value} {L : List RowB} {S : Nat → Prop} (h : NewRows m w x L) (ho : Only S w v) (h1 : ∀ k, x.ownBlock = some k → ¬ S k) (h2 : ∀ r ∈ L, ∀ k, r.A = some ⟨k, 0, none⟩ → ¬ S k) : NewRows m v x L := by
  refine ⟨own_only h.1 ho h1, fun r hr => ?_⟩
  obtain ⟨k, g1, g2, g3, g4⟩ := h.2 r hr
  exact ⟨k, g1, g2, g3.only ho (h2 r hr k g1), g4⟩
/-- behind k fields -/
structure CF3 (W : World) (p last : Nat) (ts : List Txt) (all : Value) (allB : List Nat) (m b : Nat) (cs : Array Value) (F : Value) (L : List RowB) (D : Value) (ids : List Nat) (g0 : List Nat) (k : Nat) (got : Value) (wr : World) : Prop where
  cf : CF W p last ts all allB got (g0 ++ flatTo L k) wr
  rows : NewRows m wr F L
  ids : NewIds m wr D ids
  box : Row wr b 91 cs
  apart : ApartB L got
theorem flatTo_le (L : List RowB) (k : Nat) : (flatTo L k).length ≤ (lens L).sum := by
  rw [length_flatTo]
  exact sumTo_le _ _
theorem CF3.next {m b : Nat} {cs : Array Value} {F D : Value} {L : List RowB} {ids g0 : List Nat} {k : Nat} {r : RowB} (h : CF3 W p last ts all allB m b cs F L D ids g0 k got w) (hr : L[k]? = some r) (hs : g0.length + (lens L).sum ≤ 100000) :
    ∃ A n c, got = .slice A n c ∧ ∃ A' c' w2, (Builtin.append_ #[61, 61] 61 #[.slice A n c, .slice r.A r.bs.length r.cap]).run Try.prog w = .ok (.slice A' (n + r.bs.length) c') w2 ∧
      CF3 W p last ts all allB m b cs F L D ids g0 (k + 1) (.slice A' (n + r.bs.length) c') w2 := by
  obtain ⟨A, c, ea, _⟩ := h.cf.gotY.form
  have hm := List.mem_of_getElem? hr
  have hrow := h.rows.2 r hm
  have h1 := flatTo_le L k
  have h2 := flatTo_le L (k + 1)
  have h3 := flatTo_succ hr
  have h4 : (g0 ++ flatTo L k).length + r.bs.length ≤ 1000000 := by
    rw [h3, List.length_append] at h2
    rw [List.length_append]
    omega
  obtain ⟨A', c', w2, g1, g2, g3, g4, g5, g6⟩ := CF.grow h.cf.q h.cf.gotY h.cf.c2 r.bs.length r.cap hrow.ok.1 rfl h4
  refine ⟨A, _, c, ea, A', c', w2, by rw [ea] at g1; exact g1, ?_⟩
  have hne : ∀ k, all.ownBlock = some k → ¬ got.ownBlock = some k := fun k hk => h.cf.ne k hk
  refine ⟨⟨g4, h.cf.allY.only g3 (fun k hk hk2 => hne k hk hk2), by rw [h3, ← List.append_assoc]; exact g2, h.cf.c1, g5, fun k hk => ?_, h.cf.below.trans (own_only_below h.cf.gotY g3 h.cf.q.q.2.1), h.cf.base⟩, h.rows.beside g3 (fun k hk hk2 => ?_) (fun y hy k hk hk2 => h.apart y hy k hk hk2), h.ids.only g3 (fun g cs hc _ hk => own_apart h.cf.gotY hc (by decide) hk), h.box.only g3 (own_apart h.cf.gotY h.box (by decide)), fun y hy k hk => ?_⟩
  · rcases g6 with g6 | g6
    · rw [g6]; exact h.cf.ne k hk
    · rw [g6]
      intro e
      injection e with e
      have := h.cf.allY.inside k hk
      omega
  · exact own_two_apart h.rows.1 h.cf.gotY (by decide) k hk hk2
  · rcases g6 with g6 | g6
    · rw [g6]; exact h.apart y hy k hk
    · rw [g6]
      intro e
      injection e with e
      obtain ⟨k', q1, _, q3, _⟩ := h.rows.2 y hy
      rw [hk] at q1
      injection q1 with q1
      injection q1 with q1
      have := q3.inside
      omega
end
end Go.Proofs.Ytjobgnemklpiaaa
namespace Go.Proofs.Ytjobgnemklpiaaa
open Go.RowKit

theorem keep_tail2 {B : Nat} {w : World} {kv : Value} {L : List RowB} (h : w.ownsRow B 61 1 kv L.length (L.map RowB.v)) (r : RowB) (hB : B ≤ w.heap.size) (hL : L.length ≤ 1000) :
    ∃ A' c' w2, (Builtin.append_ #[57, 57] 57 #[kv, .slice (some ⟨w.heap.size, 0, none⟩) 1 1]).run Try.prog (w.alloc (.cells #[r.v] 61)) = .ok (.slice A' (L.length + 1) c') w2 ∧
      w2.ownsRow B 61 1 (.slice A' (L.length + 1) c') (L.length + 1) ((L ++ [r]).map RowB.v) ∧ Only (fun k => kv.ownBlock = some k) w w2 := by
  obtain ⟨i0, hi, hi0, hi1, hi2⟩ := info_parts Try.info61
  have hbA := bl_alloc (Below.refl w.heap.size w) (.cells #[r.v] 61)
  have a4' := own_later2 h hbA
  obtain ⟨v', w2, hrun, hown, hgr, _, hat⟩ := run_append_own_at (P := Try.prog) (w := w.alloc (.cells #[r.v] 61)) B 57 57 61 i0 _ 1 24 Try.underlying57 hi hi0 hi1 hi2 rfl (by omega) kv L.length (L.map RowB.v) a4' ⟨w.heap.size, 0, none⟩ 1 1 [r.v] rfl
    (fun j u hu => by
      match j, hu with
      | 0, hu =>
        simp only [List.getElem?_cons_zero, Option.some.injEq] at hu
        subst hu
        rw [add_zero_q]
        exact (Row.made w 61 #[r.v]).read rfl
      | j + 1, hu => simp at hu) (by intro u hu; simp at hu; subst hu; rfl) (by unfold maxLen; omega) (by omega) (by have := hbA.size; omega)
  have hon : Only (fun k => kv.ownBlock = some k) w w2 := (Only.of_below hbA).andThen ((Only.refl _ _).grown hgr (fun k hk => .inl hk) : Only (fun k => kv.ownBlock = some k) _ _) (fun k _ hk => hk)
  obtain ⟨A', c', rfl⟩ : ∃ A' c', v' = .slice A' (L.length + 1) c' := by
    rcases hown.2 with ⟨_, e⟩ | ⟨g, cap, cur, e, _⟩
    · omega
    · exact ⟨some ⟨g, 0, none⟩, cap, e⟩
  exact ⟨A', c', w2, hrun, by rw [List.map_append]; exact hown, hon⟩
theorem own_form {B e s n : Nat} {w : World} {v : Value} {xs : List Value} (h : w.ownsRow B e s v n xs) : ∃ A c, v = .slice A n c ∧ n ≤ c := by
  rcases h.2 with ⟨rfl, e⟩ | ⟨g, cap, cur, rfl, _, _, h1, _⟩
  · exact ⟨none, 0, by rw [e], by omega⟩
  · exact ⟨_, cap, rfl, h1⟩
section
variable {W w v : World} {p last : Nat} {ts : List Txt} {kept out : Value} {K : List RowB} {P : List Pc}
/-- a list that is none of a queue's grows -/
theorem QS.other {B e s n : Nat} {R : Int} {x : Value} {xs : List Value} (h : QS B p R w last ts) (hx : w.ownsRow B e s x n xs) (h1 : e ≠ 77) (h2 : e ≠ 167) (h3 : e ≠ 5) (ho : Only (fun k => x.ownBlock = some k) w v) : QS B p R v last ts :=
  h.with (h.q.apart ho (fun k hk t cs hr => by
    have key : ∀ t : TypeId, e ≠ t → ∀ ds, ¬ Row w k t ds := fun t hne ds hr => own_apart hx hr hne hk
    refine ⟨fun e => ?_, fun e => ?_, fun e => ?_⟩ <;> (subst e; exact key _ (by assumption) _ hr)))
/-- while texts are pushed -/
structure CK (W : World) (p last : Nat) (ts : List Txt) (kept : Value) (K : List RowB) (wr : World) : Prop where
  q : QS p p 20000 wr last ts
  keep : wr.ownsRow p 61 1 kept K.length (K.map RowB.v)
  same : ts.map Txt.bs = K.map RowB.bs
  ok : ∀ r ∈ K, r.ok W
  noBg : ∀ t ∈ ts, t.bg = false
  below : Below p W wr
  base : p = W.heap.size
theorem CK.push (h : CK W p last ts kept K w) (r : RowB) (hr : r.ok W) (hlast : last ≤ 100) :
    Calls Try.prog 36 #[.pointer (some ⟨p, 0, none⟩), .slice r.A r.bs.length r.cap] w fun e w' =>
      (∃ er : Int, e = .returned (.tuple #[.int .u64 0, .int .i64 er]) ∧ er ≠ 0 ∧ CK W p last ts kept K w') ∨
      (∃ nid : Nat, e = .returned (.tuple #[.int .u64 nid, .int .i64 0]) ∧ Below p W w' ∧ ∃ A n c, kept = .slice A n c ∧ ∃ A' c' w2 t, (Builtin.append_ #[57, 57] 57 #[.slice A n c, .slice (some ⟨w'.heap.size, 0, none⟩) 1 1]).run Try.prog (w'.alloc (.cells #[r.v] 61)) = .ok (.slice A' (n + 1) c') w2 ∧
        CK W p (last + 1) (ts ++ [t]) (.slice A' (n + 1) c') (K ++ [r]) w2) := by
  have hlen := hr.2.1
  have hcap := hr.2.2.1
  have hKl : K.length = ts.length := by have := congrArg List.length h.same; simpa using this.symm
  have hmany := h.q.many
  refine (h.q.push r.A r.bs r.cap (by omega) (by omega) (by omega) (by omega) hr.2.2.2 (fun V hV => src_qsrc (src_later hr.1 ((h.below.trans (hV.below h.q.q.2.1)).mono (Nat.le_of_eq h.base.symm))))).mono ?_
  rintro e w' ⟨nid, er, rfl, ho, ⟨rfl, rfl, h1, h2, h3, h4, t, k1, k2, ⟨k3, k35⟩, k4⟩ | ⟨h1, rfl, h2, _⟩⟩
  · refine .inr ⟨last + 1, rfl, h.below.trans (ho.below h.q.q.2.1), ?_⟩
    have hk' := own_q2 h.keep (by decide) (by decide) ho
    obtain ⟨A, c, ea, _⟩ := own_form h.keep
    obtain ⟨A', c', w2, g1, g2, g3⟩ := keep_tail2 hk' r k4.q.2.1 (by omega)
    refine ⟨A, K.length, c, ea, A', c', w2, t, by rw [ea] at g1; exact g1, k4.other hk' (by decide) (by decide) (by decide) g3, by rw [List.length_append]; exact g2, by rw [List.map_append, List.map_append, h.same]; simp [k2], ?_, ?_, (h.below.trans (ho.below h.q.q.2.1)).trans (g3.below k4.q.2.1 (fun k _ hk => by have := (own_block hk' k hk).1; omega)), h.base⟩
    · intro y hy
      rw [List.mem_append, List.mem_singleton] at hy
      rcases hy with hy | rfl
      · exact h.ok y hy
      · exact hr
    · intro y hy
      rw [List.mem_append, List.mem_singleton] at hy
      rcases hy with hy | rfl
      · exact h.noBg y hy
      · exact k3
  · exact .inl ⟨er, rfl, h1, h2, own_q2 h.keep (by decide) (by decide) ho, h.same, h.ok, h.noBg, h.below.trans (ho.below h.q.q.2.1), h.base⟩
/-- while pieces are built -/
structure CP (W : World) (p last : Nat) (ts : List Txt) (kept : Value) (K : List RowB) (out : Value) (P : List Pc) (wr : World) : Prop where
  q : QS p p 20000 wr last ts
  keep : wr.ownsRow p 61 1 kept K.length (K.map RowB.v)
  ok : ∀ r ∈ K, r.ok W
  small : ∀ r ∈ K, 0 < r.bs.length ∧ r.bs.length ≤ 1000
  outO : wr.ownsRow p 91 3 out P.length (P.flatMap Pc.cells)
  rows : ∀ x ∈ P, ∃ c, NewRows p wr (.slice x.A x.L.length c) x.L
  ch : Chain false (K.map RowB.bs) P (headBg ts) (ts.map Txt.bs)
  below : Below p W wr
  base : p = W.heap.size
theorem CK.start (h : CK W p last ts kept K w) : CP W p last ts kept K (.slice none 0 0) [] w := by
  refine ⟨h.q, h.keep, h.ok, fun r hr => ?_, World.ownsRow_nil _ _ _ _, (fun x hx => by cases hx), ⟨?_, h.same.symm⟩, h.below, h.base⟩
  · have : r.bs ∈ ts.map Txt.bs := by rw [h.same]; exact List.mem_map.2 ⟨r, hr, rfl⟩
    obtain ⟨t, ht, e⟩ := List.mem_map.1 this
    rw [← e]
    exact ⟨(h.q.bytes t ht).1, (h.q.bytes t ht).2.1⟩
  · cases ts with
    | nil => rfl
    | cons t r => exact (h.noBg t (List.mem_cons_self ..)).symm
theorem CP.later (h : CP W p last ts kept K out P w) (hb : Below w.heap.size w v) : CP W p last ts kept K out P v :=
  ⟨h.q.later hb, own_later2 h.keep hb, h.ok, h.small, own_later2 h.outO hb, (fun x hx => by obtain ⟨c, h1⟩ := h.rows x hx; exact ⟨c, h1.later hb⟩), h.ch, h.below.trans (hb.mono h.q.q.2.1), h.base⟩
theorem length_cells (P : List Pc) : (P.flatMap Pc.cells).length = P.length * 3 := by
  induction P with
  | nil => rfl
  | cons x r ih => simp [Pc.cells, ih]; omega
theorem Try.infopcz : (Try.prog.info? 91).map (fun i => (i.zero, i.size, i.bytes)) = some (some (.agg #[.int .i64 0, .slice none 0 0, .slice none 0 0]), 3, 56) := by kernel_rfl
theorem Try.undpcs : Try.prog.underlying 104 = some (.slice 91) := by kernel_rfl
theorem rest_cstep {k : Nat} {n : Int} {ts' : List Txt} {x : Pc} {R : Int} {B : Nat} (hq : QS B p R w last ts) (hr : RestT ts k n ts') (hkn : 0 < k ∨ 0 < n) (hk : k ≤ ts.length) (hn : ∀ t, ts[k]? = some t → n < t.bs.length) (hxk : x.k = k) (hL : texts x.L = fieldsT (ts.map Txt.bs) k n) (hfi : x.fi = fiT ts n) (h24 : x.L.length ≤ 24) :
    CStep (headBg ts) (ts.map Txt.bs) x (headBg ts') (ts'.map Txt.bs) := by
  subst hxk
  refine ⟨n, hkn, by simpa using hk, hL, by rw [hfi]; rfl, h24, ?_⟩
  have hh : headBg ts' = decide (0 < n) := by
    rcases hr with ⟨h0, rfl⟩ | ⟨h0, t, t', h1, h2, h3, h4, rfl⟩
    · rw [decide_eq_false (by omega)]
      cases h : ts.drop x.k with
      | nil => rfl
      | cons a r =>
        refine hq.bg a ?_
        have : a ∈ ts.drop x.k := by rw [h]; exact List.mem_cons_self ..
        rw [show x.k = 1 + (x.k - 1) by omega, ← List.drop_drop] at this
        exact List.mem_of_mem_drop this
    · rw [decide_eq_true h0]
      exact h4.1
  rcases hr with ⟨h0, rfl⟩ | ⟨h0, t, t', h1, h2, h3, h4, rfl⟩
  · exact .inl ⟨h0, by rw [hh]; exact decide_eq_false (by omega), by rw [List.map_drop]⟩
  · exact .inr ⟨h0, by rw [hh]; exact decide_eq_true h0, t.bs, by rw [List.getElem?_map, h1]; rfl, hn t h1, by rw [List.map_cons, h3, List.map_drop]⟩
/-- one more piece -/
theorem CP.next {ts' : List Txt} {u : World} (h : CP W p last ts kept K out P w) (ho : QOnly p w v) (hq : QS p p 20000 v last ts') (x : Pc) (hc : CStep (headBg ts) (ts.map Txt.bs) x (headBg ts') (ts'.map Txt.bs)) (hx : ∃ c, NewRows p v (.slice x.A x.L.length c) x.L) (hb : Below v.heap.size v u) (hP : P.length ≤ 3000) :
    ∃ A n c, out = .slice A n c ∧ n = P.length ∧ ∃ A' c' w2, (Builtin.append_ #[104, 104] 104 #[.slice A n c, .slice (some ⟨u.heap.size, 0, none⟩) 1 1]).run Try.prog (u.alloc (.cells #[.int .i64 x.fi, .slice x.A x.L.length x.L.length, .slice x.D x.k x.k] 91)) = .ok (.slice A' (n + 1) c') w2 ∧
      CP W p last ts' kept K (.slice A' (n + 1) c') (P ++ [x]) w2 := by
  obtain ⟨i0, hi, hi0, hi1, hi2⟩ := info_parts Try.infopcz
  have hsz : p ≤ v.heap.size := hq.q.2.1
  have hbA := bl_alloc hb (.cells #[.int .i64 x.fi, .slice x.A x.L.length x.L.length, .slice x.D x.k x.k] 91)
  have hout := own_later2 (own_q2 h.outO (by decide) (by decide) ho) hbA
  obtain ⟨A, c, ea, _⟩ := own_form h.outO
  obtain ⟨v', w2, hrun, hown, hgr, _, hat⟩ := run_append_own_at (P := Try.prog) (w := u.alloc (.cells #[.int .i64 x.fi, .slice x.A x.L.length x.L.length, .slice x.D x.k x.k] 91)) p 104 104 91 i0 _ 3 56 Try.undpcs hi hi0 hi1 hi2 rfl (by omega) out P.length (P.flatMap Pc.cells) hout ⟨u.heap.size, 0, none⟩ 1 1 x.cells rfl
    (fun j y hy => by
      rw [add_zero_q]
      exact (Row.made u 91 #[.int .i64 x.fi, .slice x.A x.L.length x.L.length, .slice x.D x.k x.k]).read (by
        match j, hy with
        | 0, hy => exact hy
        | 1, hy => exact hy
        | 2, hy => exact hy
        | j + 3, hy => simp [Pc.cells] at hy)) (by intro y hy; simp [Pc.cells] at hy; rcases hy with rfl | rfl | rfl <;> rfl) (by unfold maxLen; omega) (by omega) (by have := hbA.size; omega)
  obtain ⟨A', c', rfl⟩ : ∃ A' c', v' = .slice A' (P.length + 1) c' := by
    rcases hown.2 with ⟨_, e⟩ | ⟨g, cap, cur, e, _⟩
    · omega
    · exact ⟨some ⟨g, 0, none⟩, cap, e⟩
  have hon : Only (fun k => out.ownBlock = some k) (u.alloc (.cells #[.int .i64 x.fi, .slice x.A x.L.length x.L.length, .slice x.D x.k x.k] 91)) w2 := (Only.refl _ _).grown hgr (fun k hk => .inl hk)
  have hqv := hq.later hbA
  have hrow : ∀ y : Pc, (∃ c, NewRows p v (.slice y.A y.L.length c) y.L) → ∃ c, NewRows p w2 (.slice y.A y.L.length c) y.L := by
    rintro y ⟨c, h1⟩
    refine ⟨c, (h1.later hbA).only hon (fun g t cs hr ht _ hk => ?_)⟩
    rcases ht with rfl | rfl
    · exact own_apart hout hr (by decide) hk
    · exact own_apart hout hr (by decide) hk
  refine ⟨A, P.length, c, ea, rfl, A', c', w2, by rw [ea] at hrun; exact hrun, hqv.other hout (by decide) (by decide) (by decide) hon, own_only (own_later2 (own_q2 h.keep (by decide) (by decide) ho) hbA) hon (own_two_apart (own_later2 (own_q2 h.keep (by decide) (by decide) ho) hbA) hout (by decide)), h.ok, h.small, ?_, ?_, h.ch.snoc hc, ?_, h.base⟩
  · rw [List.length_append, List.flatMap_append]
    simpa using hown
  · intro y hy
    rw [List.mem_append, List.mem_singleton] at hy
    rcases hy with hy | rfl
    · obtain ⟨c, h1⟩ := h.rows y hy
      exact hrow y ⟨c, h1.q ho⟩
    · exact hrow y hx
  · exact ((h.below.trans (ho.below h.q.q.2.1)).trans (hbA.mono hsz)).trans (hon.below hqv.q.2.1 (fun k _ hk => by have := (own_block hout k hk).1; omega))
end
end Go.Proofs.Ytjobgnemklpiaaa
namespace Go.Proofs.Ytjobgnemklpiaaa
open Go.ChangeShapes Go.WideShapes Go.ChangeAt Go.RowKit Go.Deep

theorem Try.cells101 : Try.prog.cellsOf 101 = 1 := by kernel_rfl
/-- numbers of 16 bits as values -/
def u16v (l : List Nat) : List Value := l.map fun b : Nat => .int .u16 b
theorem length_u16v (l : List Nat) : (u16v l).length = l.length := by simp [u16v]
theorem u16v_at {l : List Nat} {i b : Nat} (h : l[i]? = some b) : (u16v l)[i]? = some (.int .u16 b) := by simp [u16v, h]
theorem nums_src16 {W : World} {a : Addr} {cap len : Nat} {zs : List Int} (hl : len ≤ cap) (hz : zs.length = cap) (hc : ∀ j, j < cap → W.cell? (a.add j) = some (.int .u16 (zs.getD j 0))) (hw : ∀ n ∈ zs, (Lit.int .u16 n).wf = true) :
    ((zs.take len).map Int.toNat).length = len ∧ Src W (some a) (u16v ((zs.take len).map Int.toNat)) ∧ ∀ b ∈ (zs.take len).map Int.toNat, b < 65536 := by
  have hlen : ((zs.take len).map Int.toNat).length = len := by rw [List.length_map, List.length_take]; omega
  refine ⟨hlen, fun h0 => ⟨a, rfl, fun j u hu => ?_⟩, fun b hb => ?_⟩
  · have hj : j < len := by
      have h1 := (List.getElem?_eq_some_iff.1 hu).1
      rw [length_u16v, hlen] at h1
      exact h1
    have h2 := hc j (by omega)
    rw [h2]
    have hjz : j < zs.length := by omega
    have hww := bounds_u16 (hw zs[j] (List.getElem_mem hjz))
    have h3 : ((zs.take len).map Int.toNat)[j]? = some zs[j].toNat := by
      rw [List.getElem?_map, List.getElem?_take, if_pos hj, List.getElem?_eq_getElem hjz]
      rfl
    have h4 := u16v_at h3
    rw [h4] at hu
    injection hu with hu
    rw [← hu, List.getD_eq_getElem?_getD, List.getElem?_eq_getElem hjz]
    simp only [Option.getD_some]
    rw [Int.toNat_of_nonneg hww.1]
  · rw [List.mem_map] at hb
    obtain ⟨z, hz2, rfl⟩ := hb
    have hww := bounds_u16 (hw z (List.mem_of_mem_take hz2))
    omega
set_option maxRecDepth 100000 in
theorem u16s_arg {H : Type} {enc : TypeId × Value → H} {W : World} {base : Nat} {v : Value} {d : DataW H} {p : List MemPlace} (hok : Value.okWide Try.prog W .any base 100 v)
    (h : DataW.Trod enc Try.prog W 0 (fun _ => true) true 100 v d p) : ∃ (A : Option Addr) (cap : Nat) (l : List Nat), v = .slice A l.length cap ∧ l.length ≤ cap ∧ cap ≤ 9223372036854775807 ∧ Src W A (u16v l) ∧ ∀ b ∈ l, b < 65536 := by
  obtain ⟨a0, len, cap, rfl⟩ := okWide_slice Try.underlying100 hok
  obtain ⟨fuel, hf⟩ := h
  rcases open_ints Try.underlying100 Try.underlying101 Try.cells101 hf with ⟨hcs, _⟩ | ⟨a, len', cap', zs, hcs, _, hl, hm, hz, _, hcell, hwz⟩
  · simp only [Value.cells] at hcs
    have e : Value.slice a0 len cap = .slice none 0 0 := by simpa using hcs
    rw [e]
    exact ⟨none, 0, [], rfl, Nat.le_refl _, by omega, fun h0 => absurd h0 (by simp [u16v]), fun b hb => by cases hb⟩
  · have e : Value.slice a0 len cap = .slice (some a) len' cap' := by simpa [Value.cells] using hcs
    rw [e]
    have hz' : zs.length = cap' := by simpa using hz
    obtain ⟨h1, h2, h3⟩ := nums_src16 (W := W) (a := a) hl hz' (fun j hj => hcell j (by omega)) hwz
    exact ⟨some a, cap', _, by rw [h1], by omega, by unfold maxLen at hm; exact hm, h2, h3⟩
end Go.Proofs.Ytjobgnemklpiaaa
namespace Go.Proofs.Ytjobgnemklpiaaa
open Go.RowKit

theorem f_src_cell {W w : World} {A : Option Addr} {xs : List Value} {j : Nat} {u : Value} (h : Src W A xs) (hb : Below W.heap.size W w) (hj : xs[j]? = some u) : ∃ ad, A = some ad ∧ w.cell? (ad.add j) = some u := by
  obtain ⟨ad, rfl, hc⟩ := h (by have := (List.getElem?_eq_some_iff.1 hj).1; omega)
  exact ⟨ad, rfl, cell_below hb (hc j u hj)⟩
/-- the greatest number that was told so far -/
def dnF (dn : Nat) (ids : List Nat) (i : Nat) : Nat := if i = 0 then dn else ids.getD (i - 1) 0
theorem dnF_succ {dn : Nat} {ids : List Nat} {i a : Nat} (h : ids[i]? = some a) : dnF dn ids (i + 1) = a := by
  unfold dnF
  rw [if_neg (by omega), Nat.add_sub_cancel, List.getD_eq_getElem?_getD, h]
  rfl
theorem ids_rise {ts : List Txt} {k dn : Nat} (hp : ts.Pairwise (fun a b => a.id < b.id)) (hd : ∀ t ∈ ts, dn < t.id) : ∀ i a, ((ts.take k).map Txt.id)[i]? = some a → dnF dn ((ts.take k).map Txt.id) i < a := by
  intro i a h
  have hp2 : (ts.take k).Pairwise (fun a b => a.id < b.id) := hp.sublist (List.take_sublist _ _)
  rw [List.getElem?_map] at h
  obtain ⟨t, ht, rfl⟩ := Option.map_eq_some_iff.1 h
  unfold dnF
  split
  · exact hd t (List.mem_of_mem_take (List.mem_of_getElem? ht))
  · rename_i h0
    obtain ⟨hi, rfl⟩ := List.getElem?_eq_some_iff.1 ht
    rw [List.getD_eq_getElem?_getD, List.getElem?_map, List.getElem?_eq_getElem (show i - 1 < (ts.take k).length by omega)]
    exact List.pairwise_iff_getElem.1 hp2 (i - 1) i (by omega) hi (by omega)
theorem rest_rise {ts ts' : List Txt} {k dn : Nat} {n : Int} (hp : ts.Pairwise (fun a b => a.id < b.id)) (hd : ∀ t ∈ ts, dn < t.id) (hk : k ≤ ts.length) (hr : RestT ts k n ts') : ∀ t ∈ ts', dnF dn ((ts.take k).map Txt.id) k < t.id := by
  have key : ∀ t ∈ ts.drop k, dnF dn ((ts.take k).map Txt.id) k < t.id := by
    intro t ht
    unfold dnF
    split
    · exact hd t (List.mem_of_mem_drop ht)
    · rename_i h0
      obtain ⟨j, hj⟩ := List.getElem?_of_mem ht
      rw [List.getElem?_drop] at hj
      obtain ⟨hj2, rfl⟩ := List.getElem?_eq_some_iff.1 hj
      rw [List.getD_eq_getElem?_getD, List.getElem?_map, List.getElem?_take, if_pos (by omega), List.getElem?_eq_getElem (show k - 1 < ts.length by omega)]
      exact List.pairwise_iff_getElem.1 hp (k - 1) (k + j) (by omega) hj2 (by omega)
  rcases hr with ⟨_, rfl⟩ | ⟨_, t, t', h1, h2, h3, h4, rfl⟩
  · exact key
  · have hk2 : k < ts.length := (List.getElem?_eq_some_iff.1 h1).1
    have hdd : ts.drop k = t :: ts.drop (k + 1) := by
      rw [List.drop_eq_getElem_cons hk2]
      obtain ⟨_, e⟩ := List.getElem?_eq_some_iff.1 h1
      rw [e]
    intro y hy
    rcases List.mem_cons.1 hy with rfl | hy
    · rw [h2]
      exact key t (by rw [hdd]; exact List.mem_cons_self ..)
    · exact key y (by rw [hdd]; exact List.mem_cons_of_mem _ hy)
/-- is a text cut? -/
theorem rest_head {B p last : Nat} {R : Int} {w : World} {ts ts' : List Txt} {k : Nat} {n : Int} (hq : QS B p R w last ts) (hr : RestT ts k n ts') (hkn : 0 < k ∨ 0 < n) : headBg ts' = decide (0 < n) := by
  rcases hr with ⟨hn, rfl⟩ | ⟨hn, t, t', h1, h2, h3, h4, rfl⟩
  · rw [decide_eq_false (by omega)]
    cases h : ts.drop k with
    | nil => rfl
    | cons a r =>
      refine hq.bg a ?_
      have : a ∈ ts.drop k := by rw [h]; exact List.mem_cons_self ..
      rw [show k = 1 + (k - 1) by omega, ← List.drop_drop] at this
      exact List.mem_of_mem_drop this
  · rw [decide_eq_true hn]
    exact h4.1
theorem ids_cell {m : Nat} {w : World} {D : Option Addr} {k d i a : Nat} {ids : List Nat} (h : NewIds m w (.slice D k d) ids) (hi : ids[i]? = some a) : ∃ ad, D = some ad ∧ w.cell? (ad.add i) = some (.int .u64 a) := by
  rcases h.2 with ⟨e, h0⟩ | ⟨g, cap, cur, e, _, _, _⟩
  · have := (List.getElem?_eq_some_iff.1 hi).1
    omega
  · injection e with e1 e2 e3
    subst e1
    refine ⟨_, rfl, h.cells (g := g) rfl i _ ?_⟩
    simp [idsV, hi]
theorem ids_idx {ids : List Nat} {i : Nat} (h : i < ids.length) : ∃ a, ids[i]? = some a := ⟨_, List.getElem?_eq_getElem h⟩
/-- between two pieces -/
def CF2 (W : World) (p : Nat) (all : Value) (allB : List Nat) (dn : Nat) (gv : Value) (wr : World) : Prop :=
  ∃ (last : Nat) (ts : List Txt) (g : List Nat), CF W p last ts all allB gv g wr ∧ g ++ waitB ts = allB ∧ ∀ t ∈ ts, dn < t.id
end Go.Proofs.Ytjobgnemklpiaaa
namespace Go.Proofs.Ytjobgnemklpiaaa
open Go.RowKit

/-- what the helper answers -/
def PiecesAns (W : World) (e : Ending) (w' : World) : Prop :=
  (∃ v1 v2, e = .returned (.tuple #[v1, v2, .bool false]) ∧ Below W.heap.size W w') ∨
  (∃ last A c nk K B d P, e = .returned (.tuple #[.slice B P.length d, .slice A nk c, .bool true]) ∧ nk = K.length ∧ nk ≤ 64 ∧ P.length ≤ 3000 ∧ CP W W.heap.size last [] (.slice A nk c) K (.slice B P.length d) P w')
theorem CP.none {W w : World} {p last : Nat} {ts : List Txt} {kept out : Value} {K : List RowB} {P : List Pc} (h : CP W p last ts kept K out P w) (h0 : bytesF ts = 0) : ts = [] := by
  cases ts with
  | nil => rfl
  | cons t r =>
    have := (h.q.bytes t (List.mem_cons_self ..)).1
    rw [bytesF_cons] at h0
    omega
theorem pc_none {W : World} {A1 : Option Addr} {A0 : Option Addr} (N0 c0 c1 : Nat) :
    Calls Try.prog 59 #[.slice A0 N0 c0, .slice A1 0 c1] W (PiecesAns W) := by
  go_enter Try.func59, Try.ntmps59
  go_wp2_with fail
  refine (qnew_any W.heap.size 20000 W (Nat.le_refl _) (by omega) (by omega)).mono ?_
  rintro e w1 ⟨rfl, hq1, hb1⟩
  have HB1 := Lib.hid hb1
  clear hq1 hb1
  go_wp2
  go_ret3
  exact .inl ⟨_, _, rfl, HB1.out⟩
end Go.Proofs.Ytjobgnemklpiaaa
namespace Go.Proofs.Ytjobgnemklpiaaa
open Go.RowKit

set_option maxRecDepth 100000 in
set_option maxHeartbeats 25600000 in
theorem pieces_le {A0 A1 : Option Addr} {L0 : List RowB} {l1 : List Nat} (N0 N1 c0 c1 : Nat) (W : World) (hN0 : L0.length = N0) (hN1 : l1.length = N1) (hn0 : N0 ≤ 9223372036854775807) (hn1 : N1 ≤ 9223372036854775807)
    (hs0 : RSrc W A0 L0) (hs1 : Src W A1 (u16v l1)) (hb1 : ∀ b ∈ l1, b < 65536) (hpos : 0 < N1) (hq : N0 ≤ 20) :
    Calls Try.prog 59 #[.slice A0 N0 c0, .slice A1 N1 c1] W (PiecesAns W) := by
  have HL0 := Lib.hid hN0
  have HL1 := Lib.hid hN1
  have HS0 := Lib.hid hs0
  have HS1 := Lib.hid hs1
  have HB1 := Lib.hid hb1
  have hz1 : ((N1 : Int) == 0) = false := by simp; omega
  clear hN0 hN1 hs0 hs1 hb1
  go_enter Try.func59, Try.ntmps59
  go_wp2_with fail
  refine (qnew_any W.heap.size 20000 W (Nat.le_refl _) (by omega) (by omega)).mono ?_
  rintro e w1 ⟨rfl, hq1, hb1⟩
  generalize hp : W.heap.size = p at *
  have HP := Lib.hid hp.symm
  have HC0 := Lib.hid (show CK W p 0 [] (.slice none 0 0) [] w1 from ⟨QS.start hq1 (by omega), World.ownsRow_nil _ _ _ _, rfl, (fun r hr => by cases hr), (fun t h => by cases h), hb1, hp.symm⟩)
  clear hq1 hb1 hp
  go_wp2_with fail
  go_loopw [10, 11] (fun kv iv wr => ∃ (k last : Nat) (ts : List Txt) (K : List RowB), k ≤ N0 ∧ last ≤ k ∧ iv = .int .i64 k ∧ Hid (CK W p last ts kv K wr)) (fun _ iv _ => 20 - (intOf iv).toNat)
  case atStart => exact ⟨0, 0, [], [], by omega, by omega, rfl, HC0⟩
  case round =>
    obtain ⟨k, last, ts, K, hk, hlk, rfl, HC⟩ := hrel
    obtain ⟨A, c, rfl, _⟩ := own_form HC.out.keep
    have hKm : K.length ≤ 64 := by have h1 := congrArg List.length HC.out.same; rw [List.length_map, List.length_map] at h1; have := HC.out.q.many; omega
    rcases Nat.lt_or_ge k N0 with hlt | hend
    · obtain ⟨r, hr⟩ : ∃ r, L0[k]? = some r := ⟨_, List.getElem?_eq_getElem (by rw [HL0.out]; omega)⟩
      obtain ⟨a0, rfl, hc⟩ := HS0.out (by rw [HL0.out]; omega)
      have HROK := Lib.hid (hc k r hr).2
      have HC9 := Lib.hid (hc k r hr).1
      have y1 := cell_below (HC.out.below.mono (Nat.le_of_eq HP.out.symm)) (hc k r hr).1
      have hlen := (hc k r hr).2.2.1
      have hcap := (hc k r hr).2.2.2.1
      unfold RowB.v at y1
      have hi0 : (0 : Int) ≤ (k : Int) := by omega
      have hi1 : (k : Int) < (N0 : Int) := by omega
      have hi2 : (k : Int) < 20 := by omega
      clear hc hr
      by_cases hl : 1100 < r.bs.length
      · have g1 : decide ((1100 : Int) < (r.bs.length : Int)) = true := decide_eq_true (by omega)
        have HBL := Lib.hid HC.out.below
        generalize K.length = nk at *
        go_wp2
        go_ret3
        rw [HP.out] at HBL
        exact .inl ⟨_, _, rfl, HBL.out⟩
      · have g1 : decide ((1100 : Int) < (r.bs.length : Int)) = false := decide_eq_false (by omega)
        have HPU := Lib.hid (HC.out.push r HROK.out (by omega))
        generalize K.length = nk at HPU HC ⊢
        go_wp2_with fail
        refine HPU.out.mono ?_
        rintro e w3 (⟨er, rfl, her, hP⟩ | ⟨nid, rfl, hb3, A', n', c', ekv, A9, c9, w9, t9, hrun, hP9⟩)
        · have HP3 := Lib.hid hP
          have g2 : (er == 0) = false := by simpa using her
          clear hP her
          go_wp2
          go_roundw
          case rel => exact ⟨k + 1, last, ts, K, by omega, by omega, by go_num, HP3⟩
          case measure => simp [intOf]; omega
        · injection ekv with e1 e2 e3
          subst e1 e2 e3
          have HP9 := Lib.hid hP9
          have y3 := cell_below (hb3.mono (Nat.le_of_eq HP.out.symm)) HC9.out
          unfold RowB.v at y3 hrun
          clear hP9 hb3
          go_wp2_with (at_builtin; refine wpList_run rfl (.tmp 59) (.tmp 64) 57 rfl (.slice A nk c) (.slice (some ⟨w3.heap.size, 0, none⟩) 1 1) (by rfl) (by rfl) hrun ?_)
          go_roundw
          case rel => exact ⟨k + 1, last + 1, ts ++ [t9], K ++ [r], by omega, by omega, by go_num, HP9⟩
          case measure => simp [intOf]; omega
    · have HC2 := Lib.hid HC.out.start
      generalize hnk : K.length = nk at HC2 ⊢
      have HNK := Lib.hid hnk
      have hnk64 : nk ≤ 64 := by omega
      clear HC hnk hKm
      have q1 : (N0 : Int) ≤ (k : Int) := by omega
      skip
      clear hk hend
      go_wp2_with fail
      go_loopw [9, 14] (fun ov iv wt => ∃ (j last : Nat) (ts : List Txt) (P : List Pc), j ≤ 3000 ∧ P.length ≤ j ∧ iv = .int .i64 j ∧ Hid (CP W p last ts (.slice A nk c) K ov P wt)) (fun _ iv _ => 3000 - (intOf iv).toNat)
      case atStart => exact ⟨0, last, ts, [], by omega, by simp, rfl, HC2⟩
      case round =>
        clear HC2
        obtain ⟨j, last2, ts2, P, hj, hPj, rfl, HD⟩ := hrel
        obtain ⟨OA, oc, rfl, _⟩ := own_form HD.out.outO
        have hsm := HD.out.q.small
        have HBY := Lib.hid (qbytes_any HD.out.q.q (by omega) (by omega))
        have HPL := Lib.hid (rfl : P.length = P.length)
        obtain ⟨bf, hbf⟩ : ∃ bf, bytesF ts2 = bf := ⟨_, rfl⟩
        rw [hbf] at HBY hsm
        have HBF := Lib.hid hbf
        clear hbf
        have hways : (0 < bf ∧ j < 3000) ∨ (bf = 0 ∨ (0 < bf ∧ j = 3000)) := by omega
        rcases hways with ⟨hb0, hj3⟩ | hend
        · have hm9 : j % N1 < N1 := Nat.mod_lt _ hpos
          obtain ⟨v, hv⟩ : ∃ v, l1[j % N1]? = some v := ⟨_, List.getElem?_eq_getElem (by rw [HL1.out]; exact hm9)⟩
          obtain ⟨a1, rfl, z1⟩ := f_src_cell HS1.out (HD.out.below.mono (Nat.le_of_eq HP.out.symm)) (u16v_at hv)
          have hv9 := HB1.out v (List.mem_of_getElem? hv)
          have hmodj : Int.tmod (j : Int) (N1 : Int) = ((j % N1 : Nat) : Int) := by
            rw [Int.ofNat_tmod]
          have hmod : Int.tmod (v : Int) 400 = ((v % 400 : Nat) : Int) := by
            rw [Int.ofNat_tmod]
            rfl
          have hrm := Nat.mod_lt v (show 0 < 400 by omega)
          have hj0 : (0 : Int) ≤ (j : Int) := by omega
          have hjl : (j : Int) < 3000 := by omega
          have hbfi : (0 : Int) < (bf : Int) := by omega
          have HF0 := Lib.hid (show faultC (20 + ((v % 400 : Nat) : Int)) 11 = 0 by unfold faultC; rw [if_pos (by decide), if_neg (by omega)])
          have hmi : ((j % N1 : Nat) : Int) < (N1 : Int) := by omega
          generalize v % 400 = rm at *
          generalize j % N1 = jm at *
          clear hv
          go_wp2_with (go_at_call 47; (with_reducible refine HBY.out.mono ?_); rintro e w3 ⟨rfl, hb3⟩; (have z3 := cell_below hb3 z1); (have HD3 := Lib.hid (HD.out.later hb3)); (have HBU := Lib.hid (HD3.out.q.build (20 + (rm : Int)) 11 (by omega) HF0.out)); clear hb3)
          refine HBU.out.mono ?_
          rintro e w4 ⟨k, n, ts', hB, hR, hq', ho', ⟨hk0, hn0, rfl⟩ | ⟨hkn, A6, D6, L6, rfl, htx, ⟨c6, hn6⟩, d6, hi6⟩⟩
          · have HBL := Lib.hid (show Below p W (w4.alloc (.cells #[.int .i64 0, .slice none 0 0, .slice none 0 0] 91)) from (HD3.out.below.trans (ho'.below HD3.out.q.q.2.1)).trans ((bl_alloc (Below.refl w4.heap.size w4) _).mono hq'.q.2.1))
            clear hB hR hq' ho' hk0 hn0
            go_wp2
            go_ret3
            rw [HP.out] at HBL
            exact .inl ⟨_, _, rfl, HBL.out⟩
          · have hp9 : ∀ t ∈ ts2, 0 < t.bs.length := fun t ht => (HD3.out.q.bytes t ht).1
            have hlens : lens L6 = fieldsL (lenT ts2) k n := lens_fieldsT htx (by rcases hB.less with h | h; exact .inl h; exact .inr (by omega))
            have hfit := hB.fits (lenT_pos hp9) (show (0 : Int) ≤ 20 + (rm : Int) by omega) (show 0 < sizeF 1 11 by decide)
            rw [← hlens] at hfit
            have h24 : L6.length ≤ 24 := by have := hfit.2.2; rw [length_lens] at this; exact this
            have hkle : k ≤ ts2.length := by have := hB.le; rw [length_lenT] at this; exact this
            have hcs := rest_cstep (x := ⟨fiT ts2 n, A6, L6, D6, k⟩) HD3.out.q hR hkn hkle (hB.below hp9) rfl htx rfl h24
            have hbx := bl_alloc (Below.refl w4.heap.size w4) (.cells #[.int .i64 (fiT ts2 n), .slice A6 L6.length L6.length, .slice D6 k k] 91)
            obtain ⟨OB, on, od, eo, eon, A', c', w9, hrun, h9⟩ := HD3.out.next ho' hq' ⟨fiT ts2 n, A6, L6, D6, k⟩ hcs ⟨c6, ⟨own_down hn6.1 HD3.out.q.q.2.1, fun r hr => by
              obtain ⟨g, q1, q2, q3⟩ := hn6.2 r hr
              exact ⟨g, q1, Nat.le_trans HD3.out.q.q.2.1 q2, q3⟩⟩⟩ hbx (by omega)
            injection eo with e1 e2 e3
            subst e1 e3
            clear e2
            subst eon
            have hrow4 := Row.made w4 91 #[.int .i64 (fiT ts2 n), .slice A6 L6.length L6.length, .slice D6 k k]
            have H9 := Lib.hid h9
            have y0 := hrow4.read (i := 0) (x := .int .i64 (fiT ts2 n)) rfl
            have y1 := hrow4.read (i := 1) (x := .slice A6 L6.length L6.length) rfl
            have y2 := hrow4.read (i := 2) (x := .slice D6 k k) rfl
            have hPl : (P ++ [(⟨fiT ts2 n, A6, L6, D6, k⟩ : Pc)]).length ≤ j + 1 := by simp; omega
            have hsz4 : (w4.alloc (.cells #[.int .i64 (fiT ts2 n), .slice A6 L6.length L6.length, .slice D6 k k] 91)).heap.size = w4.heap.size + 1 := by simp
            rw [hsz4] at hrun
            generalize P ++ [(⟨fiT ts2 n, A6, L6, D6, k⟩ : Pc)] = P2 at *
            generalize hpl : P.length = pl at *
            generalize fiT ts2 n = fi at *
            generalize L6.length = l6 at *
            clear hlens hfit h24 hkle hcs hbx h9 hrow4 hB hR hq' ho' htx hn6 hi6 hp9 hkn hsz4 hpl
            go_wp2_with (at_builtin; refine wpList_run rfl (.tmp 92) (.tmp 94) 104 rfl (.slice OA pl oc) (.slice (some ⟨w4.heap.size + 1, 0, none⟩) 1 1) (by rfl) (by rfl) hrun ?_)
            go_roundw
            case rel => exact ⟨j + 1, last2, ts', P2, by omega, hPl, by go_num, H9⟩
            case measure => simp [intOf]; omega

        · have hen : decide ((bf : Int) > 0) = decide (0 < bf) := by simp
          have HBE := Lib.hid HD.out.below
          have HNO := Lib.hid HD
          generalize hpl : P.length = pl at *
          have HPP := Lib.hid hpl
          clear hpl HPL
          rcases hend with hb0 | ⟨hb0, hj9⟩
          · subst hb0
            have hno := HD.out.none HBF.out
            subst hno
            clear hen
            have HBY2 := Lib.hid (fun V (hV : Below wr.heap.size wr V) => (qbytes_any (HD.out.later hV).q.q (by omega) (by rw [HBF.out]; omega) : Calls Try.prog 47 #[.pointer (some ⟨p, 0, none⟩)] V fun e w' => e = .returned (.int .i64 (0 : Nat)) ∧ Below V.heap.size V w'))
            go_wp2_with (first
              | (go_at_call 47; (with_reducible refine HBY.out.mono ?_); rintro e w3 ⟨rfl, hb3⟩; (have HB3 := Lib.hid hb3); clear hb3)
              | (go_at_call 47; (with_reducible refine (HBY2.out _ HB3.out).mono ?_); rintro e w5 ⟨rfl, hb5⟩; (have HB5 := Lib.hid hb5); clear hb5))
            go_ret3
            rw [HP.out] at HD
            exact .inr ⟨last2, A, c, nk, K, OA, oc, P, by rw [HPP.out]; rfl, HNK.out.symm, hnk64, (by rw [HPP.out]; omega), (by rw [HPP.out]; exact (HD.out.later HB3.out).later HB5.out)⟩
          · have hj9i : (3000 : Int) ≤ (j : Int) := by omega
            have hbfi : (0 : Int) < (bf : Int) := by omega
            have hbz : ((bf : Int) == 0) = false := by simp; omega
            have HBY2 := Lib.hid (fun V (hV : Below wr.heap.size wr V) => (by
              have h := qbytes_any (HD.out.later hV).q.q (by omega) (by rw [HBF.out]; omega)
              rw [HBF.out] at h
              exact h : Calls Try.prog 47 #[.pointer (some ⟨p, 0, none⟩)] V fun e w' => e = .returned (.int .i64 bf) ∧ Below V.heap.size V w'))
            clear hen hj9
            go_wp2_with (first
              | (go_at_call 47; (with_reducible refine (HBY2.out _ HB3.out).mono ?_); rintro e w5 ⟨rfl, hb5⟩; (have HB5 := Lib.hid hb5); clear hb5)
              | (go_at_call 47; (with_reducible refine HBY.out.mono ?_); rintro e w3 ⟨rfl, hb3⟩; (have HB3 := Lib.hid hb3); clear hb3))
            go_ret3
            rw [HP.out] at HBE HD
            exact .inl ⟨_, _, by first | rfl | simp [hbz], (HBE.out.trans (HB3.out.mono HD.out.q.q.2.1)).trans (HB5.out.mono (Nat.le_trans HD.out.q.q.2.1 HB3.out.size))⟩
end Go.Proofs.Ytjobgnemklpiaaa
