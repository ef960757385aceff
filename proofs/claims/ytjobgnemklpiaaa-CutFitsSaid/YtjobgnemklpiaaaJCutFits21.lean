/-
  CutFits: what the statement keeps beside its queue. How lists of numbers of 16 bits that a statement draws read. CutFits walked.
-/
import Derived.Test.YtjobgnemklpiaaaJCutFits20
import Derived.Test.YtjobgnemklpiaaaJCutFits11
import Derived.StillTailTactics
import Derived.Deep.RegionHeld3
namespace Go.Proofs.Ytjobgnemklpiaaa
open Go.RowKit

theorem own_q2 {B B' e size n : Nat} {w w' : World} {v : Value} {xs : List Value} (h : w.ownsRow B' e size v n xs) (h1 : e ≠ 77) (h2 : e ≠ 167) (ho : QOnly B w w') : w'.ownsRow B' e size v n xs :=
  own_only h ho fun k hk ⟨_, t, cs, hr, ht⟩ => by
    refine own_apart h hr (fun e => ?_) hk
    subst e
    rcases ht with ht | ht
    · exact h1 ht
    · exact h2 ht
/-- the first text, if there is one -/
theorem QS.front {B p last : Nat} {R : Int} {w : World} {ts : List Txt} (h : QS B p R w last ts) (hr : 0 < R) :
    Calls Try.prog 45 #[.pointer (some ⟨p, 0, none⟩)] w fun e w' => (∃ (id : Nat) (A : Option Addr) (n c : Nat), e = .returned (.tuple #[.int .u64 id, .slice A n c, .bool (headBg ts)])) ∧ Below w.heap.size w w' := by
  rcases ts with _ | ⟨t, r⟩
  · refine (front_none h.q hr).mono ?_
    rintro e w' ⟨rfl, rfl⟩
    exact ⟨⟨0, none, 0, 0, rfl⟩, Below.refl _ _⟩
  · have hb := h.bytes t (List.mem_cons_self ..)
    refine (front_ok h.q hr hb.1 (by omega)).mono ?_
    rintro e w' ⟨g, rfl, _, _, hb⟩
    exact ⟨⟨t.id, _, _, _, rfl⟩, hb⟩
/-- the statement's lists: all that was pushed, what was got -/
structure CF (W : World) (p last : Nat) (ts : List Txt) (all : Value) (allB : List Nat) (got : Value) (g : List Nat) (wr : World) : Prop where
  q : QS p p 20000 wr last ts
  allY : OwnY p wr all allB
  gotY : OwnY p wr got g
  c1 : Clear ts all
  c2 : Clear ts got
  ne : ∀ k, all.ownBlock = some k → got.ownBlock ≠ some k
  below : Below p W wr
  base : p = W.heap.size
section
variable {W w v : World} {p last : Nat} {ts : List Txt} {all got : Value} {allB g : List Nat}
theorem own_row5 {B : Nat} {v : Value} {l : List Nat} (h : OwnY B w v l) : ∀ k, v.ownBlock = some k → ∀ t cs, Row w k t cs → t = 5 := by
  intro k hk t cs hr
  rcases Nat.decEq 5 t with h1 | h1
  · exact absurd hk (own_apart h hr h1)
  · exact h1.symm
theorem CF.later (h : CF W p last ts all allB got g w) (hb : Below w.heap.size w v) : CF W p last ts all allB got g v :=
  ⟨h.q.later hb, h.allY.later hb, h.gotY.later hb, h.c1, h.c2, h.ne, h.below.trans (hb.mono h.q.q.2.1), h.base⟩
theorem CF.step {last' : Nat} {ts' : List Txt} (h : CF W p last ts all allB got g w) (ho : QOnly p w v) (hq : QS p p 20000 v last' ts') (h1 : Clear ts' all) (h2 : Clear ts' got) : CF W p last' ts' all allB got g v :=
  ⟨hq, own_q2 h.allY (by decide) (by decide) ho, own_q2 h.gotY (by decide) (by decide) ho, h1, h2, h.ne, h.below.trans (ho.below h.q.q.2.1), h.base⟩
theorem OwnY.inside {B : Nat} {v : Value} {l : List Nat} (h : OwnY B w v l) : ∀ k, v.ownBlock = some k → k < w.heap.size := fun k hk => (own_block h k hk).2
theorem waitB_snoc (ts : List Txt) (t : Txt) : waitB (ts ++ [t]) = waitB ts ++ t.bs := by simp [waitB]
theorem QRep.in5 {B p last : Nat} {R : Int} {ts : List Txt} (h : QRep B w p R last ts) : ∀ t ∈ ts, t.g < w.heap.size := by
  obtain ⟨_, _, _, _, _, h5⟩ := h
  intro t ht
  obtain ⟨_, _, _, cs, h4, _⟩ := h5 t ht
  exact h4.inside
/-- bytes are put behind a list of the statement's own -/
theorem CF.grow {x : Value} {l y : List Nat} {A : Option Addr} (hq : QS p p 20000 w last ts) (hx : OwnY p w x l) (hc : Clear ts x) (m c : Nat) (hs : Src w A (bts y)) (hm : y.length = m) (hlm : l.length + m ≤ 1000000) :
    ∃ A' c' w', (Builtin.append_ #[61, 61] 61 #[x, .slice A m c]).run Try.prog w = .ok (.slice A' (l.length + m) c') w' ∧ OwnY p w' (.slice A' (l.length + m) c') (l ++ y) ∧ Only (fun k => x.ownBlock = some k) w w' ∧
      QS p p 20000 w' last ts ∧ Clear ts (.slice A' (l.length + m) c') ∧ ((Value.slice A' (l.length + m) c').ownBlock = x.ownBlock ∨ (Value.slice A' (l.length + m) c').ownBlock = some w.heap.size) := by
  obtain ⟨A', c', w', h1, h2, h3, h4, h5⟩ := app_bytes m c hx hq.q.2.1 hs hm (by omega)
  refine ⟨A', c', w', h1, h2, h4, hq.with (hq.q.beside h4 (fun k hk t cs hr => ⟨own_row5 hx k hk t cs hr, fun x hx e => hc x hx (by rw [e]; exact hk)⟩)), fun t ht => ?_, h5⟩
  rcases h5 with h5 | h5
  · rw [h5]; exact hc t ht
  · rw [h5]
    intro e
    injection e with e
    have := hq.q.in5 t ht
    omega
theorem CF.push (h : CF W p last ts all (waitB ts) (.slice none 0 0) [] w) (r : RowB) (hr : r.ok W) (hlast : last ≤ 100) :
    Calls Try.prog 36 #[.pointer (some ⟨p, 0, none⟩), .slice r.A r.bs.length r.cap] w fun e w' =>
      (∃ er : Int, e = .returned (.tuple #[.int .u64 0, .int .i64 er]) ∧ er ≠ 0 ∧ CF W p last ts all (waitB ts) (.slice none 0 0) [] w') ∨
      (∃ nid : Nat, e = .returned (.tuple #[.int .u64 nid, .int .i64 0]) ∧ Below p W w' ∧ ∃ A n c, all = .slice A n c ∧ ∃ A' c' w2 t, (Builtin.append_ #[61, 61] 61 #[.slice A n c, .slice r.A r.bs.length r.cap]).run Try.prog w' = .ok (.slice A' (n + r.bs.length) c') w2 ∧
        CF W p (last + 1) (ts ++ [t]) (.slice A' (n + r.bs.length) c') (waitB (ts ++ [t])) (.slice none 0 0) [] w2) := by
  have hlen := hr.2.1
  have hcap := hr.2.2.1
  refine (h.q.push r.A r.bs r.cap (by omega) (by omega) (by omega) (by omega) hr.2.2.2 (fun V hV => src_qsrc (src_later hr.1 ((h.below.trans (hV.below h.q.q.2.1)).mono (Nat.le_of_eq h.base.symm))))).mono ?_
  rintro e w' ⟨nid, er, rfl, ho, ⟨rfl, rfl, h1, h2, h3, h4, t, k1, k2, ⟨k3, k35⟩, k4⟩ | ⟨h1, rfl, h2, _⟩⟩
  · refine .inr ⟨last + 1, rfl, h.below.trans (ho.below h.q.q.2.1), ?_⟩
    obtain ⟨A, c, ea, _⟩ := h.allY.form
    have hc : Clear (ts ++ [t]) all := by
      intro y hy
      rw [List.mem_append, List.mem_singleton] at hy
      rcases hy with hy | rfl
      · exact h.c1 y hy
      · intro e9
        have := h.allY.inside _ e9
        omega
    have hbl := h.below.trans (ho.below h.q.q.2.1)
    have hsm := length_waitB ts
    have hsm2 := h.q.small
    obtain ⟨A', c', w2, g1, g2, g3, g4, g5, g6⟩ := CF.grow k4 (own_q2 h.allY (by decide) (by decide) ho) hc r.bs.length r.cap (src_later hr.1 (hbl.mono (Nat.le_of_eq h.base.symm))) rfl (by omega)
    refine ⟨A, (waitB ts).length, c, ea, A', c', w2, t, by rw [ea] at g1; exact g1, ?_⟩
    have hon : Below p w' w2 := own_only_below (own_q2 h.allY (by decide) (by decide) ho) g3 k4.q.2.1
    refine ⟨g4, ?_, World.ownsRow_nil _ _ _ _, g5, fun t _ => by simp [Value.ownBlock], fun k _ => by simp [Value.ownBlock], hbl.trans hon, h.base⟩
    have e9 : (waitB (ts ++ [t])) = waitB ts ++ r.bs := by rw [waitB_snoc, k2]
    rw [e9]
    exact g2
  · exact .inl ⟨er, rfl, h1, h.step ho h2 h.c1 h.c2⟩
theorem own_two_apart {B B' e e' s s' n n' : Nat} {x y : Value} {xs ys : List Value} (h : w.ownsRow B e s x n xs) (h' : w.ownsRow B' e' s' y n' ys) (hne : e ≠ e') : ∀ k, x.ownBlock = some k → y.ownBlock ≠ some k := by
  intro k hk
  rcases h.2 with ⟨rfl, _⟩ | ⟨g, cap, cur, rfl, _, hh, _⟩
  · simp [Value.ownBlock] at hk
  · have e9 : g = k := by simpa [Value.ownBlock] using hk
    subst e9
    exact own_apart h' (show Row w g e cur from hh) (fun e9 => hne e9.symm)
/-- fields' blocks are none of a value's -/
def ApartB (L : List RowB) (v : Value) : Prop := ∀ r ∈ L, ∀ k, r.A = some ⟨k, 0, none⟩ → v.ownBlock ≠ some k
theorem NewRows.beside {m : Nat} {x : Value} {L : List RowB} {S : Nat → Prop} (h : NewRows m w x L) (ho : Only S w v) (h1 : ∀ k, x.ownBlock = some k → ¬ S k) (h2 : ∀ r ∈ L, ∀ k, r.A = some ⟨k, 0, none⟩ → ¬ S k) : NewRows m v x L := by
  refine ⟨own_only h.1 ho h1, fun r hr => ?_⟩
  obtain ⟨k, g1, g2, g3, g4⟩ := h.2 r hr
  exact ⟨k, g1, g2, g3.only ho (h2 r hr k g1), g4⟩
/-- behind k fields -/
structure CF3 (W : World) (p last : Nat) (ts : List Txt) (all : Value) (allB : List Nat) (m b : Nat) (cs : Array Value) (F : Value) (L : List RowB) (D : Value) (ids : List Nat) (g0 : List Nat) (k : Nat) (got : Value) (wr : World) : Prop where
  cf : CF W p last ts all allB got (g0 ++ flatTo L k) wr
  rows : NewRows m wr F L
  ids : NewIds m wr D ids
  box : Row wr b 91 cs
  apart : ApartB L got
theorem flatTo_le (L : List RowB) (k : Nat) : (flatTo L k).length ≤ (lens L).sum := by
  rw [length_flatTo]
  exact sumTo_le _ _
theorem CF3.next {m b : Nat} {cs : Array Value} {F D : Value} {L : List RowB} {ids g0 : List Nat} {k : Nat} {r : RowB} (h : CF3 W p last ts all allB m b cs F L D ids g0 k got w) (hr : L[k]? = some r) (hs : g0.length + (lens L).sum ≤ 100000) :
    ∃ A n c, got = .slice A n c ∧ ∃ A' c' w2, (Builtin.append_ #[61, 61] 61 #[.slice A n c, .slice r.A r.bs.length r.cap]).run Try.prog w = .ok (.slice A' (n + r.bs.length) c') w2 ∧
      CF3 W p last ts all allB m b cs F L D ids g0 (k + 1) (.slice A' (n + r.bs.length) c') w2 := by
  obtain ⟨A, c, ea, _⟩ := h.cf.gotY.form
  have hm := List.mem_of_getElem? hr
  have hrow := h.rows.2 r hm
  have h1 := flatTo_le L k
  have h2 := flatTo_le L (k + 1)
  have h3 := flatTo_succ hr
  have h4 : (g0 ++ flatTo L k).length + r.bs.length ≤ 1000000 := by
    rw [h3, List.length_append] at h2
    rw [List.length_append]
    omega
  obtain ⟨A', c', w2, g1, g2, g3, g4, g5, g6⟩ := CF.grow h.cf.q h.cf.gotY h.cf.c2 r.bs.length r.cap hrow.ok.1 rfl h4
  refine ⟨A, _, c, ea, A', c', w2, by rw [ea] at g1; exact g1, ?_⟩
  have hne : ∀ k, all.ownBlock = some k → ¬ got.ownBlock = some k := fun k hk => h.cf.ne k hk
  refine ⟨⟨g4, h.cf.allY.only g3 (fun k hk hk2 => hne k hk hk2), by rw [h3, ← List.append_assoc]; exact g2, h.cf.c1, g5, fun k hk => ?_, h.cf.below.trans (own_only_below h.cf.gotY g3 h.cf.q.q.2.1), h.cf.base⟩, h.rows.beside g3 (fun k hk hk2 => ?_) (fun y hy k hk hk2 => h.apart y hy k hk hk2), h.ids.only g3 (fun g cs hc _ hk => own_apart h.cf.gotY hc (by decide) hk), h.box.only g3 (own_apart h.cf.gotY h.box (by decide)), fun y hy k hk => ?_⟩
  · rcases g6 with g6 | g6
    · rw [g6]; exact h.cf.ne k hk
    · rw [g6]
      intro e
      injection e with e
      have := h.cf.allY.inside k hk
      omega
  · exact own_two_apart h.rows.1 h.cf.gotY (by decide) k hk hk2
  · rcases g6 with g6 | g6
    · rw [g6]; exact h.apart y hy k hk
    · rw [g6]
      intro e
      injection e with e
      obtain ⟨k', q1, _, q3, _⟩ := h.rows.2 y hy
      rw [hk] at q1
      injection q1 with q1
      injection q1 with q1
      have := q3.inside
      omega
end
end Go.Proofs.Ytjobgnemklpiaaa
namespace Go.Proofs.Ytjobgnemklpiaaa
open Go.ChangeShapes Go.WideShapes Go.ChangeAt Go.RowKit Go.Deep

theorem Try.cells101 : Try.prog.cellsOf 101 = 1 := by kernel_rfl
/-- numbers of 16 bits as values -/
def u16v (l : List Nat) : List Value := l.map fun b : Nat => .int .u16 b
theorem length_u16v (l : List Nat) : (u16v l).length = l.length := by simp [u16v]
theorem u16v_at {l : List Nat} {i b : Nat} (h : l[i]? = some b) : (u16v l)[i]? = some (.int .u16 b) := by simp [u16v, h]
theorem nums_src16 {W : World} {a : Addr} {cap len : Nat} {zs : List Int} (hl : len ≤ cap) (hz : zs.length = cap) (hc : ∀ j, j < cap → W.cell? (a.add j) = some (.int .u16 (zs.getD j 0))) (hw : ∀ n ∈ zs, (Lit.int .u16 n).wf = true) :
    ((zs.take len).map Int.toNat).length = len ∧ Src W (some a) (u16v ((zs.take len).map Int.toNat)) ∧ ∀ b ∈ (zs.take len).map Int.toNat, b < 65536 := by
  have hlen : ((zs.take len).map Int.toNat).length = len := by rw [List.length_map, List.length_take]; omega
  refine ⟨hlen, fun h0 => ⟨a, rfl, fun j u hu => ?_⟩, fun b hb => ?_⟩
  · have hj : j < len := by
      have h1 := (List.getElem?_eq_some_iff.1 hu).1
      rw [length_u16v, hlen] at h1
      exact h1
    have h2 := hc j (by omega)
    rw [h2]
    have hjz : j < zs.length := by omega
    have hww := bounds_u16 (hw zs[j] (List.getElem_mem hjz))
    have h3 : ((zs.take len).map Int.toNat)[j]? = some zs[j].toNat := by
      rw [List.getElem?_map, List.getElem?_take, if_pos hj, List.getElem?_eq_getElem hjz]
      rfl
    have h4 := u16v_at h3
    rw [h4] at hu
    injection hu with hu
    rw [← hu, List.getD_eq_getElem?_getD, List.getElem?_eq_getElem hjz]
    simp only [Option.getD_some]
    rw [Int.toNat_of_nonneg hww.1]
  · rw [List.mem_map] at hb
    obtain ⟨z, hz2, rfl⟩ := hb
    have hww := bounds_u16 (hw z (List.mem_of_mem_take hz2))
    omega
set_option maxRecDepth 100000 in
theorem u16s_arg {H : Type} {enc : TypeId × Value → H} {W : World} {base : Nat} {v : Value} {d : DataW H} {p : List MemPlace} (hok : Value.okWide Try.prog W .any base 100 v)
    (h : DataW.Trod enc Try.prog W 0 (fun _ => true) true 100 v d p) : ∃ (A : Option Addr) (cap : Nat) (l : List Nat), v = .slice A l.length cap ∧ l.length ≤ cap ∧ cap ≤ 9223372036854775807 ∧ Src W A (u16v l) ∧ ∀ b ∈ l, b < 65536 := by
  obtain ⟨a0, len, cap, rfl⟩ := okWide_slice Try.underlying100 hok
  obtain ⟨fuel, hf⟩ := h
  rcases open_ints Try.underlying100 Try.underlying101 Try.cells101 hf with ⟨hcs, _⟩ | ⟨a, len', cap', zs, hcs, _, hl, hm, hz, _, hcell, hwz⟩
  · simp only [Value.cells] at hcs
    have e : Value.slice a0 len cap = .slice none 0 0 := by simpa using hcs
    rw [e]
    exact ⟨none, 0, [], rfl, Nat.le_refl _, by omega, fun h0 => absurd h0 (by simp [u16v]), fun b hb => by cases hb⟩
  · have e : Value.slice a0 len cap = .slice (some a) len' cap' := by simpa [Value.cells] using hcs
    rw [e]
    have hz' : zs.length = cap' := by simpa using hz
    obtain ⟨h1, h2, h3⟩ := nums_src16 (W := W) (a := a) hl hz' (fun j hj => hcell j (by omega)) hwz
    exact ⟨some a, cap', _, by rw [h1], by omega, by unfold maxLen at hm; exact hm, h2, h3⟩
end Go.Proofs.Ytjobgnemklpiaaa
namespace Go.Proofs.Ytjobgnemklpiaaa
open Go.RowKit

theorem f_src_cell {W w : World} {A : Option Addr} {xs : List Value} {j : Nat} {u : Value} (h : Src W A xs) (hb : Below W.heap.size W w) (hj : xs[j]? = some u) : ∃ ad, A = some ad ∧ w.cell? (ad.add j) = some u := by
  obtain ⟨ad, rfl, hc⟩ := h (by have := (List.getElem?_eq_some_iff.1 hj).1; omega)
  exact ⟨ad, rfl, cell_below hb (hc j u hj)⟩
/-- the greatest number that was told so far -/
def dnF (dn : Nat) (ids : List Nat) (i : Nat) : Nat := if i = 0 then dn else ids.getD (i - 1) 0
theorem dnF_succ {dn : Nat} {ids : List Nat} {i a : Nat} (h : ids[i]? = some a) : dnF dn ids (i + 1) = a := by
  unfold dnF
  rw [if_neg (by omega), Nat.add_sub_cancel, List.getD_eq_getElem?_getD, h]
  rfl
theorem ids_rise {ts : List Txt} {k dn : Nat} (hp : ts.Pairwise (fun a b => a.id < b.id)) (hd : ∀ t ∈ ts, dn < t.id) : ∀ i a, ((ts.take k).map Txt.id)[i]? = some a → dnF dn ((ts.take k).map Txt.id) i < a := by
  intro i a h
  have hp2 : (ts.take k).Pairwise (fun a b => a.id < b.id) := hp.sublist (List.take_sublist _ _)
  rw [List.getElem?_map] at h
  obtain ⟨t, ht, rfl⟩ := Option.map_eq_some_iff.1 h
  unfold dnF
  split
  · exact hd t (List.mem_of_mem_take (List.mem_of_getElem? ht))
  · rename_i h0
    obtain ⟨hi, rfl⟩ := List.getElem?_eq_some_iff.1 ht
    rw [List.getD_eq_getElem?_getD, List.getElem?_map, List.getElem?_eq_getElem (show i - 1 < (ts.take k).length by omega)]
    exact List.pairwise_iff_getElem.1 hp2 (i - 1) i (by omega) hi (by omega)
theorem rest_rise {ts ts' : List Txt} {k dn : Nat} {n : Int} (hp : ts.Pairwise (fun a b => a.id < b.id)) (hd : ∀ t ∈ ts, dn < t.id) (hk : k ≤ ts.length) (hr : RestT ts k n ts') : ∀ t ∈ ts', dnF dn ((ts.take k).map Txt.id) k < t.id := by
  have key : ∀ t ∈ ts.drop k, dnF dn ((ts.take k).map Txt.id) k < t.id := by
    intro t ht
    unfold dnF
    split
    · exact hd t (List.mem_of_mem_drop ht)
    · rename_i h0
      obtain ⟨j, hj⟩ := List.getElem?_of_mem ht
      rw [List.getElem?_drop] at hj
      obtain ⟨hj2, rfl⟩ := List.getElem?_eq_some_iff.1 hj
      rw [List.getD_eq_getElem?_getD, List.getElem?_map, List.getElem?_take, if_pos (by omega), List.getElem?_eq_getElem (show k - 1 < ts.length by omega)]
      exact List.pairwise_iff_getElem.1 hp (k - 1) (k + j) (by omega) hj2 (by omega)
  rcases hr with ⟨_, rfl⟩ | ⟨_, t, t', h1, h2, h3, h4, rfl⟩
  · exact key
  · have hk2 : k < ts.length := (List.getElem?_eq_some_iff.1 h1).1
    have hdd : ts.drop k = t :: ts.drop (k + 1) := by
      rw [List.drop_eq_getElem_cons hk2]
      obtain ⟨_, e⟩ := List.getElem?_eq_some_iff.1 h1
      rw [e]
    intro y hy
    rcases List.mem_cons.1 hy with rfl | hy
    · rw [h2]
      exact key t (by rw [hdd]; exact List.mem_cons_self ..)
    · exact key y (by rw [hdd]; exact List.mem_cons_of_mem _ hy)
/-- is a text cut? -/
theorem rest_head {B p last : Nat} {R : Int} {w : World} {ts ts' : List Txt} {k : Nat} {n : Int} (hq : QS B p R w last ts) (hr : RestT ts k n ts') (hkn : 0 < k ∨ 0 < n) : headBg ts' = decide (0 < n) := by
  rcases hr with ⟨hn, rfl⟩ | ⟨hn, t, t', h1, h2, h3, h4, rfl⟩
  · rw [decide_eq_false (by omega)]
    cases h : ts.drop k with
    | nil => rfl
    | cons a r =>
      refine hq.bg a ?_
      have : a ∈ ts.drop k := by rw [h]; exact List.mem_cons_self ..
      rw [show k = 1 + (k - 1) by omega, ← List.drop_drop] at this
      exact List.mem_of_mem_drop this
  · rw [decide_eq_true hn]
    exact h4.1
theorem ids_cell {m : Nat} {w : World} {D : Option Addr} {k d i a : Nat} {ids : List Nat} (h : NewIds m w (.slice D k d) ids) (hi : ids[i]? = some a) : ∃ ad, D = some ad ∧ w.cell? (ad.add i) = some (.int .u64 a) := by
  rcases h.2 with ⟨e, h0⟩ | ⟨g, cap, cur, e, _, _, _⟩
  · have := (List.getElem?_eq_some_iff.1 hi).1
    omega
  · injection e with e1 e2 e3
    subst e1
    refine ⟨_, rfl, h.cells (g := g) rfl i _ ?_⟩
    simp [idsV, hi]
theorem ids_idx {ids : List Nat} {i : Nat} (h : i < ids.length) : ∃ a, ids[i]? = some a := ⟨_, List.getElem?_eq_getElem h⟩
/-- between two pieces -/
def CF2 (W : World) (p : Nat) (all : Value) (allB : List Nat) (dn : Nat) (gv : Value) (wr : World) : Prop :=
  ∃ (last : Nat) (ts : List Txt) (g : List Nat), CF W p last ts all allB gv g wr ∧ g ++ waitB ts = allB ∧ ∀ t ∈ ts, dn < t.id
end Go.Proofs.Ytjobgnemklpiaaa
