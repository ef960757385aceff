/-
  StatusBack: the law walked. cut: how many bytes a piece has. A queue as the statements of cut have it; what a piece's fields are together. cut's Build, as the statements use it; texts of the statement's own are pushed. umtx: a sender in memory; its source, its queue's calls. umtx: a sender is made; its queue's calls. umtx: the bytes of a head; why nothing is built.
-/
import Derived.Test.YtjonkpdjhjobfaaJUmtxLives05
import Derived.Test.YtjonkpdjhjobfaaJUmtxLives06
import Derived.Test.YtjonkpdjhjobfaaJUmtxLives07
import Derived.Deep.RegionHeld3
import Derived.Test.YtjonkpdjhjobfaaJUmtxLives12
import Derived.Test.YtjonkpdjhjobfaaJUmtxLives02
import Derived.Lib.SlBytesConst
import Derived.Test.YtjonkpdjhjobfaaJUmtxLives10
namespace Go.Proofs.Ytjonkpdjhjobfaa
open Go.RowKit

end Go.Proofs.Ytjonkpdjhjobfaa
namespace Go.Proofs.Ytjonkpdjhjobfaa
open Go.RowKit

def bytesC (ls : List Nat) (x : Int) : Int := if ls.length = 0 then 0 else if 0 < sizeF 1 x then (ls.sum : Int) + sizeF ((ls.length : Int) - 1) x else 0
end Go.Proofs.Ytjonkpdjhjobfaa
namespace Go.Proofs.Ytjonkpdjhjobfaa
open Go.RowKit

/-- a queue that calls made: numbers rise, texts are not empty, only the first one may be begun -/
structure QS (B p : Nat) (R : Int) (w : World) (last : Nat) (ts : List Txt) : Prop where
  q : QRep B w p R last ts
  up : ts.Pairwise (fun a b => a.id < b.id)
  ids : ∀ t ∈ ts, 1 ≤ t.id ∧ t.id ≤ last
  bytes : ∀ t ∈ ts, 0 < t.bs.length ∧ t.bs.length ≤ 1000 ∧ ∀ b ∈ t.bs, b < 256
  bg : ∀ t ∈ ts.drop 1, t.bg = false
  many : ts.length ≤ 64
  small : (bytesF ts : Int) ≤ R
section
variable {B p last : Nat} {R : Int} {w v : World} {ts : List Txt}
theorem QS.later (h : QS B p R w last ts) (hb : Below w.heap.size w v) : QS B p R v last ts := ⟨h.q.later hb, h.up, h.ids, h.bytes, h.bg, h.many, h.small⟩
theorem QS.with (h : QS B p R w last ts) (hq : QRep B v p R last ts) : QS B p R v last ts := ⟨hq, h.up, h.ids, h.bytes, h.bg, h.many, h.small⟩
theorem QS.start (hq : QRep B w p R 0 []) (hR : 0 ≤ R) : QS B p R w 0 [] := ⟨hq, List.Pairwise.nil, (fun t h => by cases h), (fun t h => by cases h), (fun t h => by simp at h), by simp, by simpa [bytesF] using hR⟩
/-- whatever is pushed -/
def QPushed (B p last : Nat) (R : Int) (ts : List Txt) (l : List Nat) (w : World) (e : Ending) (w' : World) : Prop :=
  ∃ (nid : Nat) (er : Int), e = .returned (.tuple #[.int .u64 nid, .int .i64 er]) ∧ QOnly B w w' ∧
    ((er = 0 ∧ nid = last + 1 ∧ 0 < l.length ∧ l.length ≤ 1000 ∧ ts.length < 64 ∧ (bytesF ts : Int) + l.length ≤ R ∧ ∃ t : Txt, t.id = last + 1 ∧ t.bs = l ∧ (t.bg = false ∧ w.heap.size ≤ t.g) ∧ QS B p R w' (last + 1) (ts ++ [t])) ∨
     (er ≠ 0 ∧ nid = 0 ∧ QS B p R w' last ts ∧ (l.length = 0 ∨ 1000 < l.length ∨ ts.length = 64 ∨ R < (bytesF ts : Int) + l.length)))
theorem QS.push (h : QS B p R w last ts) (A : Option Addr) (l : List Nat) (c : Nat) (hr : 0 < R) (hr2 : R ≤ 20000) (hll : l.length ≤ 9223372036854775807) (hlast : last ≤ 1000000000) (hb : ∀ b ∈ l, b < 256)
    (hsrc : ∀ W, QOnly B w W → QSrcB W A (qbts l)) :
    Calls Try.prog 82 #[.pointer (some ⟨p, 0, none⟩), .slice A l.length c] w (QPushed B p last R ts l w) := by
  refine (push_allg A l c h.q hr hr2 h.small h.many hll hlast hsrc).mono ?_
  rintro e w' ⟨nid, er, he, ho, ⟨h1, h2, h3, h4, h5, h6, t, k1, k2, k3, k35, k4⟩ | ⟨h1, h2, h3, h4, h5⟩⟩
  · refine ⟨nid, er, he, ho, .inl ⟨h1, h2, h3, h4, h5, h6, t, k1, k2, ⟨k3, k35⟩, k4, ?_, ?_, ?_, ?_, by simp; omega, by rw [bytesF_snoc, k2]; omega⟩⟩
    · rw [List.pairwise_append]
      refine ⟨h.up, List.pairwise_singleton _ _, fun a ha b hb' => ?_⟩
      rw [List.mem_singleton] at hb'
      subst hb'
      have := (h.ids a ha).2
      omega
    · intro y hy
      rw [List.mem_append, List.mem_singleton] at hy
      rcases hy with hy | rfl
      · have := h.ids y hy
        omega
      · omega
    · intro y hy
      rw [List.mem_append, List.mem_singleton] at hy
      rcases hy with hy | rfl
      · exact h.bytes y hy
      · rw [k2]
        exact ⟨h3, h4, hb⟩
    · intro y hy
      rcases ts with _ | ⟨a, r⟩
      · simp at hy
      · simp only [List.cons_append, List.drop_succ_cons, List.drop_zero, List.mem_append, List.mem_singleton] at hy
        rcases hy with hy | rfl
        · exact h.bg y (by simpa using hy)
        · exact k3
  · refine ⟨nid, er, he, ho, .inr ⟨h1, h2, h.with h3, ?_⟩⟩
    rcases Nat.eq_zero_or_pos l.length with h9 | h9
    · exact .inl h9
    · rcases Nat.lt_or_ge 1000 l.length with h8 | h8
      · exact .inr (.inl h8)
      · exact .inr (.inr (h5 h9 h8))
theorem bytesF_drop (ts : List Txt) (k : Nat) : bytesF (ts.drop k) ≤ bytesF ts := by
  have h := bytesF_append (ts.take k) (ts.drop k)
  rw [List.take_append_drop] at h
  omega
/-- what waits behind a piece is a queue, too -/
theorem RestT.qs {k : Nat} {n : Int} {ts' : List Txt} (h : QS B p R w last ts) (hr : RestT ts k n ts') (hq : QRep B v p R last ts') (hn : ∀ t, ts[k]? = some t → n < t.bs.length) : QS B p R v last ts' := by
  rcases hr with ⟨_, rfl⟩ | ⟨hn0, t, t', h1, h2, h3, h4, rfl⟩
  · refine ⟨hq, h.up.sublist (List.drop_sublist _ _), fun t ht => h.ids t (List.mem_of_mem_drop ht), fun t ht => h.bytes t (List.mem_of_mem_drop ht), fun t ht => ?_, by rw [List.length_drop]; have := h.many; omega, by have := bytesF_drop ts k; have := h.small; omega⟩
    rw [List.drop_drop] at ht
    refine h.bg t ?_
    rw [show k + 1 = 1 + k by omega, ← List.drop_drop] at ht
    exact List.mem_of_mem_drop ht
  · have hk : k < ts.length := (List.getElem?_eq_some_iff.1 h1).1
    have hd : ts.drop k = t :: ts.drop (k + 1) := by
      rw [List.drop_eq_getElem_cons hk]
      obtain ⟨_, e⟩ := List.getElem?_eq_some_iff.1 h1
      rw [e]
    have hm := List.mem_of_getElem? h1
    have hlt := hn t h1
    have hb := h.bytes t hm
    have hp : (t :: ts.drop (k + 1)).Pairwise (fun a b => a.id < b.id) := by rw [← hd]; exact h.up.sublist (List.drop_sublist _ _)
    rw [List.pairwise_cons] at hp
    refine ⟨hq, ?_, ?_, ?_, ?_, ?_, ?_⟩
    · rw [List.pairwise_cons, h2]
      exact hp
    · intro y hy
      rcases List.mem_cons.1 hy with rfl | hy
      · rw [h2]; exact h.ids t hm
      · exact h.ids y (List.mem_of_mem_drop hy)
    · intro y hy
      rcases List.mem_cons.1 hy with rfl | hy
      · rw [h3]
        refine ⟨by rw [List.length_drop]; omega, by rw [List.length_drop]; omega, fun b hb9 => hb.2.2 b (List.mem_of_mem_drop hb9)⟩
      · exact h.bytes y (List.mem_of_mem_drop hy)
    · intro y hy
      simp only [List.drop_succ_cons, List.drop_zero] at hy
      refine h.bg y ?_
      rw [show k + 1 = 1 + k by omega, ← List.drop_drop] at hy
      exact List.mem_of_mem_drop hy
    · simp
      have := h.many
      omega
    · rw [bytesF_cons, h3, List.length_drop]
      have h9 := bytesF_drop ts k
      rw [hd, bytesF_cons] at h9
      have := h.small
      omega
end
section
variable {room x n : Int} {ls : List Nat} {k : Nat}
theorem Bld.less (h : Bld room x ls k n) : n ≤ 0 ∨ (k < ls.length ∧ 0 < n ∧ n < (ls.getD k 0 : Nat)) := by
  rcases h.stop with h1 | h1
  · exact .inl h1
  · rcases Int.lt_or_le 0 n with h2 | h2
    · exact .inr ⟨h1.1, h2, h1.2⟩
    · exact .inl h2
theorem getD_at {ls : List Nat} {k : Nat} (h : k < ls.length) : ls[k]? = some (ls.getD k 0) := by
  rw [List.getD_eq_getElem?_getD, List.getElem?_eq_getElem h]
  rfl
theorem Bld.only {k' : Nat} {n' : Int} (h : Bld room x ls k n) (h' : Bld room x ls k' n') (hp : ∀ l ∈ ls, 0 < l) : k = k' ∧ n = n' := by
  have key : ∀ k n k' n', Bld room x ls k n → Bld room x ls k' n' → ¬ k < k' := by
    intro k n k' n' h h' hlt
    have hk : k < ls.length := by have := h'.le; omega
    have h1 := h'.whole k _ hlt (getD_at hk)
    have h2 := h.next
    have h3 := hp _ (List.mem_of_getElem? (getD_at hk))
    rcases h.stop with h4 | h4
    · omega
    · omega
  have h1 := key _ _ _ _ h h'
  have h2 := key _ _ _ _ h' h
  have e : k = k' := by omega
  subst e
  exact ⟨rfl, h.next.trans h'.next.symm⟩
/-- how many bytes the fields have -/
def fieldsL (ls : List Nat) (k : Nat) (n : Int) : List Nat := ls.take k ++ (if n ≤ 0 then [] else [n.toNat])
theorem Bld.fits (h : Bld room x ls k n) (hp : ∀ l ∈ ls, 0 < l) (hr : 0 ≤ room) (hx : 0 < sizeF 1 x) : bytesC (fieldsL ls k n) x ≤ room ∧ (0 < n → bytesC (fieldsL ls k n) x = room) ∧ (fieldsL ls k n).length ≤ 24 := by
  have hz0 := fun (m : Int) => sizeF_nonneg m x
  rcases Int.lt_or_le 0 n with h0 | h0
  · -- a text is cut
    have hk := h.less
    rw [show fieldsL ls k n = ls.take k ++ [n.toNat] by unfold fieldsL; rw [if_neg (by omega)]]
    have hn := h.next
    have hkl : k < ls.length := by omega
    have hlt : (ls.take k).length = k := by rw [List.length_take]; omega
    unfold nextF at hn
    rw [hlt] at hn
    have h24 : k < 24 := by
      rcases Nat.lt_or_ge k 24 with h9 | h9
      · exact h9
      · rw [if_pos h9] at hn
        omega
    rw [if_neg (by omega)] at hn
    have e : n = room - ((ls.take k).sum : Int) - sizeF k x := by omega
    unfold bytesC
    rw [if_neg (by simp), if_pos hx]
    simp only [List.sum_append, List.length_append, hlt, List.sum_cons, List.sum_nil, List.length_cons, List.length_nil]
    have e2 : (((k + (0 + 1) : Nat) : Int) - 1) = (k : Int) := by omega
    rw [e2]
    have h3 : ((n.toNat : Nat) : Int) = n := Int.toNat_of_nonneg (by omega)
    refine ⟨?_, fun _ => ?_, by omega⟩
    · push_cast; omega
    · push_cast; omega
  · rw [show fieldsL ls k n = ls.take k by unfold fieldsL; rw [if_pos h0, List.append_nil]]
    rcases Nat.eq_zero_or_pos k with hk | hk
    · subst hk
      unfold bytesC
      simp
      omega
    · have hkl := h.le
      have hlt : (ls.take k).length = k := by rw [List.length_take]; omega
      have h1 := h.whole (k - 1) _ (by omega) (getD_at (show k - 1 < ls.length by omega))
      have h2 := hp _ (List.mem_of_getElem? (getD_at (show k - 1 < ls.length by omega)))
      have hs : ls.take k = ls.take (k - 1) ++ [ls.getD (k - 1) 0] := by
        have := List.take_add_one (l := ls) (i := k - 1)
        rw [show k - 1 + 1 = k by omega, getD_at (show k - 1 < ls.length by omega)] at this
        simpa using this
      have hlt1 : (ls.take (k - 1)).length = k - 1 := by rw [List.length_take]; omega
      unfold nextF at h1
      rw [hlt1] at h1
      have h24 : k - 1 < 24 := by
        rcases Nat.lt_or_ge (k - 1) 24 with h9 | h9
        · exact h9
        · rw [if_pos h9] at h1
          omega
      rw [if_neg (by omega)] at h1
      have hss : ((ls.take k).sum : Int) = ((ls.take (k - 1)).sum : Int) + (ls.getD (k - 1) 0 : Nat) := by
        rw [hs]
        simp
      unfold bytesC
      rw [if_neg (by omega), if_pos hx, hlt]
      have e2 : ((k : Int) - 1) = ((k - 1 : Nat) : Int) := by omega
      rw [e2]
      refine ⟨by omega, fun h9 => by omega, by omega⟩
end
/-- the bytes that wait -/
def waitB (ts : List Txt) : List Nat := (ts.map Txt.bs).flatten
/-- what is taken, and what waits behind it, is what waited -/
theorem RestT.bytes {ts ts' : List Txt} {k : Nat} {n : Int} (h : RestT ts k n ts') : (fieldsT (ts.map Txt.bs) k n).flatten ++ waitB ts' = waitB ts := by
  unfold fieldsT waitB
  rcases h with ⟨hn, rfl⟩ | ⟨hn, t, t', h1, h2, h3, h4, rfl⟩
  · rw [if_pos hn, List.append_nil, List.map_drop, ← List.flatten_append, List.take_append_drop]
  · have hk : k < ts.length := (List.getElem?_eq_some_iff.1 h1).1
    have hd : ts.map Txt.bs = (ts.map Txt.bs).take k ++ t.bs :: (ts.drop (k + 1)).map Txt.bs := by
      have e : ts.drop k = t :: ts.drop (k + 1) := by
        rw [List.drop_eq_getElem_cons hk]
        obtain ⟨_, e⟩ := List.getElem?_eq_some_iff.1 h1
        rw [e]
      conv => lhs; rw [← List.take_append_drop k ts, e]
      rw [List.map_append, List.map_cons, List.map_take]
    have hg : (ts.map Txt.bs).getD k [] = t.bs := by
      rw [List.getD_eq_getElem?_getD, List.getElem?_map, h1]
      rfl
    rw [if_neg (by omega), hg]
    conv => rhs; rw [hd]
    simp only [List.flatten_append, List.map_cons, List.flatten_cons, h3, List.flatten_nil, List.append_nil, List.append_assoc]
    rw [← List.append_assoc (t.bs.take _), List.take_append_drop]
theorem lens_fieldsT {ts : List Txt} {k : Nat} {n : Int} {L : List RowB} (h : texts L = fieldsT (ts.map Txt.bs) k n) (hn : n ≤ 0 ∨ n ≤ ((lenT ts).getD k 0 : Nat)) : lens L = fieldsL (lenT ts) k n := by
  rw [lens_texts, h]
  unfold fieldsT fieldsL
  rw [List.map_append, List.map_take]
  congr 1
  · unfold lenT
    rw [List.map_map]
    rfl
  · split
    · rfl
    · rename_i h9
      have e : ((ts.map Txt.bs).getD k []).length = (lenT ts).getD k 0 := by
        unfold lenT
        rw [List.getD_eq_getElem?_getD, List.getD_eq_getElem?_getD, List.getElem?_map, List.getElem?_map]
        cases ts[k]? <;> rfl
      simp only [List.map_cons, List.map_nil, List.length_take, e]
      congr 1
      omega
/-- block g holds none of the texts' bytes -/
def Clear (ts : List Txt) (v : Value) : Prop := ∀ t ∈ ts, v.ownBlock ≠ some t.g
theorem RestT.clear {ts ts' : List Txt} {k : Nat} {n : Int} {v : Value} (h : RestT ts k n ts') (hc : Clear ts v) : Clear ts' v := by
  rcases h with ⟨_, rfl⟩ | ⟨_, t, t', h1, _, _, h4, rfl⟩
  · exact fun t ht => hc t (List.mem_of_mem_drop ht)
  · intro y hy
    rcases List.mem_cons.1 hy with rfl | hy
    · rw [h4.2]
      exact hc t (List.mem_of_getElem? h1)
    · exact hc y (List.mem_of_mem_drop hy)
end Go.Proofs.Ytjonkpdjhjobfaa
namespace Go.Proofs.Ytjonkpdjhjobfaa
open Go.RowKit

section
variable {B p last : Nat} {R : Int} {w v : World} {ts : List Txt}
/-- what Build does, the queue told whole -/
def CutQ (B p last : Nat) (R : Int) (ts : List Txt) (room x : Int) (w : World) (e : Ending) (w' : World) : Prop :=
  ∃ k n ts', Bld room x (lenT ts) k n ∧ RestT ts k n ts' ∧ QS B p R w' last ts' ∧ QOnly B w w' ∧
    ((k = 0 ∧ n ≤ 0 ∧ e = .returned (.tuple #[.agg #[.int .i64 0, .slice none 0 0, .slice none 0 0], .int .i64 4])) ∨
     ((0 < k ∨ 0 < n) ∧ ∃ A D L, e = .returned (.tuple #[.agg #[.int .i64 (fiT ts n), .slice A L.length L.length, .slice D k k], .int .i64 0]) ∧ texts L = fieldsT (ts.map Txt.bs) k n ∧
        (∃ c, NewRows w.heap.size w' (.slice A L.length c) L) ∧ ∃ c, NewIds w.heap.size w' (.slice D k c) ((ts.take k).map Txt.id)))
theorem lenT_pos (h : ∀ t ∈ ts, 0 < t.bs.length) : ∀ l ∈ lenT ts, 0 < l := by
  intro l hl
  unfold lenT at hl
  rw [List.mem_map] at hl
  obtain ⟨t, ht, rfl⟩ := hl
  exact h t ht
theorem Bld.below {room x n : Int} {k : Nat} (h : Bld room x (lenT ts) k n) (hp : ∀ t ∈ ts, 0 < t.bs.length) : ∀ t, ts[k]? = some t → n < t.bs.length := by
  intro t ht
  have h1 := hp t (List.mem_of_getElem? ht)
  have h2 := lenT_at ht
  rcases h.less with h3 | ⟨_, _, h3⟩
  · omega
  · rw [List.getD_eq_getElem?_getD, h2] at h3
    exact h3
theorem QS.build (h : QS B p R w last ts) (room x : Int) (hr : 0 < R) (hf : faultC room x = 0) :
    Calls Try.prog 84 #[.pointer (some ⟨p, 0, none⟩), .int .i64 room, .int .i64 x] w (CutQ B p last R ts room x w) := by
  refine (cutbuild_ok room x h.q hr h.many (fun t ht => (h.ids t ht).1) hf h.bytes h.bg).mono ?_
  rintro e w' ⟨k, n, ts', h1, h2, h3, h4, h5⟩
  exact ⟨k, n, ts', h1, h2, h2.qs h h3 (h1.below (fun t ht => (h.bytes t ht).1)), h4, h5⟩
theorem csrc_mark (w1 : World) (l : List Nat) (fr : Nat × Nat) (W : World) (h : QOnly B (w1.alloc (.cells (bts l).toArray 5 fr)) W) : QSrcB W (some ⟨w1.heap.size, 0, none⟩) (qbts l) := by
  intro _
  have hnew : (w1.alloc (.cells (bts l).toArray 5 fr)).heap[w1.heap.size]? = some (.cells (bts l).toArray 5 fr) := heap_alloc_new w1 _
  have hW : W.heap[w1.heap.size]? = some (.cells (bts l).toArray 5 fr) := by
    rw [Only.same h w1.heap.size (by simp) (fun ⟨_, t, cs, hr, ht⟩ => ?_)]
    · exact hnew
    · unfold Row at hr
      rw [hnew] at hr
      injection hr with hr
      injection hr with _ hr
      subst hr
      rcases ht with ht | ht
      · exact absurd ht (by decide)
      · exact absurd ht (by decide)
  refine ⟨_, _, rfl, fun j u hu => ?_⟩
  rw [Nat.zero_add, cell_of_row W w1.heap.size j _ 5 fr hW]
  have hu' : (bts l)[j]? = some u := hu
  simpa using hu'
end
end Go.Proofs.Ytjonkpdjhjobfaa
namespace Go.Proofs.Ytjonkpdjhjobfaa
open Go.RowKit

def MCells (c : Cf) (q : Value) : Array Value := #[.int .i64 c.mode, .int .i64 c.bits, .int .i64 c.win, .int .i64 c.reo, .int .i64 c.prx, .int .i64 c.pro, .int .i64 c.ppd, .int .i64 c.pby, .int .i64 c.mrx, .int .i64 c.qb, q]
def SCells (c : Cf) (q : Value) (nx : Int) : Array Value := #[.int .i64 c.mode, .int .i64 c.bits, .int .i64 c.win, .int .i64 c.reo, .int .i64 c.prx, .int .i64 c.pro, .int .i64 c.ppd, .int .i64 c.pby, .int .i64 c.mrx, .int .i64 c.qb, q, .int .i64 nx]
theorem Try.infosrc : (Try.prog.info? 32).map (·.size) = some 11 := by kernel_rfl
theorem Try.undersrc : (Try.prog.underlying 32).map (fun d => match d with | .struct _ => true | _ => false) = some true := by kernel_rfl
theorem undersrc_parts : ∃ fs, Try.prog.underlying 32 = some (.struct fs) := by
  obtain ⟨d, hd, h⟩ := Option.map_eq_some_iff.1 Try.undersrc
  cases d with
  | struct fs => exact ⟨fs, hd⟩
  | _ => simp at h
section
variable {x : Nat} {c : Cf} {v : Option Addr} {nx : Int} {w : World}
theorem scell_reads (h : Row w x 34 (SCells c (.pointer v) nx)) : w.cell? ⟨x, 0, none⟩ = some (.int .i64 c.mode) ∧ w.cell? ⟨x, 1, none⟩ = some (.int .i64 c.bits) ∧ w.cell? ⟨x, 2, none⟩ = some (.int .i64 c.win) ∧ w.cell? ⟨x, 3, none⟩ = some (.int .i64 c.reo) ∧ w.cell? ⟨x, 4, none⟩ = some (.int .i64 c.prx) ∧ w.cell? ⟨x, 5, none⟩ = some (.int .i64 c.pro) ∧ w.cell? ⟨x, 6, none⟩ = some (.int .i64 c.ppd) ∧ w.cell? ⟨x, 7, none⟩ = some (.int .i64 c.pby) ∧ w.cell? ⟨x, 8, none⟩ = some (.int .i64 c.mrx) ∧ w.cell? ⟨x, 9, none⟩ = some (.int .i64 c.qb) ∧ w.cell? ⟨x, 10, none⟩ = some (.pointer v) ∧ w.cell? ⟨x, 11, none⟩ = some (.int .i64 nx) :=
  ⟨h.read rfl, h.read rfl, h.read rfl, h.read rfl, h.read rfl, h.read rfl, h.read rfl, h.read rfl, h.read rfl, h.read rfl, h.read rfl, h.read rfl⟩
set_option maxRecDepth 100000 in
set_option maxHeartbeats 800000 in
theorem usource_any (h : Row w x 34 (SCells c (.pointer v) nx)) : Calls Try.prog 81 #[.pointer (some ⟨x, 0, none⟩)] w fun e w' => e = .returned (.agg (MCells c (.pointer v))) ∧ Below w.heap.size w w' := by
  obtain ⟨a0, a1, a2, a3, a4, a5, a6, a7, a8, a9, a10, _⟩ := scell_reads h
  have hx := h.inside
  obtain ⟨mode, bits, win, reo, prx, pro, ppd, pby, mrx, qb⟩ := c
  unfold MCells
  simp only at *
  clear h
  go_enter Try.func81, Try.ntmps81
  go_wp2
  obtain ⟨dd, hdd⟩ := undersrc_parts
  refine bodyPost_ret (results_cell_row rfl _ _ w.heap.size 32 #[.int .i64 mode, .int .i64 bits, .int .i64 win, .int .i64 reo, .int .i64 prx, .int .i64 pro, .int .i64 ppd, .int .i64 pby, .int .i64 mrx, .int .i64 qb, .pointer v] (0, 0) (.struct dd) rfl (Row.made _ _ _) hdd rfl Try.infosrc) rfl ?_
  exact ⟨rfl, bl_alloc (Below.refl _ _) _⟩
end
end Go.Proofs.Ytjonkpdjhjobfaa
namespace Go.Proofs.Ytjonkpdjhjobfaa
open Go.RowKit

set_option maxRecDepth 100000 in
set_option maxHeartbeats 1600000 in
theorem unew_ok (bits win reo prx pro ppd pby mrx qb : Int) (w : World) (hck : checkF ⟨1, bits, win, reo, prx, pro, ppd, pby, mrx, qb⟩ = 0) (h1 : 1 ≤ qb) (h2 : qb ≤ 20000) :
    Calls Try.prog 10 #[.agg (Cf.a ⟨1, bits, win, reo, prx, pro, ppd, pby, mrx, qb⟩)] w fun e w' => ∃ x q : Nat, e = .returned (.tuple #[.pointer (some ⟨x, 0, none⟩), .int .i64 0]) ∧ Row w' x 34 (SCells ⟨1, bits, win, reo, prx, pro, ppd, pby, mrx, qb⟩ (.pointer (some ⟨q, 0, none⟩)) 0) ∧ QRep w.heap.size w' q qb 0 [] ∧ Below w.heap.size w w' ∧ w.heap.size ≤ x := by
  have HCK := Lib.hid (fun W => pcheck_any ⟨1, bits, win, reo, prx, pro, ppd, pby, mrx, qb⟩ W)
  rw [hck] at HCK
  unfold Cf.a at *
  have ROW := Lib.hid (Row.made w 23 #[.int .i64 1, .int .i64 bits, .int .i64 win, .int .i64 reo, .int .i64 prx, .int .i64 pro, .int .i64 ppd, .int .i64 pby, .int .i64 mrx, .int .i64 qb])
  have HB0 := Lib.hid (bl_alloc (Below.refl w.heap.size w) (.cells #[.int .i64 1, .int .i64 bits, .int .i64 win, .int .i64 reo, .int .i64 prx, .int .i64 pro, .int .i64 ppd, .int .i64 pby, .int .i64 mrx, .int .i64 qb] 23))
  obtain ⟨c0, c1, c2, c3, c4, c5, c6, c7, c8, c9⟩ := cells10 ROW.out
  clear hck
  go_enter Try.func10, Try.ntmps10
  go_wp2_with (first
    | (go_at_call 77; (with_reducible refine (HCK.out _).mono ?_); rintro e w1 ⟨rfl, hb1⟩; (have HB1 := Lib.hid (bl_step HB0.out hb1); have ROW1 := Lib.hid (ROW.out.later hb1); clear hb1 c0 c1 c2 c3 c4 c5 c6 c7 c8 c9; obtain ⟨c0, c1, c2, c3, c4, c5, c6, c7, c8, c9⟩ := cells10 ROW1.out))
    | (go_at_call 78; (with_reducible refine (qnew_any w.heap.size qb w1 HB1.out.size h1 h2).mono ?_); rintro e w2 ⟨rfl, hq, hb2⟩; (have HQ := Lib.hid hq; have HB2 := Lib.hid (bl_step HB1.out hb2); have ROW2 := Lib.hid (ROW1.out.later hb2); clear hq hb2 c0 c1 c2 c3 c4 c5 c6 c7 c8 c9; obtain ⟨c0, c1, c2, c3, c4, c5, c6, c7, c8, c9⟩ := cells10 ROW2.out)))
  go_ret2
  exact ⟨_, w1.heap.size, rfl, Row.made w2 34 _, HQ.out.later (bl_alloc (Below.refl _ _) _), bl_alloc HB2.out _, HB2.out.size⟩
set_option maxRecDepth 100000 in
set_option maxHeartbeats 1600000 in
theorem unew_kind (mode bits win reo prx pro ppd pby mrx qb : Int) (w : World) (hck : checkF ⟨mode, bits, win, reo, prx, pro, ppd, pby, mrx, qb⟩ = 0) (hm : mode ≠ 1) :
    Calls Try.prog 10 #[.agg (Cf.a ⟨mode, bits, win, reo, prx, pro, ppd, pby, mrx, qb⟩)] w fun e w' => e = .returned (.tuple #[.pointer none, .int .i64 9]) ∧ Below w.heap.size w w' := by
  have HCK := Lib.hid (fun W => pcheck_any ⟨mode, bits, win, reo, prx, pro, ppd, pby, mrx, qb⟩ W)
  rw [hck] at HCK
  unfold Cf.a at *
  have ROW := Lib.hid (Row.made w 23 #[.int .i64 mode, .int .i64 bits, .int .i64 win, .int .i64 reo, .int .i64 prx, .int .i64 pro, .int .i64 ppd, .int .i64 pby, .int .i64 mrx, .int .i64 qb])
  have HB0 := Lib.hid (bl_alloc (Below.refl w.heap.size w) (.cells #[.int .i64 mode, .int .i64 bits, .int .i64 win, .int .i64 reo, .int .i64 prx, .int .i64 pro, .int .i64 ppd, .int .i64 pby, .int .i64 mrx, .int .i64 qb] 23))
  obtain ⟨c0, c1, c2, c3, c4, c5, c6, c7, c8, c9⟩ := cells10 ROW.out
  have hne : (mode != 1) = true := by simpa using hm
  clear hck hm
  go_enter Try.func10, Try.ntmps10
  go_wp2_with (first
    | (go_at_call 77; (with_reducible refine (HCK.out _).mono ?_); rintro e w1 ⟨rfl, hb1⟩; (have HB1 := Lib.hid (bl_step HB0.out hb1); have ROW1 := Lib.hid (ROW.out.later hb1); clear hb1 c0 c1 c2 c3 c4 c5 c6 c7 c8 c9; obtain ⟨c0, c1, c2, c3, c4, c5, c6, c7, c8, c9⟩ := cells10 ROW1.out)))
  go_ret2
  exact ⟨rfl, HB1.out⟩
set_option maxRecDepth 100000 in
set_option maxHeartbeats 1600000 in
theorem unew_bad (mode bits win reo prx pro ppd pby mrx qb : Int) (w : World) (hck : checkF ⟨mode, bits, win, reo, prx, pro, ppd, pby, mrx, qb⟩ ≠ 0) :
    Calls Try.prog 10 #[.agg (Cf.a ⟨mode, bits, win, reo, prx, pro, ppd, pby, mrx, qb⟩)] w fun e w' => e = .returned (.tuple #[.pointer none, .int .i64 (checkF ⟨mode, bits, win, reo, prx, pro, ppd, pby, mrx, qb⟩)]) ∧ Below w.heap.size w w' := by
  have HCK := Lib.hid (fun W => pcheck_any ⟨mode, bits, win, reo, prx, pro, ppd, pby, mrx, qb⟩ W)
  generalize checkF ⟨mode, bits, win, reo, prx, pro, ppd, pby, mrx, qb⟩ = er at *
  have hne : (er != 0) = true := by simpa using hck
  unfold Cf.a at *
  have ROW := Lib.hid (Row.made w 23 #[.int .i64 mode, .int .i64 bits, .int .i64 win, .int .i64 reo, .int .i64 prx, .int .i64 pro, .int .i64 ppd, .int .i64 pby, .int .i64 mrx, .int .i64 qb])
  have HB0 := Lib.hid (bl_alloc (Below.refl w.heap.size w) (.cells #[.int .i64 mode, .int .i64 bits, .int .i64 win, .int .i64 reo, .int .i64 prx, .int .i64 pro, .int .i64 ppd, .int .i64 pby, .int .i64 mrx, .int .i64 qb] 23))
  obtain ⟨c0, c1, c2, c3, c4, c5, c6, c7, c8, c9⟩ := cells10 ROW.out
  clear hck
  go_enter Try.func10, Try.ntmps10
  go_wp2_with (first
    | (go_at_call 77; (with_reducible refine (HCK.out _).mono ?_); rintro e w1 ⟨rfl, hb1⟩; (have HB1 := Lib.hid (bl_step HB0.out hb1); clear hb1)))
  go_ret2
  exact ⟨rfl, HB1.out⟩
theorem field_queue (mode bits win reo prx pro ppd pby mrx qb : Int) (v : Option Addr) : ∀ W : World, (Instr.field 32 (.agg #[.int .i64 mode, .int .i64 bits, .int .i64 win, .int .i64 reo, .int .i64 prx, .int .i64 pro, .int .i64 ppd, .int .i64 pby, .int .i64 mrx, .int .i64 qb, .pointer v]) 1).run Try.prog W = .ok (.pointer v) W := fun _ => by kernel_rfl
section
variable {B x q last : Nat} {c : Cf} {room nx : Int} {ts : List Txt} {w : World}
set_option maxRecDepth 100000 in
set_option maxHeartbeats 800000 in
theorem upush_all (A : Option Addr) (l : List Nat) (n k : Nat) (hn : l.length = n) (hE : Row w x 34 (SCells c (.pointer (some ⟨q, 0, none⟩)) nx)) (h : QS B q room w last ts) (hr : 0 < room) (hr2 : room ≤ 20000) (hll : n ≤ 9223372036854775807) (hlast : last ≤ 1000000000) (hb : ∀ b ∈ l, b < 256)
    (hsrc : ∀ W W', Below w.heap.size w W → QOnly B W W' → QSrcB W' A (qbts l)) :
    Calls Try.prog 12 #[.pointer (some ⟨x, 0, none⟩), .slice A n k] w fun e w' => ∃ w1, Below w.heap.size w w1 ∧ QPushed B q last room ts l w1 e w' := by
  have HQ := Lib.hid (usource_any hE)
  have HP := Lib.hid (fun W (hW : Below w.heap.size w W) => (h.later hW).push A l k hr hr2 (by rw [hn]; exact hll) hlast hb (fun W' hW' => hsrc W W' hW hW'))
  rw [hn] at HP
  obtain ⟨mode, bits, win, reo, prx, pro, ppd, pby, mrx, qb⟩ := c
  unfold MCells at HQ
  simp only at HQ
  have hfd := field_queue mode bits win reo prx pro ppd pby mrx qb (some ⟨q, 0, none⟩)
  clear hE h hsrc hn hb
  go_enter Try.func12, Try.ntmps12
  go_wp2_with (first
    | (go_at_call 81; (with_reducible refine HQ.out.mono ?_); rintro e w1 ⟨rfl, hb1⟩; (have HB1 := Lib.hid hb1; clear hb1))
    | (go_at_call 82; (with_reducible refine (HP.out w1 HB1.out).mono ?_); rintro e w2 ⟨nid, er, rfl, hq, hz9⟩; have H : Hid (QPushed B q last room ts l w1 (.returned (.tuple #[.int .u64 nid, .int .i64 er])) w2) := Lib.hid ⟨nid, er, rfl, hq, hz9⟩; clear hq hz9))
  go_ret2
  exact ⟨w1, HB1.out, H.out⟩
set_option maxRecDepth 100000 in
set_option maxHeartbeats 800000 in
theorem udisc_any (nid : Nat) (hE : Row w x 34 (SCells c (.pointer (some ⟨q, 0, none⟩)) nx)) (h : QRep B w q room last ts) (hr : 0 < room) (hn : ts.length ≤ 900) :
    Calls Try.prog 14 #[.pointer (some ⟨x, 0, none⟩), .int .u64 nid] w fun e w' => ∃ w1, Below w.heap.size w w1 ∧ e = .returned (.int .i64 (discE nid ts)) ∧ QRep B w' q room last (discF nid ts) ∧ QOnly B w1 w' := by
  have HQ := Lib.hid (usource_any hE)
  have HP := Lib.hid (fun W (hW : Below w.heap.size w W) => discard_any nid (h.later hW) hr hn)
  obtain ⟨mode, bits, win, reo, prx, pro, ppd, pby, mrx, qb⟩ := c
  unfold MCells at HQ
  simp only at HQ
  have hfd := field_queue mode bits win reo prx pro ppd pby mrx qb (some ⟨q, 0, none⟩)
  clear hE h
  go_enter Try.func14, Try.ntmps14
  go_wp2_with (first
    | (go_at_call 81; (with_reducible refine HQ.out.mono ?_); rintro e w1 ⟨rfl, hb1⟩; (have HB1 := Lib.hid hb1; clear hb1))
    | (go_at_call 88; (with_reducible refine (HP.out w1 HB1.out).mono ?_); rintro e w2 ⟨rfl, hq, ho⟩; (have H1 := Lib.hid hq; have H2 := Lib.hid ho; clear hq ho)))
  go_ret
  exact ⟨w1, HB1.out, rfl, H1.out, H2.out⟩
set_option maxRecDepth 100000 in
set_option maxHeartbeats 800000 in
theorem ubytes_any (hE : Row w x 34 (SCells c (.pointer (some ⟨q, 0, none⟩)) nx)) (h : QRep B w q room last ts) (hr : 0 < room) (hb : bytesF ts ≤ 1000000000) :
    Calls Try.prog 15 #[.pointer (some ⟨x, 0, none⟩)] w fun e w' => e = .returned (.int .i64 (bytesF ts : Nat)) ∧ Below w.heap.size w w' := by
  have HQ := Lib.hid (usource_any hE)
  have HP := Lib.hid (fun W (hW : Below w.heap.size w W) => qbytes_any (h.later hW) hr hb)
  obtain ⟨mode, bits, win, reo, prx, pro, ppd, pby, mrx, qb⟩ := c
  unfold MCells at HQ
  simp only at HQ
  have hfd := field_queue mode bits win reo prx pro ppd pby mrx qb (some ⟨q, 0, none⟩)
  clear hE h
  go_enter Try.func15, Try.ntmps15
  go_wp2_with (first
    | (go_at_call 81; (with_reducible refine HQ.out.mono ?_); rintro e w1 ⟨rfl, hb1⟩; (have HB1 := Lib.hid hb1; clear hb1))
    | (go_at_call 89; (with_reducible refine (HP.out w1 HB1.out).mono ?_); rintro e w2 ⟨rfl, hbl⟩; (have H1 := Lib.hid hbl; clear hbl)))
  go_ret
  exact ⟨rfl, bl_step HB1.out H1.out⟩
theorem unext_any {v : Option Addr} (hE : Row w x 34 (SCells c (.pointer v) nx)) :
    Calls Try.prog 16 #[.pointer (some ⟨x, 0, none⟩)] w fun e w' => e = .returned (.int .i64 nx) ∧ w = w' := by
  have c1 := hE.read (i := 11) (x := .int .i64 nx) rfl
  clear hE
  go_enter Try.func16, Try.ntmps16
  go_wp2
  go_ret
  exact ⟨rfl, rfl⟩
end
end Go.Proofs.Ytjonkpdjhjobfaa
namespace Go.Proofs.Ytjonkpdjhjobfaa
open Go.RowKit

section
variable {B q last : Nat} {c : Cf} {room : Int} {ts : List Txt} {w : World}
theorem rsrc_one {W : World} {g1 g2 : Nat} (h1 : Row W g1 5 #[.int .u8 0]) (h2 : Row W g2 38 #[.slice (some ⟨g1, 0, none⟩) 1 1]) : RSrc W (some ⟨g2, 0, none⟩) [⟨some ⟨g1, 0, none⟩, 1, [0]⟩] := by
  intro _
  refine ⟨_, rfl, ?_⟩
  intro k r hk
  rcases k with _ | k
  · simp at hk
    subst hk
    exact ⟨h2.read rfl, row_src (xs := bts [0]) h1, Nat.le_refl _, by show 1 ≤ 9223372036854775807; decide, by show ∀ b ∈ [0], b < 256; decide⟩
  · simp at hk
theorem usize_one {W : World} {g1 g2 : Nat} (bits : Int) (hb : bits = 5 ∨ bits = 10) (h1 : Row W g1 5 #[.int .u8 0]) (h2 : Row W g2 38 #[.slice (some ⟨g1, 0, none⟩) 1 1]) :
    Calls Try.prog 155 #[.agg #[.int .i64 0, .int .i64 0, .slice (some ⟨g2, 0, none⟩) 1 1], .int .i64 bits] W fun e w' => e = .returned (.int .i64 (bits / 5 + 1)) ∧ Below W.heap.size W w' := by
  have h := usize_any 0 0 bits 1 1 W rfl (by omega) (rsrc_one h1 h2) (by show ∀ m ∈ [1], m ≤ 9223372036854775807; decide)
  have e : umdF 0 0 (lens [⟨some ⟨g1, 0, none⟩, 1, [0]⟩]) bits = bits / 5 + 1 := by
    show umdF 0 0 [1] bits = bits / 5 + 1
    rcases hb with rfl | rfl <;> decide +kernel
  rw [e] at h
  exact h
theorem three_rows (W : World) (n : Nat) (hW : W.heap.size = n) :
    Row (((W.alloc (.cells #[.int .u8 0] 5)).alloc (.cells #[.slice (some ⟨n, 0, none⟩) 1 1] 38)).alloc (.cells #[.int .i64 0, .int .i64 0, .slice (some ⟨n + 1, 0, none⟩) 1 1] 146)) n 5 #[.int .u8 0] ∧
    Row (((W.alloc (.cells #[.int .u8 0] 5)).alloc (.cells #[.slice (some ⟨n, 0, none⟩) 1 1] 38)).alloc (.cells #[.int .i64 0, .int .i64 0, .slice (some ⟨n + 1, 0, none⟩) 1 1] 146)) (n + 1) 38 #[.slice (some ⟨n, 0, none⟩) 1 1] := by
  subst hW
  refine ⟨((Row.made W 5 #[.int .u8 0]).later (bl_alloc (Below.refl _ _) _)).later (bl_alloc (Below.refl _ _) _), ?_⟩
  have h := (Row.made (W.alloc (.cells #[.int .u8 0] 5)) 38 #[.slice (some ⟨W.heap.size, 0, none⟩) 1 1]).later (bl_alloc (Below.refl _ _) (.cells #[.int .i64 0, .int .i64 0, .slice (some ⟨W.heap.size + 1, 0, none⟩) 1 1] 146))
  rw [show (W.alloc (.cells #[.int .u8 0] 5)).heap.size = W.heap.size + 1 by simp] at h
  exact h
set_option maxRecDepth 100000 in
set_option maxHeartbeats 1600000 in
theorem uhead_any (v : Option Addr) (hb : c.bits = 5 ∨ c.bits = 10) : Calls Try.prog 85 #[.agg (MCells c (.pointer v))] w fun e w' => e = .returned (.int .i64 (c.bits / 5)) ∧ Below w.heap.size w w' := by
  have HS := Lib.hid (fun W g1 g2 h1 h2 => usize_one (W := W) (g1 := g1) (g2 := g2) c.bits hb h1 h2)
  obtain ⟨mode, bits, win, reo, prx, pro, ppd, pby, mrx, qb⟩ := c
  unfold MCells
  simp only at *
  have hz : wrap64 (bits / 5) = bits / 5 := by
    rcases hb with rfl | rfl <;> decide +kernel
  clear hb
  have HA := Lib.hid (bl_alloc (Below.refl w.heap.size w) (.cells #[.int .i64 mode, .int .i64 bits, .int .i64 win, .int .i64 reo, .int .i64 prx, .int .i64 pro, .int .i64 ppd, .int .i64 pby, .int .i64 mrx, .int .i64 qb, .pointer v] 32))
  have HZ := Lib.hid (show (w.alloc (.cells #[.int .i64 mode, .int .i64 bits, .int .i64 win, .int .i64 reo, .int .i64 prx, .int .i64 pro, .int .i64 ppd, .int .i64 pby, .int .i64 mrx, .int .i64 qb, .pointer v] 32)).heap.size = w.heap.size + 1 by simp)
  have HR := Lib.hid (fun W (hW : W.heap.size = w.heap.size + 1) => three_rows W (w.heap.size + 1) hW)
  go_enter Try.func85, Try.ntmps85
  go_wp2_with (go_at_call 155; (have h3 := HR.out _ HZ.out); (with_reducible refine (HS.out _ _ _ h3.1 h3.2).mono ?_); rintro e w2 ⟨rfl, hb2⟩; (have H2 := Lib.hid (bl_step (bl_alloc (bl_alloc (bl_alloc HA.out _) _) _) hb2)); clear hb2 h3)
  go_ret
  exact ⟨ret_int hz, H2.out⟩
theorem mcell_reads {W : World} {x : Nat} {mode bits win reo prx pro ppd pby mrx qb : Int} {v : Option Addr} (h : Row W x 32 #[.int .i64 mode, .int .i64 bits, .int .i64 win, .int .i64 reo, .int .i64 prx, .int .i64 pro, .int .i64 ppd, .int .i64 pby, .int .i64 mrx, .int .i64 qb, .pointer v]) : W.cell? ⟨x, 0, none⟩ = some (.int .i64 mode) ∧ W.cell? ⟨x, 1, none⟩ = some (.int .i64 bits) ∧ W.cell? ⟨x, 2, none⟩ = some (.int .i64 win) ∧ W.cell? ⟨x, 3, none⟩ = some (.int .i64 reo) ∧ W.cell? ⟨x, 4, none⟩ = some (.int .i64 prx) ∧ W.cell? ⟨x, 5, none⟩ = some (.int .i64 pro) ∧ W.cell? ⟨x, 6, none⟩ = some (.int .i64 ppd) ∧ W.cell? ⟨x, 7, none⟩ = some (.int .i64 pby) ∧ W.cell? ⟨x, 8, none⟩ = some (.int .i64 mrx) ∧ W.cell? ⟨x, 9, none⟩ = some (.int .i64 qb) ∧ W.cell? ⟨x, 10, none⟩ = some (.pointer v) :=
  ⟨h.read rfl, h.read rfl, h.read rfl, h.read rfl, h.read rfl, h.read rfl, h.read rfl, h.read rfl, h.read rfl, h.read rfl, h.read rfl⟩
/-- why nothing is built to a grant, of n bytes that wait -/
def faultU (g n bits : Int) : Int := if g < 0 ∨ 4096 < g then 1 else if n = 0 then 4 else if g ≤ bits / 5 then 16 else 0
set_option maxRecDepth 100000 in
set_option maxHeartbeats 3200000 in
theorem ufault_any (g : Int) (hb : c.bits = 5 ∨ c.bits = 10) (h : QRep B w q room last ts) (hr : 0 < room) (hbb : bytesF ts ≤ 1000000000) : Calls Try.prog 83 #[.agg (MCells c (.pointer (some ⟨q, 0, none⟩))), .int .i64 g] w fun e w' => e = .returned (.int .i64 (faultU g (bytesF ts : Nat) c.bits)) ∧ Below w.heap.size w w' := by
  have HH := Lib.hid (fun W => uhead_any (c := c) (w := W) (some ⟨q, 0, none⟩) hb)
  have HP := Lib.hid (fun W (hW : Below w.heap.size w W) => qbytes_any (h.later hW) hr hbb)
  have HF := Lib.hid (show faultU g (bytesF ts : Nat) c.bits = faultU g (bytesF ts : Nat) c.bits from rfl)
  obtain ⟨mode, bits, win, reo, prx, pro, ppd, pby, mrx, qb⟩ := c
  unfold MCells at *
  simp only at *
  have HA := Lib.hid (bl_alloc (Below.refl w.heap.size w) (.cells #[.int .i64 mode, .int .i64 bits, .int .i64 win, .int .i64 reo, .int .i64 prx, .int .i64 pro, .int .i64 ppd, .int .i64 pby, .int .i64 mrx, .int .i64 qb, .pointer (some ⟨q, 0, none⟩)] 32))
  have HROW := Lib.hid (Row.made w 32 #[.int .i64 mode, .int .i64 bits, .int .i64 win, .int .i64 reo, .int .i64 prx, .int .i64 pro, .int .i64 ppd, .int .i64 pby, .int .i64 mrx, .int .i64 qb, .pointer (some ⟨q, 0, none⟩)])
  generalize bytesF ts = n at *
  generalize hd0 : bits / 5 = hd at *
  have HD := Lib.hid hd0
  clear hd0
  clear hb h hbb
  obtain ⟨c0, c1, c2, c3, c4, c5, c6, c7, c8, c9, c10⟩ := mcell_reads HROW.out
  clear HF
  go_enter Try.func83, Try.ntmps83
  go_wp2_with (first
    | (go_at_call 89; (with_reducible refine (HP.out _ HA.out).mono ?_); rintro e w2 ⟨rfl, hb2⟩; (have HB2 := Lib.hid (bl_step HA.out hb2); have ROW2 := Lib.hid (HROW.out.later hb2); clear hb2 c0 c1 c2 c3 c4 c5 c6 c7 c8 c9 c10; obtain ⟨c0, c1, c2, c3, c4, c5, c6, c7, c8, c9, c10⟩ := mcell_reads ROW2.out))
    | (go_at_call 85; (with_reducible refine (HH.out _).mono ?_); rintro e w3 ⟨rfl, hb3⟩; (have HB3 := Lib.hid (bl_step HB2.out hb3); clear hb3)))
  · go_ret
    exact ⟨ret_int (by unfold faultU; rw [if_pos (by assumption)]), HA.out⟩
  · go_ret
    rename_i hn0
    have hn0 : n = 0 := by simpa using hn0
    exact ⟨ret_int (by unfold faultU; rw [if_neg (by omega), if_pos (by omega)]), HB2.out⟩
  · go_ret
    rename_i hn0 hg0
    have hn0 : n ≠ 0 := by simpa using hn0
    exact ⟨ret_int (by unfold faultU; rw [HD.out, if_neg (by omega), if_neg (by omega), if_pos (by omega)]), HB3.out⟩
  · go_ret
    rename_i hn0 hg0
    have hn0 : n ≠ 0 := by simpa using hn0
    exact ⟨ret_int (by unfold faultU; rw [HD.out, if_neg (by omega), if_neg (by omega), if_neg (by omega)]), HB3.out⟩
  · go_ret
    exact ⟨ret_int (by unfold faultU; rw [if_pos (by omega)]), HA.out⟩
end
end Go.Proofs.Ytjonkpdjhjobfaa
