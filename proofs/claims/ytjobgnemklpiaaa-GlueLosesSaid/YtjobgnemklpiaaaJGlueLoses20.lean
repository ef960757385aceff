/-
  A queue as the statements of cut have it; what a piece's fields are together. glue: what is held, what is lost, what is told: plain lists. glue: a glue in memory; its small calls. glue: a field comes. glue: a field comes, and what is whole is told.
-/
import Derived.Test.YtjobgnemklpiaaaJGlueLoses14
import Derived.Test.YtjobgnemklpiaaaJGlueLoses19
import Derived.Test.YtjobgnemklpiaaaJGlueLoses02
import Derived.Test.YtjobgnemklpiaaaJGlueLoses01
import Derived.Test.YtjobgnemklpiaaaJGlueLoses10
import Derived.Test.YtjobgnemklpiaaaJGlueLoses08
namespace Go.Proofs.Ytjobgnemklpiaaa
open Go.RowKit

/-- a queue that calls made: numbers rise, texts are not empty, only the first one may be begun -/
structure QS (B p : Nat) (R : Int) (w : World) (last : Nat) (ts : List Txt) : Prop where
  q : QRep B w p R last ts
  up : ts.Pairwise (fun a b => a.id < b.id)
  ids : ∀ t ∈ ts, 1 ≤ t.id ∧ t.id ≤ last
  bytes : ∀ t ∈ ts, 0 < t.bs.length ∧ t.bs.length ≤ 1000 ∧ ∀ b ∈ t.bs, b < 256
  bg : ∀ t ∈ ts.drop 1, t.bg = false
  many : ts.length ≤ 64
  small : (bytesF ts : Int) ≤ R
section
variable {B p last : Nat} {R : Int} {w v : World} {ts : List Txt}
theorem QS.later (h : QS B p R w last ts) (hb : Below w.heap.size w v) : QS B p R v last ts := ⟨h.q.later hb, h.up, h.ids, h.bytes, h.bg, h.many, h.small⟩
theorem QS.with (h : QS B p R w last ts) (hq : QRep B v p R last ts) : QS B p R v last ts := ⟨hq, h.up, h.ids, h.bytes, h.bg, h.many, h.small⟩
theorem QS.start (hq : QRep B w p R 0 []) (hR : 0 ≤ R) : QS B p R w 0 [] := ⟨hq, List.Pairwise.nil, (fun t h => by cases h), (fun t h => by cases h), (fun t h => by simp at h), by simp, by simpa [bytesF] using hR⟩
/-- whatever is pushed -/
def QPushed (B p last : Nat) (R : Int) (ts : List Txt) (l : List Nat) (w : World) (e : Ending) (w' : World) : Prop :=
  ∃ (nid : Nat) (er : Int), e = .returned (.tuple #[.int .u64 nid, .int .i64 er]) ∧ QOnly B w w' ∧
    ((er = 0 ∧ nid = last + 1 ∧ 0 < l.length ∧ l.length ≤ 1000 ∧ ts.length < 64 ∧ (bytesF ts : Int) + l.length ≤ R ∧ ∃ t : Txt, t.id = last + 1 ∧ t.bs = l ∧ (t.bg = false ∧ w.heap.size ≤ t.g) ∧ QS B p R w' (last + 1) (ts ++ [t])) ∨
     (er ≠ 0 ∧ nid = 0 ∧ QS B p R w' last ts ∧ (l.length = 0 ∨ 1000 < l.length ∨ ts.length = 64 ∨ R < (bytesF ts : Int) + l.length)))
theorem QS.push (h : QS B p R w last ts) (A : Option Addr) (l : List Nat) (c : Nat) (hr : 0 < R) (hr2 : R ≤ 20000) (hll : l.length ≤ 9223372036854775807) (hlast : last ≤ 1000000000) (hb : ∀ b ∈ l, b < 256)
    (hsrc : ∀ W, QOnly B w W → QSrcB W A (qbts l)) :
    Calls Try.prog 36 #[.pointer (some ⟨p, 0, none⟩), .slice A l.length c] w (QPushed B p last R ts l w) := by
  refine (push_allg A l c h.q hr hr2 h.small h.many hll hlast hsrc).mono ?_
  rintro e w' ⟨nid, er, he, ho, ⟨h1, h2, h3, h4, h5, h6, t, k1, k2, k3, k35, k4⟩ | ⟨h1, h2, h3, h4, h5⟩⟩
  · refine ⟨nid, er, he, ho, .inl ⟨h1, h2, h3, h4, h5, h6, t, k1, k2, ⟨k3, k35⟩, k4, ?_, ?_, ?_, ?_, by simp; omega, by rw [bytesF_snoc, k2]; omega⟩⟩
    · rw [List.pairwise_append]
      refine ⟨h.up, List.pairwise_singleton _ _, fun a ha b hb' => ?_⟩
      rw [List.mem_singleton] at hb'
      subst hb'
      have := (h.ids a ha).2
      omega
    · intro y hy
      rw [List.mem_append, List.mem_singleton] at hy
      rcases hy with hy | rfl
      · have := h.ids y hy
        omega
      · omega
    · intro y hy
      rw [List.mem_append, List.mem_singleton] at hy
      rcases hy with hy | rfl
      · exact h.bytes y hy
      · rw [k2]
        exact ⟨h3, h4, hb⟩
    · intro y hy
      rcases ts with _ | ⟨a, r⟩
      · simp at hy
      · simp only [List.cons_append, List.drop_succ_cons, List.drop_zero, List.mem_append, List.mem_singleton] at hy
        rcases hy with hy | rfl
        · exact h.bg y (by simpa using hy)
        · exact k3
  · refine ⟨nid, er, he, ho, .inr ⟨h1, h2, h.with h3, ?_⟩⟩
    rcases Nat.eq_zero_or_pos l.length with h9 | h9
    · exact .inl h9
    · rcases Nat.lt_or_ge 1000 l.length with h8 | h8
      · exact .inr (.inl h8)
      · exact .inr (.inr (h5 h9 h8))
theorem bytesF_drop (ts : List Txt) (k : Nat) : bytesF (ts.drop k) ≤ bytesF ts := by
  have h := bytesF_append (ts.take k) (ts.drop k)
  rw [List.take_append_drop] at h
  omega
/-- what waits behind a piece is a queue, too -/
theorem RestT.qs {k : Nat} {n : Int} {ts' : List Txt} (h : QS B p R w last ts) (hr : RestT ts k n ts') (hq : QRep B v p R last ts') (hn : ∀ t, ts[k]? = some t → n < t.bs.length) : QS B p R v last ts' := by
  rcases hr with ⟨_, rfl⟩ | ⟨hn0, t, t', h1, h2, h3, h4, rfl⟩
  · refine ⟨hq, h.up.sublist (List.drop_sublist _ _), fun t ht => h.ids t (List.mem_of_mem_drop ht), fun t ht => h.bytes t (List.mem_of_mem_drop ht), fun t ht => ?_, by rw [List.length_drop]; have := h.many; omega, by have := bytesF_drop ts k; have := h.small; omega⟩
    rw [List.drop_drop] at ht
    refine h.bg t ?_
    rw [show k + 1 = 1 + k by omega, ← List.drop_drop] at ht
    exact List.mem_of_mem_drop ht
  · have hk : k < ts.length := (List.getElem?_eq_some_iff.1 h1).1
    have hd : ts.drop k = t :: ts.drop (k + 1) := by
      rw [List.drop_eq_getElem_cons hk]
      obtain ⟨_, e⟩ := List.getElem?_eq_some_iff.1 h1
      rw [e]
    have hm := List.mem_of_getElem? h1
    have hlt := hn t h1
    have hb := h.bytes t hm
    have hp : (t :: ts.drop (k + 1)).Pairwise (fun a b => a.id < b.id) := by rw [← hd]; exact h.up.sublist (List.drop_sublist _ _)
    rw [List.pairwise_cons] at hp
    refine ⟨hq, ?_, ?_, ?_, ?_, ?_, ?_⟩
    · rw [List.pairwise_cons, h2]
      exact hp
    · intro y hy
      rcases List.mem_cons.1 hy with rfl | hy
      · rw [h2]; exact h.ids t hm
      · exact h.ids y (List.mem_of_mem_drop hy)
    · intro y hy
      rcases List.mem_cons.1 hy with rfl | hy
      · rw [h3]
        refine ⟨by rw [List.length_drop]; omega, by rw [List.length_drop]; omega, fun b hb9 => hb.2.2 b (List.mem_of_mem_drop hb9)⟩
      · exact h.bytes y (List.mem_of_mem_drop hy)
    · intro y hy
      simp only [List.drop_succ_cons, List.drop_zero] at hy
      refine h.bg y ?_
      rw [show k + 1 = 1 + k by omega, ← List.drop_drop] at hy
      exact List.mem_of_mem_drop hy
    · simp
      have := h.many
      omega
    · rw [bytesF_cons, h3, List.length_drop]
      have h9 := bytesF_drop ts k
      rw [hd, bytesF_cons] at h9
      have := h.small
      omega
end
section
variable {room x n : Int} {ls : List Nat} {k : Nat}
theorem Bld.less (h : Bld room x ls k n) : n ≤ 0 ∨ (k < ls.length ∧ 0 < n ∧ n < (ls.getD k 0 : Nat)) := by
  rcases h.stop with h1 | h1
  · exact .inl h1
  · rcases Int.lt_or_le 0 n with h2 | h2
    · exact .inr ⟨h1.1, h2, h1.2⟩
    · exact .inl h2
theorem getD_at {ls : List Nat} {k : Nat} (h : k < ls.length) : ls[k]? = some (ls.getD k 0) := by
  rw [List.getD_eq_getElem?_getD, List.getElem?_eq_getElem h]
  rfl
theorem Bld.only {k' : Nat} {n' : Int} (h : Bld room x ls k n) (h' : Bld room x ls k' n') (hp : ∀ l ∈ ls, 0 < l) : k = k' ∧ n = n' := by
  have key : ∀ k n k' n', Bld room x ls k n → Bld room x ls k' n' → ¬ k < k' := by
    intro k n k' n' h h' hlt
    have hk : k < ls.length := by have := h'.le; omega
    have h1 := h'.whole k _ hlt (getD_at hk)
    have h2 := h.next
    have h3 := hp _ (List.mem_of_getElem? (getD_at hk))
    rcases h.stop with h4 | h4
    · omega
    · omega
  have h1 := key _ _ _ _ h h'
  have h2 := key _ _ _ _ h' h
  have e : k = k' := by omega
  subst e
  exact ⟨rfl, h.next.trans h'.next.symm⟩
/-- how many bytes the fields have -/
def fieldsL (ls : List Nat) (k : Nat) (n : Int) : List Nat := ls.take k ++ (if n ≤ 0 then [] else [n.toNat])
theorem Bld.fits (h : Bld room x ls k n) (hp : ∀ l ∈ ls, 0 < l) (hr : 0 ≤ room) (hx : 0 < sizeF 1 x) : bytesC (fieldsL ls k n) x ≤ room ∧ (0 < n → bytesC (fieldsL ls k n) x = room) ∧ (fieldsL ls k n).length ≤ 24 := by
  have hz0 := fun (m : Int) => sizeF_nonneg m x
  rcases Int.lt_or_le 0 n with h0 | h0
  · -- a text is cut
    have hk := h.less
    rw [show fieldsL ls k n = ls.take k ++ [n.toNat] by unfold fieldsL; rw [if_neg (by omega)]]
    have hn := h.next
    have hkl : k < ls.length := by omega
    have hlt : (ls.take k).length = k := by rw [List.length_take]; omega
    unfold nextF at hn
    rw [hlt] at hn
    have h24 : k < 24 := by
      rcases Nat.lt_or_ge k 24 with h9 | h9
      · exact h9
      · rw [if_pos h9] at hn
        omega
    rw [if_neg (by omega)] at hn
    have e : n = room - ((ls.take k).sum : Int) - sizeF k x := by omega
    unfold bytesC
    rw [if_neg (by simp), if_pos hx]
    simp only [List.sum_append, List.length_append, hlt, List.sum_cons, List.sum_nil, List.length_cons, List.length_nil]
    have e2 : (((k + (0 + 1) : Nat) : Int) - 1) = (k : Int) := by omega
    rw [e2]
    have h3 : ((n.toNat : Nat) : Int) = n := Int.toNat_of_nonneg (by omega)
    refine ⟨?_, fun _ => ?_, by omega⟩
    · push_cast; omega
    · push_cast; omega
  · rw [show fieldsL ls k n = ls.take k by unfold fieldsL; rw [if_pos h0, List.append_nil]]
    rcases Nat.eq_zero_or_pos k with hk | hk
    · subst hk
      unfold bytesC
      simp
      omega
    · have hkl := h.le
      have hlt : (ls.take k).length = k := by rw [List.length_take]; omega
      have h1 := h.whole (k - 1) _ (by omega) (getD_at (show k - 1 < ls.length by omega))
      have h2 := hp _ (List.mem_of_getElem? (getD_at (show k - 1 < ls.length by omega)))
      have hs : ls.take k = ls.take (k - 1) ++ [ls.getD (k - 1) 0] := by
        have := List.take_add_one (l := ls) (i := k - 1)
        rw [show k - 1 + 1 = k by omega, getD_at (show k - 1 < ls.length by omega)] at this
        simpa using this
      have hlt1 : (ls.take (k - 1)).length = k - 1 := by rw [List.length_take]; omega
      unfold nextF at h1
      rw [hlt1] at h1
      have h24 : k - 1 < 24 := by
        rcases Nat.lt_or_ge (k - 1) 24 with h9 | h9
        · exact h9
        · rw [if_pos h9] at h1
          omega
      rw [if_neg (by omega)] at h1
      have hss : ((ls.take k).sum : Int) = ((ls.take (k - 1)).sum : Int) + (ls.getD (k - 1) 0 : Nat) := by
        rw [hs]
        simp
      unfold bytesC
      rw [if_neg (by omega), if_pos hx, hlt]
      have e2 : ((k : Int) - 1) = ((k - 1 : Nat) : Int) := by omega
      rw [e2]
      refine ⟨by omega, fun h9 => by omega, by omega⟩
end
/-- the bytes that wait -/
def waitB (ts : List Txt) : List Nat := (ts.map Txt.bs).flatten
theorem length_waitB (ts : List Txt) : (waitB ts).length = bytesF ts := by
  unfold waitB
  induction ts with
  | nil => rfl
  | cons t r ih => rw [bytesF_cons, ← ih]; simp
/-- what is taken, and what waits behind it, is what waited -/
theorem RestT.bytes {ts ts' : List Txt} {k : Nat} {n : Int} (h : RestT ts k n ts') : (fieldsT (ts.map Txt.bs) k n).flatten ++ waitB ts' = waitB ts := by
  unfold fieldsT waitB
  rcases h with ⟨hn, rfl⟩ | ⟨hn, t, t', h1, h2, h3, h4, rfl⟩
  · rw [if_pos hn, List.append_nil, List.map_drop, ← List.flatten_append, List.take_append_drop]
  · have hk : k < ts.length := (List.getElem?_eq_some_iff.1 h1).1
    have hd : ts.map Txt.bs = (ts.map Txt.bs).take k ++ t.bs :: (ts.drop (k + 1)).map Txt.bs := by
      have e : ts.drop k = t :: ts.drop (k + 1) := by
        rw [List.drop_eq_getElem_cons hk]
        obtain ⟨_, e⟩ := List.getElem?_eq_some_iff.1 h1
        rw [e]
      conv => lhs; rw [← List.take_append_drop k ts, e]
      rw [List.map_append, List.map_cons, List.map_take]
    have hg : (ts.map Txt.bs).getD k [] = t.bs := by
      rw [List.getD_eq_getElem?_getD, List.getElem?_map, h1]
      rfl
    rw [if_neg (by omega), hg]
    conv => rhs; rw [hd]
    simp only [List.flatten_append, List.map_cons, List.flatten_cons, h3, List.flatten_nil, List.append_nil, List.append_assoc]
    rw [← List.append_assoc (t.bs.take _), List.take_append_drop]
theorem lens_fieldsT {ts : List Txt} {k : Nat} {n : Int} {L : List RowB} (h : texts L = fieldsT (ts.map Txt.bs) k n) (hn : n ≤ 0 ∨ n ≤ ((lenT ts).getD k 0 : Nat)) : lens L = fieldsL (lenT ts) k n := by
  rw [lens_texts, h]
  unfold fieldsT fieldsL
  rw [List.map_append, List.map_take]
  congr 1
  · unfold lenT
    rw [List.map_map]
    rfl
  · split
    · rfl
    · rename_i h9
      have e : ((ts.map Txt.bs).getD k []).length = (lenT ts).getD k 0 := by
        unfold lenT
        rw [List.getD_eq_getElem?_getD, List.getD_eq_getElem?_getD, List.getElem?_map, List.getElem?_map]
        cases ts[k]? <;> rfl
      simp only [List.map_cons, List.map_nil, List.length_take, e]
      congr 1
      omega
/-- block g holds none of the texts' bytes -/
def Clear (ts : List Txt) (v : Value) : Prop := ∀ t ∈ ts, v.ownBlock ≠ some t.g
theorem RestT.clear {ts ts' : List Txt} {k : Nat} {n : Int} {v : Value} (h : RestT ts k n ts') (hc : Clear ts v) : Clear ts' v := by
  rcases h with ⟨_, rfl⟩ | ⟨_, t, t', h1, _, _, h4, rfl⟩
  · exact fun t ht => hc t (List.mem_of_mem_drop ht)
  · intro y hy
    rcases List.mem_cons.1 hy with rfl | hy
    · rw [h4.2]
      exact hc t (List.mem_of_getElem? h1)
    · exact hc y (List.mem_of_mem_drop hy)
end Go.Proofs.Ytjobgnemklpiaaa
namespace Go.Proofs.Ytjobgnemklpiaaa
open Go.RowKit

/-- what a glue holds, and how many it lost -/
structure GS where
  held : List Nat
  lost : Nat
def GS.lose (s : GS) : GS := if s.held = [] then s else ⟨[], s.lost + 1⟩
def GS.come (s : GS) (f : List Nat) (b e : Bool) : GS :=
  if b then (if f.length ≤ 1000 then ⟨f, s.lose.lost⟩ else ⟨[], s.lose.lost + 1⟩)
  else if s.held = [] then (if e then ⟨[], s.lost + 1⟩ else s)
  else if s.held.length + f.length ≤ 1000 then ⟨s.held ++ f, s.lost⟩ else ⟨[], s.lost + 1⟩
def GS.told (s : GS) (e : Bool) : GS × List (List Nat) := if e then (if s.held = [] then (s, []) else (⟨[], s.lost⟩, [s.held])) else (s, [])
def beg (fi : Nat) (k : Nat) : Bool := decide (0 < k) || (fi / 2 % 2 == 0)
def fin (fi : Nat) (n k : Nat) : Bool := decide (k + 1 < n) || (fi % 2 == 0)
/-- fields come, from field k of n on -/
def goG (fi n : Nat) : Nat → List (List Nat) → GS → GS × List (List Nat)
  | _, [], s => (s, [])
  | k, f :: r, s =>
    let y := (s.come f (beg fi k) (fin fi n k)).told (fin fi n k)
    let z := goG fi n (k + 1) r y.1
    (z.1, y.2 ++ z.2)
def putG (fi : Nat) (fs : List (List Nat)) (gap : Bool) (s : GS) : GS × List (List Nat) := goG fi fs.length 0 fs (if gap then s.lose else s)
theorem GS.come_short (s : GS) (f : List Nat) (b e : Bool) (h : s.held.length ≤ 1000) : (s.come f b e).held.length ≤ 1000 := by
  unfold GS.come
  repeat' split
  all_goals simp_all
theorem GS.lose_short (s : GS) (h : s.held.length ≤ 1000) : s.lose.held.length ≤ 1000 := by
  unfold GS.lose
  split <;> simp_all
theorem GS.lose_lost (s : GS) : s.lost ≤ s.lose.lost ∧ s.lose.lost ≤ s.lost + 1 := by
  unfold GS.lose
  split <;> simp
theorem GS.come_lost (s : GS) (f : List Nat) (b e : Bool) : s.lost ≤ (s.come f b e).lost ∧ (s.come f b e).lost ≤ s.lost + 2 := by
  have := s.lose_lost
  unfold GS.come
  repeat' split
  all_goals simp_all
  all_goals omega
end Go.Proofs.Ytjobgnemklpiaaa
namespace Go.Proofs.Ytjobgnemklpiaaa
open Go.RowKit

def GRep (B : Nat) (w : World) (p : Nat) (hv : Value) (s : GS) : Prop := Row w p 185 #[.bool true, hv, .int .i64 s.lost] ∧ OwnY B w hv s.held
def GS1 (p : Nat) (hv : Value) (k : Nat) : Prop := k = p ∨ hv.ownBlock = some k
def GNext (w : World) (hv hv' : Value) : Prop := ∀ k, hv'.ownBlock = some k → hv.ownBlock = some k ∨ w.heap.size ≤ k
theorem GNext.refl (w : World) (hv : Value) : GNext w hv hv := fun _ h => .inl h
theorem GNext.nil (w : World) (hv : Value) : GNext w hv (.slice none 0 0) := fun _ h => by simp [Value.ownBlock] at h
theorem ownY_nil (B : Nat) (w : World) : OwnY B w (.slice none 0 0) [] := ⟨by simp [bts], .inl ⟨rfl, rfl⟩⟩
theorem GRep.later {B p : Nat} {w v : World} {hv : Value} {s : GS} (h : GRep B w p hv s) (hb : Below w.heap.size w v) : GRep B v p hv s := ⟨h.1.later hb, h.2.later hb⟩
theorem GRep.only {B p : Nat} {w v : World} {hv : Value} {s : GS} {S : Nat → Prop} (h : GRep B w p hv s) (ho : Only S w v) (h1 : ¬ S p) (h2 : ∀ k, hv.ownBlock = some k → ¬ S k) : GRep B v p hv s := ⟨h.1.only ho h1, h.2.only ho h2⟩
theorem set_only {w : World} {p : Nat} (i : Nat) (x : Value) : Only (fun k => k = p) w (w.setCell ⟨p, i, none⟩ x) := (Only.refl (fun k => k = p) w).set (p := ⟨p, i, none⟩) (.inl rfl) x
theorem GRep.apart {B p : Nat} {w : World} {hv : Value} {s : GS} (h : GRep B w p hv s) : hv.ownBlock ≠ some p := own_apart h.2 h.1 (by decide)
theorem gnew_any (w : World) : Calls Try.prog 61 #[] w fun e w' => e = .returned (.pointer (some ⟨w.heap.size, 0, none⟩)) ∧ GRep w.heap.size w' w.heap.size (.slice none 0 0) ⟨[], 0⟩ ∧ Below w.heap.size w w' := by
  go_enter Try.func61, Try.ntmps61
  go_wp2
  go_ret
  exact ⟨rfl, ⟨Row.made _ _ _, ownY_nil _ _⟩, bl_alloc (Below.refl _ _) _⟩
theorem gheld_any {B p : Nat} {w : World} {hv : Value} {s : GS} (h : GRep B w p hv s) : Calls Try.prog 63 #[.pointer (some ⟨p, 0, none⟩)] w fun e w' => e = .returned (.int .i64 (s.held.length : Nat)) ∧ w = w' := by
  obtain ⟨A, c, rfl, h1, h2⟩ := h.2.form
  unfold maxLen at h2
  have c1 := h.1.read (i := 1) rfl
  generalize s.held.length = n at *
  clear h
  go_enter Try.func63, Try.ntmps63
  go_wp2
  go_ret
  exact ⟨rfl, rfl⟩
theorem glost_any {B p : Nat} {w : World} {hv : Value} {s : GS} (h : GRep B w p hv s) : Calls Try.prog 64 #[.pointer (some ⟨p, 0, none⟩)] w fun e w' => e = .returned (.int .i64 (s.lost : Nat)) ∧ w = w' := by
  have c1 := h.1.read (i := 2) rfl
  clear h
  go_enter Try.func64, Try.ntmps64
  go_wp2
  go_ret
  exact ⟨rfl, rfl⟩
theorem held_len {s : GS} : s.held = [] ↔ s.held.length = 0 := by simp
set_option maxRecDepth 100000 in
set_option maxHeartbeats 800000 in
theorem glose_any {B p : Nat} {w : World} {hv : Value} {s : GS} (h : GRep B w p hv s) (hlost : s.lost ≤ 1000000000) :
    Calls Try.prog 121 #[.pointer (some ⟨p, 0, none⟩)] w fun e w' => e = .returned (.tuple #[]) ∧ ∃ hv', GRep B w' p hv' s.lose ∧ Only (fun k => k = p) w w' ∧ GNext w hv hv' := by
  obtain ⟨A, c, rfl, h1, h2⟩ := h.2.form
  unfold maxLen at h2
  have c1 := h.1.read (i := 1) rfl
  have c2 := h.1.read (i := 2) rfl
  have f1 := h.1.free 1
  have HH := Lib.hid h
  by_cases h0 : s.held.length = 0
  · have HL := Lib.hid (show s.lose = s by unfold GS.lose; rw [if_pos (held_len.2 h0)])
    have hd : decide ((0 : Int) < (s.held.length : Int)) = false := decide_eq_false (by omega)
    have h0' : s.held.length ≤ 0 := by omega
    clear h h0
    go_enter Try.func121, Try.ntmps121
    go_wp2
    go_end0
    exact ⟨rfl, _, by rw [HL.out]; exact HH.out, Only.refl _ _, GNext.refl _ _⟩
  · have HL := Lib.hid (show s.lose = ⟨[], s.lost + 1⟩ by unfold GS.lose; rw [if_neg (fun e => h0 (held_len.1 e))])
    have hp : (0 : Int) < (s.held.length : Int) := by have := Nat.pos_of_ne_zero h0; omega
    have hrow := h.1.written 1 (.slice none 0 0)
    have d2 := hrow.read (i := 2) rfl
    have g2 := hrow.free 2
    have HR := Lib.hid (hrow.written 2 (.int .i64 ((s.lost : Int) + 1)))
    have HO := Lib.hid ((set_only (w := w) (p := p) 1 (.slice none 0 0)).set (p := ⟨p, 2, none⟩) (.inl rfl) (.int .i64 ((s.lost : Int) + 1)))
    have e9 : ((s.lost + 1 : Nat) : Int) = (s.lost : Int) + 1 := by omega
    have HE9 := Lib.hid e9
    clear h h0 hrow e9
    go_enter Try.func121, Try.ntmps121
    go_wp2
    go_end0
    refine ⟨rfl, .slice none 0 0, ⟨?_, ?_⟩, HO.out, GNext.nil _ _⟩
    · rw [HL.out]
      show Row _ p 185 #[.bool true, .slice none 0 0, .int .i64 ((s.lost + 1 : Nat) : Int)]
      rw [HE9.out]
      exact HR.out
    · rw [HL.out]
      exact ownY_nil _ _
end Go.Proofs.Ytjobgnemklpiaaa
namespace Go.Proofs.Ytjobgnemklpiaaa
open Go.RowKit

section
variable {B p : Nat} {w : World} {hv : Value} {s : GS}
theorem grep_lost (h : GRep B w p hv s) : GRep B ((w.setCell ⟨p, 1, none⟩ (.slice none 0 0)).setCell ⟨p, 2, none⟩ (.int .i64 ((s.lost : Int) + 1))) p (.slice none 0 0) ⟨[], s.lost + 1⟩ ∧ Only (GS1 p hv) w ((w.setCell ⟨p, 1, none⟩ (.slice none 0 0)).setCell ⟨p, 2, none⟩ (.int .i64 ((s.lost : Int) + 1))) := by
  have e9 : ((s.lost + 1 : Nat) : Int) = (s.lost : Int) + 1 := by omega
  refine ⟨⟨?_, ownY_nil _ _⟩, ((set_only 1 _).set (p := ⟨p, 2, none⟩) (.inl rfl) _).weaker (fun k _ hk => .inl hk)⟩
  show Row _ p 185 #[.bool true, .slice none 0 0, .int .i64 ((s.lost + 1 : Nat) : Int)]
  rw [e9]
  exact (h.1.written 1 _).written 2 _
theorem grep_count (h : GRep B w p hv s) : GRep B (w.setCell ⟨p, 2, none⟩ (.int .i64 ((s.lost : Int) + 1))) p hv ⟨s.held, s.lost + 1⟩ ∧ Only (GS1 p hv) w (w.setCell ⟨p, 2, none⟩ (.int .i64 ((s.lost : Int) + 1))) := by
  have e9 : ((s.lost + 1 : Nat) : Int) = (s.lost : Int) + 1 := by omega
  refine ⟨⟨?_, h.2.only (set_only 2 _) (fun k hk e => h.apart (by rw [hk, e]))⟩, (set_only 2 _).weaker (fun k _ hk => .inl hk)⟩
  show Row _ p 185 #[.bool true, hv, .int .i64 ((s.lost + 1 : Nat) : Int)]
  rw [e9]
  exact h.1.written 2 _
theorem grep_app {A F : Option Addr} {f : List Nat} {n m c fc : Nat} (h : GRep B w p (.slice A n c) s) (hn : s.held.length = n) (hB : B ≤ w.heap.size) (hs : Src w F (bts f)) (hm : f.length = m) (hnm : n + m ≤ 1000000) :
    ∃ A' c' W', (Builtin.append_ #[61, 61] 61 #[.slice A n c, .slice F m fc]).run Try.prog w = .ok (.slice A' (n + m) c') W' ∧ Row W' p 185 #[.bool true, .slice A n c, .int .i64 s.lost] ∧
      GRep B (W'.setCell ⟨p, 1, none⟩ (.slice A' (n + m) c')) p (.slice A' (n + m) c') ⟨s.held ++ f, s.lost⟩ ∧ Only (GS1 p (.slice A n c)) w (W'.setCell ⟨p, 1, none⟩ (.slice A' (n + m) c')) ∧ GNext w (.slice A n c) (.slice A' (n + m) c') := by
  subst hn
  obtain ⟨A', c', W', hrun, hown, hbl, hon, hat⟩ := app_bytes m fc h.2 hB hs hm (by omega)
  have hap := h.apart
  have hr2 : Row W' p 185 #[.bool true, .slice A s.held.length c, .int .i64 s.lost] := h.1.only hon hap
  have hap2 := own_apart hown hr2 (by decide)
  refine ⟨A', c', W', hrun, hr2, ⟨hr2.written 1 _, hown.only (set_only 1 _) (fun k hk e => hap2 (by rw [hk, e]))⟩, ?_, ?_⟩
  · exact (hon.weaker (fun k _ hk => .inr hk)).set (p := ⟨p, 1, none⟩) (.inl (.inl rfl)) _
  · intro k hk
    rcases hat with e | e
    · exact .inl (by rw [← e]; exact hk)
    · rw [e] at hk
      injection hk with hk
      exact .inr (by omega)
end
theorem lose_held (s : GS) : s.lose.held = [] := by
  unfold GS.lose
  split
  · assumption
  · rfl
/-- what a field's coming leaves -/
def ComeDone (B p : Nat) (hv : Value) (s' : GS) (w : World) (e : Ending) (w' : World) : Prop := e = .returned (.tuple #[]) ∧ ∃ hv', GRep B w' p hv' s' ∧ Only (GS1 p hv) w w' ∧ GNext w hv hv'
theorem ComeDone.behind {B p : Nat} {hv hv1 : Value} {s' : GS} {w w1 w' : World} {e : Ending} (h : ComeDone B p hv1 s' w1 e w') (ho : Only (fun k => k = p) w w1) (hg : GNext w hv hv1) : ComeDone B p hv s' w e w' := by
  obtain ⟨h1, hv', h2, h3, h4⟩ := h
  refine ⟨h1, hv', h2, ?_, ?_⟩
  · refine (ho.weaker (T := GS1 p hv) (fun k _ hk => .inl hk)).andThen h3 (fun k hk hx => ?_)
    rcases hx with hx | hx
    · exact .inl hx
    · rcases hg k hx with h9 | h9
      · exact .inr h9
      · omega
  · intro k hk
    rcases h4 k hk with h9 | h9
    · exact hg k h9
    · exact .inr (Nat.le_trans ho.size h9)
section
variable {B p : Nat} {w : World} {hv : Value} {s : GS} {F : Option Addr} {f : List Nat}
set_option maxRecDepth 100000 in
set_option maxHeartbeats 800000 in
theorem gcome_b (e : Bool) (m fc : Nat) (h : GRep B w p hv s) (hlost : s.lost ≤ 1000000) (hB : B ≤ w.heap.size) (hs : ∀ W, Only (fun k => k = p) w W → Src W F (bts f)) (hm : f.length = m) (hm1 : m ≤ 9223372036854775807) :
    Calls Try.prog 124 #[.pointer (some ⟨p, 0, none⟩), .slice F m fc, .bool true, .bool e] w (ComeDone B p hv (s.come f true e) w) := by
  have HLO := Lib.hid (glose_any h (by omega))
  have HS := Lib.hid hs
  have hll := s.lose_lost
  have HH := Lib.hid (lose_held s)
  have HC := Lib.hid (show s.come f true e = if f.length ≤ 1000 then ⟨f, s.lose.lost⟩ else ⟨[], s.lose.lost + 1⟩ from rfl)
  rw [HC.out]
  generalize s.lose = s1 at *
  obtain ⟨held1, lost1⟩ := s1
  simp only at hll HH
  obtain rfl := HH.out
  clear h hs HC HH
  rw [hm]
  by_cases hlong : m ≤ 1000
  · rw [if_pos hlong]
    have hd : decide ((1000 : Int) < (m : Int)) = false := decide_eq_false (by omega)
    have hw : IntKind.i64.wrap (0 + (m : Int)) = (m : Int) := by rw [IntKind.wrap_i64]; omega
    go_enter Try.func124, Try.ntmps124
    go_wp2_with fail
    refine (HLO.out).mono ?_
    rintro e1 w1 ⟨rfl, hv1, h1, ho1, hg1⟩
    obtain ⟨A, c, rfl, q1, q2⟩ := h1.2.form
    unfold maxLen at q2
    simp only [List.length_nil] at q1 h1
    obtain ⟨A', c', W', hrun, hr2, h3, ho3, hg3⟩ := grep_app (n := 0) (m := m) (fc := fc) h1 rfl (Nat.le_trans hB ho1.size) (HS.out w1 ho1) hm (by omega)
    have c1 := h1.1.read (i := 1) rfl
    have k1 := hr2.read (i := 1) rfl
    have k2 := hr2.free 1
    simp only [Nat.zero_add, List.nil_append] at hrun h3 ho3 hg3
    have HD := Lib.hid (ComeDone.behind (hv := hv) ⟨rfl, _, h3, ho3, hg3⟩ ho1 hg1)
    clear h1 ho1 hg1 h3 ho3 hg3 hr2 HLO HS
    go_wp2_with (at_builtin; refine wpList_run rfl _ _ 61 rfl (.slice A 0 c) (.slice F m fc) (by rfl) (by rfl) hrun ?_)
    go_end0
    exact HD.out
  · rw [if_neg hlong]
    have hd : decide ((1000 : Int) < (m : Int)) = true := decide_eq_true (by omega)
    have hw : IntKind.i64.wrap (0 + (m : Int)) = (m : Int) := by rw [IntKind.wrap_i64]; omega
    go_enter Try.func124, Try.ntmps124
    go_wp2_with fail
    refine (HLO.out).mono ?_
    rintro e1 w1 ⟨rfl, hv1, h1, ho1, hg1⟩
    obtain ⟨A, c, rfl, q1, q2⟩ := h1.2.form
    unfold maxLen at q2
    simp only [List.length_nil] at q1 h1
    obtain ⟨h3, ho3⟩ := grep_lost h1
    have c1 := h1.1.read (i := 1) rfl
    have f1 := h1.1.free 1
    have hrow := h1.1.written 1 (.slice none 0 0)
    have d2 := hrow.read (i := 2) rfl
    have g2 := hrow.free 2
    have HD := Lib.hid (ComeDone.behind (hv := hv) ⟨rfl, _, h3, ho3, GNext.nil _ _⟩ ho1 hg1)
    simp only at HD d2
    clear h1 ho1 hg1 h3 ho3 hrow HLO HS
    go_wp2
    go_end0
    exact HD.out
set_option maxRecDepth 100000 in
set_option maxHeartbeats 800000 in
theorem gcome_e (e : Bool) (m fc : Nat) (h : GRep B w p hv s) (hlost : s.lost ≤ 1000000) (h0 : s.held = []) :
    Calls Try.prog 124 #[.pointer (some ⟨p, 0, none⟩), .slice F m fc, .bool false, .bool e] w (ComeDone B p hv (s.come f false e) w) := by
  have HC := Lib.hid (show s.come f false e = if e then ⟨[], s.lost + 1⟩ else s by unfold GS.come; rw [if_neg (by decide), if_pos h0])
  rw [HC.out]
  obtain ⟨held1, lost1⟩ := s
  simp only at hlost h0
  subst h0
  have hcount := grep_count h
  obtain ⟨A, c, rfl, q1, q2⟩ := h.2.form
  unfold maxLen at q2
  simp only [List.length_nil] at q1 h hcount ⊢
  have c1 := h.1.read (i := 1) rfl
  have c2 := h.1.read (i := 2) rfl
  have f2 := h.1.free 2
  simp only at c2
  cases e
  · have HD := Lib.hid (show ComeDone B p (.slice A 0 c) ⟨[], lost1⟩ w (.returned (.tuple #[])) w from ⟨rfl, _, h, Only.refl _ _, GNext.refl _ _⟩)
    clear h hcount HC
    go_enter Try.func124, Try.ntmps124
    go_wp2
    go_end0
    exact HD.out
  · have HD := Lib.hid (show ComeDone B p (.slice A 0 c) ⟨[], lost1 + 1⟩ w (.returned (.tuple #[])) _ from ⟨rfl, _, hcount.1, hcount.2, GNext.refl _ _⟩)
    clear h hcount HC
    go_enter Try.func124, Try.ntmps124
    go_wp2
    go_end0
    exact HD.out
set_option maxRecDepth 100000 in
set_option maxHeartbeats 800000 in
theorem gcome_m (e : Bool) (m fc : Nat) (h : GRep B w p hv s) (hlost : s.lost ≤ 1000000) (hB : B ≤ w.heap.size) (hs : Src w F (bts f)) (hm : f.length = m) (hm1 : m ≤ 100000) (h0 : s.held ≠ []) (hl : s.held.length ≤ 1000) :
    Calls Try.prog 124 #[.pointer (some ⟨p, 0, none⟩), .slice F m fc, .bool false, .bool e] w (ComeDone B p hv (s.come f false e) w) := by
  have HC := Lib.hid (show s.come f false e = if s.held.length + f.length ≤ 1000 then ⟨s.held ++ f, s.lost⟩ else ⟨[], s.lost + 1⟩ by unfold GS.come; rw [if_neg (by decide), if_neg h0])
  rw [HC.out, hm]
  obtain ⟨A, c, rfl, q1, q2⟩ := h.2.form
  unfold maxLen at q2
  obtain ⟨n, hn⟩ : ∃ n, s.held.length = n := ⟨_, rfl⟩
  have hn0 : 0 < n := by rw [← hn]; exact List.length_pos_iff.2 h0
  rw [hn] at q1 h hl ⊢
  have hne : ((n : Int) == 0) = false := by simp; omega
  have c1 := h.1.read (i := 1) rfl
  have hw : IntKind.i64.wrap ((n : Int) + (m : Int)) = (n : Int) + (m : Int) := by rw [IntKind.wrap_i64]; omega
  by_cases hlong : n + m ≤ 1000
  · rw [if_pos hlong]
    have hd : decide ((1000 : Int) < (n : Int) + (m : Int)) = false := decide_eq_false (by omega)
    obtain ⟨A', c', W', hrun, hr2, h3, ho3, hg3⟩ := grep_app (n := n) (m := m) (fc := fc) h hn hB hs hm (by omega)
    have k1 := hr2.read (i := 1) rfl
    have k2 := hr2.free 1
    have HD := Lib.hid (show ComeDone B p (.slice A n c) _ w (.returned (.tuple #[])) _ from ⟨rfl, _, h3, ho3, hg3⟩)
    clear h hs hm h3 ho3 hg3 hr2 HC hn h0
    go_enter Try.func124, Try.ntmps124
    go_wp2_with (at_builtin; refine wpList_run rfl _ _ 61 rfl (.slice A n c) (.slice F m fc) (by rfl) (by rfl) hrun ?_)
    go_end0
    exact HD.out
  · rw [if_neg hlong]
    have hd : decide ((1000 : Int) < (n : Int) + (m : Int)) = true := decide_eq_true (by omega)
    obtain ⟨h3, ho3⟩ := grep_lost h
    have f1 := h.1.free 1
    have hrow := h.1.written 1 (.slice none 0 0)
    have d2 := hrow.read (i := 2) rfl
    have g2 := hrow.free 2
    have HD := Lib.hid (show ComeDone B p (.slice A n c) _ w (.returned (.tuple #[])) _ from ⟨rfl, _, h3, ho3, GNext.nil _ _⟩)
    clear h hs hm h3 ho3 hrow HC hn h0
    go_enter Try.func124, Try.ntmps124
    go_wp2
    go_end0
    exact HD.out
theorem gcome_any (b e : Bool) (m fc : Nat) (h : GRep B w p hv s) (hlost : s.lost ≤ 1000000) (hB : B ≤ w.heap.size) (hs : ∀ W, Only (fun k => k = p) w W → Src W F (bts f)) (hm : f.length = m) (hm1 : m ≤ 9223372036854775807) (hm2 : b = false → m ≤ 100000) (hl : s.held.length ≤ 1000) :
    Calls Try.prog 124 #[.pointer (some ⟨p, 0, none⟩), .slice F m fc, .bool b, .bool e] w (ComeDone B p hv (s.come f b e) w) := by
  cases b
  · by_cases h0 : s.held = []
    · exact gcome_e e m fc h hlost h0
    · exact gcome_m e m fc h hlost hB (hs w (Only.refl _ _)) hm (hm2 rfl) h0 hl
  · exact gcome_b e m fc h hlost hB hs hm hm1
end
end Go.Proofs.Ytjobgnemklpiaaa
namespace Go.Proofs.Ytjobgnemklpiaaa
open Go.RowKit

theorem clipb_any {A : Option Addr} (n c : Nat) (w : World) (hc : n ≤ c) : Calls Try.prog 125 #[.slice A n c] w fun e w' => e = .returned (.slice A n n) ∧ w = w' := by
  cases A with
  | none =>
    go_enter Try.func125, Try.ntmps125
    go_wp2
    go_ret
    exact ⟨rfl, rfl⟩
  | some a =>
    go_enter Try.func125, Try.ntmps125
    go_wp2
    go_ret
    exact ⟨rfl, rfl⟩
theorem own_rows_apart {w : World} {B B' e e' z z' n n' : Nat} {v v' : Value} {xs xs' : List Value} (h : w.ownsRow B e z v n xs) (h' : w.ownsRow B' e' z' v' n' xs') (hne : e ≠ e') : ∀ k, v.ownBlock = some k → v'.ownBlock ≠ some k := by
  intro k hk
  rcases h.2 with ⟨rfl, _⟩ | ⟨g, cap, cur, rfl, _, hh, _⟩
  · simp [Value.ownBlock] at hk
  · have e1 : g = k := by simpa [Value.ownBlock] using hk
    subst e1
    exact own_apart h' (show Row w g e cur from hh) (fun e => hne e.symm)
/-- a text that was told: its bytes lie in a block that is not the held one -/
def TOk (B : Nat) (w : World) (hv : Value) (r : RowB) : Prop := ∃ (g : Nat) (cs : Array Value), r.A = some ⟨g, 0, none⟩ ∧ B ≤ g ∧ hv.ownBlock ≠ some g ∧ r.bs.length ≤ r.cap ∧ r.cap ≤ 9223372036854775807 ∧ Row w g 5 cs ∧ ∀ (j b : Nat), r.bs[j]? = some b → cs[j]? = some (Value.int .u8 (b : Nat))
theorem add_pl (b o j : Nat) : (⟨b, o, none⟩ : Addr).add j = ⟨b, o + j, none⟩ := by
  unfold Addr.add
  split
  · rename_i h
    subst h
    rfl
  · rfl
theorem TOk.src {B : Nat} {w : World} {hv : Value} {r : RowB} (h : TOk B w hv r) : Src w r.A (bts r.bs) := by
  obtain ⟨g, cs, h1, _, _, _, _, h4, h5⟩ := h
  intro _
  refine ⟨⟨g, 0, none⟩, h1, fun j u hu => ?_⟩
  have hj : j < r.bs.length := by have := (List.getElem?_eq_some_iff.1 hu).1; rw [length_bts] at this; exact this
  have hb := bts_at (List.getElem?_eq_getElem hj)
  rw [hu] at hb
  injection hb with hb
  rw [hb, add_pl, Nat.zero_add]
  exact h4.read (h5 j _ (List.getElem?_eq_getElem hj))
theorem TOk.step {B : Nat} {w v : World} {hv hv' : Value} {r : RowB} {S : Nat → Prop} (h : TOk B w hv r) (ho : Only S w v) (hS : ∀ g cs, Row w g 5 cs → hv.ownBlock ≠ some g → ¬ S g) (hg : GNext w hv hv') : TOk B v hv' r := by
  obtain ⟨g, cs, h1, h2, h3, h4, h5, h6, h7⟩ := h
  refine ⟨g, cs, h1, h2, fun e => ?_, h4, h5, h6.only ho (hS g cs h6 h3), h7⟩
  have := h6.inside
  rcases hg g e with h9 | h9
  · exact h3 h9
  · omega
/-- what is held and what was told so far -/
def GInv (B C p gb tb : Nat) (w : World) (hv tv : Value) (s : GS) (L : List RowB) : Prop :=
  GRep B w p hv s ∧ Row w gb 107 #[.pointer (some ⟨p, 0, none⟩)] ∧ Row w tb 57 #[tv] ∧ w.ownsRow C 61 1 tv L.length (L.map RowB.v) ∧ ∀ r ∈ L, TOk B w hv r
def GS2 (p tb : Nat) (hv tv : Value) (k : Nat) : Prop := (k = p ∨ hv.ownBlock = some k) ∨ k = tb ∨ tv.ownBlock = some k
theorem GInv.come {B C p gb tb : Nat} {w w1 : World} {hv hv1 tv : Value} {s s1 : GS} {L : List RowB} (h : GInv B C p gb tb w hv tv s L) (h1 : GRep B w1 p hv1 s1) (ho : Only (GS1 p hv) w w1) (hg : GNext w hv hv1) : GInv B C p gb tb w1 hv1 tv s1 L := by
  obtain ⟨a1, a2, a3, a4, a5⟩ := h
  have k1 : ∀ {g : Nat} {t : TypeId} {cs : Array Value}, Row w g t cs → t ≠ 185 → t ≠ 5 → ¬ GS1 p hv g := by
    intro g t cs hr h2 h3 hx
    rcases hx with hx | hx
    · exact hr.apart a1.1 h2 hx
    · exact own_apart a1.2 hr (fun e => h3 e.symm) hx
  refine ⟨h1, a2.only ho (k1 a2 (by decide) (by decide)), a3.only ho (k1 a3 (by decide) (by decide)), own_only a4 ho (fun k hk hx => ?_), fun r hr => (a5 r hr).step ho (fun g cs h6 h7 hx => ?_) hg⟩
  · rcases hx with hx | hx
    · subst hx; exact own_apart a4 a1.1 (by decide) hk
    · exact own_rows_apart a4 a1.2 (by decide) k hk hx
  · rcases hx with hx | hx
    · exact h6.apart a1.1 (by decide) hx
    · exact h7 hx
def PutStep (B C p gb tb : Nat) (hv tv : Value) (s' : GS) (L : List RowB) (told : List (List Nat)) (w : World) (e : Ending) (w' : World) : Prop :=
  e = .returned (.tuple #[]) ∧ ∃ hv' tv' L', GInv B C p gb tb w' hv' tv' s' L' ∧ texts L' = texts L ++ told ∧ Only (GS2 p tb hv tv) w w' ∧ GNext w hv hv' ∧ GNext w tv tv' ∧ C ≤ w'.heap.size
end Go.Proofs.Ytjobgnemklpiaaa
