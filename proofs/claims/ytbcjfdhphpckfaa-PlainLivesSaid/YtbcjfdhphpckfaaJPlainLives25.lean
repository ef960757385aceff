/-
  StatusBack: the law walked. cut: how many bytes a piece has. A queue as the statements of cut have it; what a piece's fields are together. cut's Build, as the statements use it; texts of the statement's own are pushed. umtx: a sender in memory; its source, its queue's calls. umtx: a sender is made; its queue's calls. umtx: all let go, and begun anew.
-/
import Derived.Test.YtbcjfdhphpckfaaJPlainLives13
import Derived.Test.YtbcjfdhphpckfaaJPlainLives15
import Derived.Test.YtbcjfdhphpckfaaJPlainLives20
import Derived.Deep.RegionHeld3
import Derived.Test.YtbcjfdhphpckfaaJPlainLives24
import Derived.Test.YtbcjfdhphpckfaaJPlainLives05
import Derived.Lib.SlBytesConst
import Derived.Test.YtbcjfdhphpckfaaJPlainLives16
import Derived.Test.YtbcjfdhphpckfaaJPlainLives02
import Derived.Test.YtbcjfdhphpckfaaJPlainLives03
namespace Go.Proofs.Ytbcjfdhphpckfaa
open Go.RowKit

theorem eqMs_refl (L : List MissM) : eqMs L L = true := by
  induction L with
  | nil => rfl
  | cons m t ih => simp [eqMs, ih, (eqM_iff m m).2 rfl]
theorem sread_yes {A : Option Addr} {bs : List Nat} {M : List MissM} {a : Int} (x n cap : Nat) (w : World) (hn : bs.length = n) (hm : n ≤ 8192) (hc : n ≤ cap) (hs : Src w A (bts bs)) (hb : ∀ b ∈ bs, b < 256) (h : stRd bs x = (0, a, M)) :
    Calls Try.prog 193 #[.slice A n cap, .int .i64 x] w fun e w' => ∃ A' c, e = .returned (.tuple #[.agg #[.int .i64 a, .slice A' M.length c], .int .i64 0]) ∧ M.length ≤ c ∧ c ≤ 9223372036854775807 ∧ MSrc w' A' M ∧ Below w.heap.size w w' := by
  refine (sread_any x n cap w hn hm hc hs hb).mono ?_
  rintro e w' ⟨h1, h2, _⟩
  rw [h] at h2
  obtain ⟨A', c, e1, e2, e3, e4⟩ := h2 rfl
  exact ⟨A', c, e1, e2, e3, e4, h1⟩
theorem sread_err {A : Option Addr} {bs : List Nat} {M : List MissM} {a c : Int} (x n cap : Nat) (w : World) (hn : bs.length = n) (hm : n ≤ 8192) (hc : n ≤ cap) (hs : Src w A (bts bs)) (hb : ∀ b ∈ bs, b < 256) (h : stRd bs x = (c, a, M)) (h0 : c ≠ 0) :
    Calls Try.prog 193 #[.slice A n cap, .int .i64 x] w fun e w' => e = .returned (.tuple #[.agg #[.int .i64 0, .slice none 0 0], .int .i64 c]) ∧ Below w.heap.size w w' := by
  refine (sread_any x n cap w hn hm hc hs hb).mono ?_
  rintro e w' ⟨h1, _, h3⟩
  rw [h] at h3
  exact ⟨h3 h0, h1⟩
theorem cells2x {w : World} {g : Nat} {t : TypeId} {a b : Value} (hr : Row w g t #[a, b]) : w.cell? ⟨g, 0, none⟩ = some a ∧ w.cell? ⟨g, 1, none⟩ = some b := ⟨hr.read rfl, hr.read rfl⟩
set_option maxRecDepth 100000 in
set_option maxHeartbeats 1600000 in
theorem sread_kind {A : Option Addr} (x : Int) (n cap : Nat) (w : World) (h : okS x = false) :
    Calls Try.prog 193 #[.slice A n cap, .int .i64 x] w fun e w' => e = .returned (.tuple #[.agg #[.int .i64 0, .slice none 0 0], .int .i64 9]) ∧ Below w.heap.size w w' := by
  have HM := Lib.hid (fun W => smay_any x W)
  rw [h] at HM
  have HF : Calls Try.prog 235 #[.slice A n cap, .int .i64 x] (w.alloc (.cells #[.int .i64 0, .slice none 0 0] 201)) fun e w' => e = .returned (.int .i64 9) ∧ w.alloc (.cells #[.int .i64 0, .slice none 0 0] 201) = w' := by
    generalize w.alloc (.cells #[.int .i64 0, .slice none 0 0] 201) = W
    clear h
    go_enter Try.func235, Try.ntmps235
    go_wp2_with (go_at_call 267; refine (HM.out _).mono ?_; rintro e w1 ⟨rfl, rfl⟩)
    go_ret
    exact ⟨rfl, rfl⟩
  have HFH := Lib.hid HF
  have ROW := Lib.hid (Row.made w 201 #[.int .i64 0, .slice none 0 0])
  obtain ⟨⟨c0, c1⟩, f0, f1⟩ := cells2 ROW.out
  clear h HF
  go_enter Try.func193, Try.ntmps193
  go_wp2
  refine st_scope_through 0 (fun _ _ => False) (fun _ _ => 0) rfl (fun _ => ?_) (fun _ _ h => h.elim)
  go_wp2_with (go_at_call 235; (with_reducible refine HFH.out.mono ?_); rintro e w1 ⟨rfl, rfl⟩)
  simp only [Exit.jump]
  obtain ⟨dd, hdd⟩ := understat_parts
  refine bodyPost_ret (st_results_two rfl _ _ w.heap.size 201 #[.int .i64 0, .slice none 0 0] dd rfl ROW.out hdd Try.infostat) rfl ?_
  exact ⟨rfl, bl_alloc (Below.refl _ _) _⟩
end Go.Proofs.Ytbcjfdhphpckfaa
namespace Go.Proofs.Ytbcjfdhphpckfaa
open Go.RowKit

def bytesC (ls : List Nat) (x : Int) : Int := if ls.length = 0 then 0 else if 0 < sizeF 1 x then (ls.sum : Int) + sizeF ((ls.length : Int) - 1) x else 0
set_option maxRecDepth 100000 in
set_option maxHeartbeats 1600000 in
theorem cutbytes_any {A D : Option Addr} {L : List RowB} (fi x : Int) (n cap dn dc : Nat) (w : World) (hL : L.length = n) (hn : n ≤ 1000) (hs : RSrc w A L) (hsum : (lens L).sum ≤ 1000000) :
    Calls Try.prog 35 #[.agg #[.int .i64 fi, .slice A n cap, .slice D dn dc], .int .i64 x] w fun e w' => e = .returned (.int .i64 (bytesC (lens L) x)) ∧ Below w.heap.size w w' := by
  have HMB := Lib.hid (fun W => cutmay_any x W)
  have HSU := Lib.hid (fun W (hb : Below w.heap.size w W) => cutsum_any n cap W hL hn (hs.later hb) hsum)
  have HSZ := Lib.hid (fun W => size_any ((n : Int) - 1) x W)
  have hz : 0 ≤ sizeF ((n : Int) - 1) x ∧ sizeF ((n : Int) - 1) x ≤ 46 := sizeF_nonneg _ x
  have HF := Lib.hid (show bytesC (lens L) x = if n = 0 then 0 else if 0 < sizeF 1 x then ((lens L).sum : Int) + sizeF ((n : Int) - 1) x else 0 by unfold bytesC; rw [length_lens, hL])
  have ROW := Lib.hid (Row.made w 58 #[.int .i64 fi, .slice A n cap, .slice D dn dc])
  have HB0 := Lib.hid (bl_alloc (Below.refl w.heap.size w) (.cells #[.int .i64 fi, .slice A n cap, .slice D dn dc] 58))
  have d1 : (w.alloc (.cells #[.int .i64 fi, .slice A n cap, .slice D dn dc] 58)).cell? ⟨w.heap.size, 1, none⟩ = some (.slice A n cap) := ROW.out.read rfl
  generalize sizeF ((n : Int) - 1) x = z at *
  generalize (lens L).sum = sm at *
  clear hs hL
  by_cases h0 : n = 0
  · rw [if_pos h0] at HF
    subst h0
    go_enter Try.func35, Try.ntmps35
    go_wp2
    go_ret
    exact ⟨by rw [HF.out]; rfl, HB0.out⟩
  · rw [if_neg h0] at HF
    have g0 : ((n : Int) == 0) = false := by simp; exact h0
    by_cases hp : 0 < sizeF 1 x
    · rw [if_pos hp] at HF
      have HM := Lib.hid (fun W => (by have h := HMB.out W; rw [decide_eq_true hp] at h; exact h : Calls Try.prog 119 #[.int .i64 x] W fun e w' => e = .returned (.bool true) ∧ W = w'))
      have hwr : IntKind.i64.wrap ((n : Int) - 1) = (n : Int) - 1 := by rw [IntKind.wrap_i64]; omega
      have hws : IntKind.i64.wrap ((sm : Int) + z) = (sm : Int) + z := by rw [IntKind.wrap_i64]; omega
      clear HMB hp h0
      go_enter Try.func35, Try.ntmps35
      go_wp2_with (go_at_call 119; (with_reducible refine (HM.out _).mono ?_); rintro e w1 ⟨rfl, rfl⟩)
      have k0 : (w.alloc (.cells #[.int .i64 fi, .slice A n cap, .slice D dn dc] 58)).drew.cell? ⟨w.heap.size, 1, none⟩ = some (.slice A n cap) := ROW.out.drawn.read rfl
      go_region_held3 (fun w' => w'.cell? ⟨w.heap.size, 1, none⟩ = some (.slice A n cap)) (first | assumption | exact k0 | go_keep) (first
        | (go_at_call 120; (with_reducible refine (HSU.out _ (bl_step HB0.out (bl_drew (Below.refl _ _)))).mono ?_); rintro e w2 ⟨rfl, rfl⟩)
        | (go_at_call 121; (with_reducible refine (HSZ.out _).mono ?_); rintro e w3 ⟨rfl, rfl⟩))
      go_wp2
      go_ret
      exact ⟨by rw [HF.out]; rfl, bl_step HB0.out (bl_drew (Below.refl _ _))⟩
    · rw [if_neg hp] at HF
      have HM := Lib.hid (fun W => (by have h := HMB.out W; rw [decide_eq_false hp] at h; exact h : Calls Try.prog 119 #[.int .i64 x] W fun e w' => e = .returned (.bool false) ∧ W = w'))
      clear HMB hp h0
      go_enter Try.func35, Try.ntmps35
      go_wp2_with (go_at_call 119; (with_reducible refine (HM.out _).mono ?_); rintro e w1 ⟨rfl, rfl⟩)
      go_ret
      exact ⟨by rw [HF.out]; rfl, HB0.out⟩
end Go.Proofs.Ytbcjfdhphpckfaa
namespace Go.Proofs.Ytbcjfdhphpckfaa
open Go.RowKit

/-- a queue that calls made: numbers rise, texts are not empty, only the first one may be begun -/
structure QS (B p : Nat) (R : Int) (w : World) (last : Nat) (ts : List Txt) : Prop where
  q : QRep B w p R last ts
  up : ts.Pairwise (fun a b => a.id < b.id)
  ids : ∀ t ∈ ts, 1 ≤ t.id ∧ t.id ≤ last
  bytes : ∀ t ∈ ts, 0 < t.bs.length ∧ t.bs.length ≤ 1000 ∧ ∀ b ∈ t.bs, b < 256
  bg : ∀ t ∈ ts.drop 1, t.bg = false
  many : ts.length ≤ 64
  small : (bytesF ts : Int) ≤ R
section
variable {B p last : Nat} {R : Int} {w v : World} {ts : List Txt}
theorem QS.later (h : QS B p R w last ts) (hb : Below w.heap.size w v) : QS B p R v last ts := ⟨h.q.later hb, h.up, h.ids, h.bytes, h.bg, h.many, h.small⟩
theorem QS.with (h : QS B p R w last ts) (hq : QRep B v p R last ts) : QS B p R v last ts := ⟨hq, h.up, h.ids, h.bytes, h.bg, h.many, h.small⟩
theorem QS.start (hq : QRep B w p R 0 []) (hR : 0 ≤ R) : QS B p R w 0 [] := ⟨hq, List.Pairwise.nil, (fun t h => by cases h), (fun t h => by cases h), (fun t h => by simp at h), by simp, by simpa [bytesF] using hR⟩
/-- whatever is pushed -/
def QPushed (B p last : Nat) (R : Int) (ts : List Txt) (l : List Nat) (w : World) (e : Ending) (w' : World) : Prop :=
  ∃ (nid : Nat) (er : Int), e = .returned (.tuple #[.int .u64 nid, .int .i64 er]) ∧ QOnly B w w' ∧
    ((er = 0 ∧ nid = last + 1 ∧ 0 < l.length ∧ l.length ≤ 1000 ∧ ts.length < 64 ∧ (bytesF ts : Int) + l.length ≤ R ∧ ∃ t : Txt, t.id = last + 1 ∧ t.bs = l ∧ (t.bg = false ∧ w.heap.size ≤ t.g) ∧ QS B p R w' (last + 1) (ts ++ [t])) ∨
     (er ≠ 0 ∧ nid = 0 ∧ QS B p R w' last ts ∧ (l.length = 0 ∨ 1000 < l.length ∨ ts.length = 64 ∨ R < (bytesF ts : Int) + l.length)))
theorem QS.push (h : QS B p R w last ts) (A : Option Addr) (l : List Nat) (c : Nat) (hr : 0 < R) (hr2 : R ≤ 20000) (hll : l.length ≤ 9223372036854775807) (hlast : last ≤ 1000000000) (hb : ∀ b ∈ l, b < 256)
    (hsrc : ∀ W, QOnly B w W → QSrcB W A (qbts l)) :
    Calls Try.prog 15 #[.pointer (some ⟨p, 0, none⟩), .slice A l.length c] w (QPushed B p last R ts l w) := by
  refine (push_allg A l c h.q hr hr2 h.small h.many hll hlast hsrc).mono ?_
  rintro e w' ⟨nid, er, he, ho, ⟨h1, h2, h3, h4, h5, h6, t, k1, k2, k3, k35, k4⟩ | ⟨h1, h2, h3, h4, h5⟩⟩
  · refine ⟨nid, er, he, ho, .inl ⟨h1, h2, h3, h4, h5, h6, t, k1, k2, ⟨k3, k35⟩, k4, ?_, ?_, ?_, ?_, by simp; omega, by rw [bytesF_snoc, k2]; omega⟩⟩
    · rw [List.pairwise_append]
      refine ⟨h.up, List.pairwise_singleton _ _, fun a ha b hb' => ?_⟩
      rw [List.mem_singleton] at hb'
      subst hb'
      have := (h.ids a ha).2
      omega
    · intro y hy
      rw [List.mem_append, List.mem_singleton] at hy
      rcases hy with hy | rfl
      · have := h.ids y hy
        omega
      · omega
    · intro y hy
      rw [List.mem_append, List.mem_singleton] at hy
      rcases hy with hy | rfl
      · exact h.bytes y hy
      · rw [k2]
        exact ⟨h3, h4, hb⟩
    · intro y hy
      rcases ts with _ | ⟨a, r⟩
      · simp at hy
      · simp only [List.cons_append, List.drop_succ_cons, List.drop_zero, List.mem_append, List.mem_singleton] at hy
        rcases hy with hy | rfl
        · exact h.bg y (by simpa using hy)
        · exact k3
  · refine ⟨nid, er, he, ho, .inr ⟨h1, h2, h.with h3, ?_⟩⟩
    rcases Nat.eq_zero_or_pos l.length with h9 | h9
    · exact .inl h9
    · rcases Nat.lt_or_ge 1000 l.length with h8 | h8
      · exact .inr (.inl h8)
      · exact .inr (.inr (h5 h9 h8))
theorem bytesF_drop (ts : List Txt) (k : Nat) : bytesF (ts.drop k) ≤ bytesF ts := by
  have h := bytesF_append (ts.take k) (ts.drop k)
  rw [List.take_append_drop] at h
  omega
/-- what waits behind a piece is a queue, too -/
theorem RestT.qs {k : Nat} {n : Int} {ts' : List Txt} (h : QS B p R w last ts) (hr : RestT ts k n ts') (hq : QRep B v p R last ts') (hn : ∀ t, ts[k]? = some t → n < t.bs.length) : QS B p R v last ts' := by
  rcases hr with ⟨_, rfl⟩ | ⟨hn0, t, t', h1, h2, h3, h4, rfl⟩
  · refine ⟨hq, h.up.sublist (List.drop_sublist _ _), fun t ht => h.ids t (List.mem_of_mem_drop ht), fun t ht => h.bytes t (List.mem_of_mem_drop ht), fun t ht => ?_, by rw [List.length_drop]; have := h.many; omega, by have := bytesF_drop ts k; have := h.small; omega⟩
    rw [List.drop_drop] at ht
    refine h.bg t ?_
    rw [show k + 1 = 1 + k by omega, ← List.drop_drop] at ht
    exact List.mem_of_mem_drop ht
  · have hk : k < ts.length := (List.getElem?_eq_some_iff.1 h1).1
    have hd : ts.drop k = t :: ts.drop (k + 1) := by
      rw [List.drop_eq_getElem_cons hk]
      obtain ⟨_, e⟩ := List.getElem?_eq_some_iff.1 h1
      rw [e]
    have hm := List.mem_of_getElem? h1
    have hlt := hn t h1
    have hb := h.bytes t hm
    have hp : (t :: ts.drop (k + 1)).Pairwise (fun a b => a.id < b.id) := by rw [← hd]; exact h.up.sublist (List.drop_sublist _ _)
    rw [List.pairwise_cons] at hp
    refine ⟨hq, ?_, ?_, ?_, ?_, ?_, ?_⟩
    · rw [List.pairwise_cons, h2]
      exact hp
    · intro y hy
      rcases List.mem_cons.1 hy with rfl | hy
      · rw [h2]; exact h.ids t hm
      · exact h.ids y (List.mem_of_mem_drop hy)
    · intro y hy
      rcases List.mem_cons.1 hy with rfl | hy
      · rw [h3]
        refine ⟨by rw [List.length_drop]; omega, by rw [List.length_drop]; omega, fun b hb9 => hb.2.2 b (List.mem_of_mem_drop hb9)⟩
      · exact h.bytes y (List.mem_of_mem_drop hy)
    · intro y hy
      simp only [List.drop_succ_cons, List.drop_zero] at hy
      refine h.bg y ?_
      rw [show k + 1 = 1 + k by omega, ← List.drop_drop] at hy
      exact List.mem_of_mem_drop hy
    · simp
      have := h.many
      omega
    · rw [bytesF_cons, h3, List.length_drop]
      have h9 := bytesF_drop ts k
      rw [hd, bytesF_cons] at h9
      have := h.small
      omega
end
section
variable {room x n : Int} {ls : List Nat} {k : Nat}
theorem Bld.less (h : Bld room x ls k n) : n ≤ 0 ∨ (k < ls.length ∧ 0 < n ∧ n < (ls.getD k 0 : Nat)) := by
  rcases h.stop with h1 | h1
  · exact .inl h1
  · rcases Int.lt_or_le 0 n with h2 | h2
    · exact .inr ⟨h1.1, h2, h1.2⟩
    · exact .inl h2
theorem getD_at {ls : List Nat} {k : Nat} (h : k < ls.length) : ls[k]? = some (ls.getD k 0) := by
  rw [List.getD_eq_getElem?_getD, List.getElem?_eq_getElem h]
  rfl
theorem Bld.only {k' : Nat} {n' : Int} (h : Bld room x ls k n) (h' : Bld room x ls k' n') (hp : ∀ l ∈ ls, 0 < l) : k = k' ∧ n = n' := by
  have key : ∀ k n k' n', Bld room x ls k n → Bld room x ls k' n' → ¬ k < k' := by
    intro k n k' n' h h' hlt
    have hk : k < ls.length := by have := h'.le; omega
    have h1 := h'.whole k _ hlt (getD_at hk)
    have h2 := h.next
    have h3 := hp _ (List.mem_of_getElem? (getD_at hk))
    rcases h.stop with h4 | h4
    · omega
    · omega
  have h1 := key _ _ _ _ h h'
  have h2 := key _ _ _ _ h' h
  have e : k = k' := by omega
  subst e
  exact ⟨rfl, h.next.trans h'.next.symm⟩
/-- how many bytes the fields have -/
def fieldsL (ls : List Nat) (k : Nat) (n : Int) : List Nat := ls.take k ++ (if n ≤ 0 then [] else [n.toNat])
theorem Bld.fits (h : Bld room x ls k n) (hp : ∀ l ∈ ls, 0 < l) (hr : 0 ≤ room) (hx : 0 < sizeF 1 x) : bytesC (fieldsL ls k n) x ≤ room ∧ (0 < n → bytesC (fieldsL ls k n) x = room) ∧ (fieldsL ls k n).length ≤ 24 := by
  have hz0 := fun (m : Int) => sizeF_nonneg m x
  rcases Int.lt_or_le 0 n with h0 | h0
  · -- a text is cut
    have hk := h.less
    rw [show fieldsL ls k n = ls.take k ++ [n.toNat] by unfold fieldsL; rw [if_neg (by omega)]]
    have hn := h.next
    have hkl : k < ls.length := by omega
    have hlt : (ls.take k).length = k := by rw [List.length_take]; omega
    unfold nextF at hn
    rw [hlt] at hn
    have h24 : k < 24 := by
      rcases Nat.lt_or_ge k 24 with h9 | h9
      · exact h9
      · rw [if_pos h9] at hn
        omega
    rw [if_neg (by omega)] at hn
    have e : n = room - ((ls.take k).sum : Int) - sizeF k x := by omega
    unfold bytesC
    rw [if_neg (by simp), if_pos hx]
    simp only [List.sum_append, List.length_append, hlt, List.sum_cons, List.sum_nil, List.length_cons, List.length_nil]
    have e2 : (((k + (0 + 1) : Nat) : Int) - 1) = (k : Int) := by omega
    rw [e2]
    have h3 : ((n.toNat : Nat) : Int) = n := Int.toNat_of_nonneg (by omega)
    refine ⟨?_, fun _ => ?_, by omega⟩
    · push_cast; omega
    · push_cast; omega
  · rw [show fieldsL ls k n = ls.take k by unfold fieldsL; rw [if_pos h0, List.append_nil]]
    rcases Nat.eq_zero_or_pos k with hk | hk
    · subst hk
      unfold bytesC
      simp
      omega
    · have hkl := h.le
      have hlt : (ls.take k).length = k := by rw [List.length_take]; omega
      have h1 := h.whole (k - 1) _ (by omega) (getD_at (show k - 1 < ls.length by omega))
      have h2 := hp _ (List.mem_of_getElem? (getD_at (show k - 1 < ls.length by omega)))
      have hs : ls.take k = ls.take (k - 1) ++ [ls.getD (k - 1) 0] := by
        have := List.take_add_one (l := ls) (i := k - 1)
        rw [show k - 1 + 1 = k by omega, getD_at (show k - 1 < ls.length by omega)] at this
        simpa using this
      have hlt1 : (ls.take (k - 1)).length = k - 1 := by rw [List.length_take]; omega
      unfold nextF at h1
      rw [hlt1] at h1
      have h24 : k - 1 < 24 := by
        rcases Nat.lt_or_ge (k - 1) 24 with h9 | h9
        · exact h9
        · rw [if_pos h9] at h1
          omega
      rw [if_neg (by omega)] at h1
      have hss : ((ls.take k).sum : Int) = ((ls.take (k - 1)).sum : Int) + (ls.getD (k - 1) 0 : Nat) := by
        rw [hs]
        simp
      unfold bytesC
      rw [if_neg (by omega), if_pos hx, hlt]
      have e2 : ((k : Int) - 1) = ((k - 1 : Nat) : Int) := by omega
      rw [e2]
      refine ⟨by omega, fun h9 => by omega, by omega⟩
end
/-- the bytes that wait -/
def waitB (ts : List Txt) : List Nat := (ts.map Txt.bs).flatten
theorem length_waitB (ts : List Txt) : (waitB ts).length = bytesF ts := by
  unfold waitB
  induction ts with
  | nil => rfl
  | cons t r ih => rw [bytesF_cons, ← ih]; simp
/-- what is taken, and what waits behind it, is what waited -/
theorem RestT.bytes {ts ts' : List Txt} {k : Nat} {n : Int} (h : RestT ts k n ts') : (fieldsT (ts.map Txt.bs) k n).flatten ++ waitB ts' = waitB ts := by
  unfold fieldsT waitB
  rcases h with ⟨hn, rfl⟩ | ⟨hn, t, t', h1, h2, h3, h4, rfl⟩
  · rw [if_pos hn, List.append_nil, List.map_drop, ← List.flatten_append, List.take_append_drop]
  · have hk : k < ts.length := (List.getElem?_eq_some_iff.1 h1).1
    have hd : ts.map Txt.bs = (ts.map Txt.bs).take k ++ t.bs :: (ts.drop (k + 1)).map Txt.bs := by
      have e : ts.drop k = t :: ts.drop (k + 1) := by
        rw [List.drop_eq_getElem_cons hk]
        obtain ⟨_, e⟩ := List.getElem?_eq_some_iff.1 h1
        rw [e]
      conv => lhs; rw [← List.take_append_drop k ts, e]
      rw [List.map_append, List.map_cons, List.map_take]
    have hg : (ts.map Txt.bs).getD k [] = t.bs := by
      rw [List.getD_eq_getElem?_getD, List.getElem?_map, h1]
      rfl
    rw [if_neg (by omega), hg]
    conv => rhs; rw [hd]
    simp only [List.flatten_append, List.map_cons, List.flatten_cons, h3, List.flatten_nil, List.append_nil, List.append_assoc]
    rw [← List.append_assoc (t.bs.take _), List.take_append_drop]
theorem lens_fieldsT {ts : List Txt} {k : Nat} {n : Int} {L : List RowB} (h : texts L = fieldsT (ts.map Txt.bs) k n) (hn : n ≤ 0 ∨ n ≤ ((lenT ts).getD k 0 : Nat)) : lens L = fieldsL (lenT ts) k n := by
  rw [lens_texts, h]
  unfold fieldsT fieldsL
  rw [List.map_append, List.map_take]
  congr 1
  · unfold lenT
    rw [List.map_map]
    rfl
  · split
    · rfl
    · rename_i h9
      have e : ((ts.map Txt.bs).getD k []).length = (lenT ts).getD k 0 := by
        unfold lenT
        rw [List.getD_eq_getElem?_getD, List.getD_eq_getElem?_getD, List.getElem?_map, List.getElem?_map]
        cases ts[k]? <;> rfl
      simp only [List.map_cons, List.map_nil, List.length_take, e]
      congr 1
      omega
/-- block g holds none of the texts' bytes -/
def Clear (ts : List Txt) (v : Value) : Prop := ∀ t ∈ ts, v.ownBlock ≠ some t.g
theorem RestT.clear {ts ts' : List Txt} {k : Nat} {n : Int} {v : Value} (h : RestT ts k n ts') (hc : Clear ts v) : Clear ts' v := by
  rcases h with ⟨_, rfl⟩ | ⟨_, t, t', h1, _, _, h4, rfl⟩
  · exact fun t ht => hc t (List.mem_of_mem_drop ht)
  · intro y hy
    rcases List.mem_cons.1 hy with rfl | hy
    · rw [h4.2]
      exact hc t (List.mem_of_getElem? h1)
    · exact hc y (List.mem_of_mem_drop hy)
end Go.Proofs.Ytbcjfdhphpckfaa
namespace Go.Proofs.Ytbcjfdhphpckfaa
open Go.RowKit

section
variable {B p last : Nat} {R : Int} {w v : World} {ts : List Txt}
/-- what Build does, the queue told whole -/
def CutQ (B p last : Nat) (R : Int) (ts : List Txt) (room x : Int) (w : World) (e : Ending) (w' : World) : Prop :=
  ∃ k n ts', Bld room x (lenT ts) k n ∧ RestT ts k n ts' ∧ QS B p R w' last ts' ∧ QOnly B w w' ∧
    ((k = 0 ∧ n ≤ 0 ∧ e = .returned (.tuple #[.agg #[.int .i64 0, .slice none 0 0, .slice none 0 0], .int .i64 4])) ∨
     ((0 < k ∨ 0 < n) ∧ ∃ A D L, e = .returned (.tuple #[.agg #[.int .i64 (fiT ts n), .slice A L.length L.length, .slice D k k], .int .i64 0]) ∧ texts L = fieldsT (ts.map Txt.bs) k n ∧
        (∃ c, NewRows w.heap.size w' (.slice A L.length c) L) ∧ ∃ c, NewIds w.heap.size w' (.slice D k c) ((ts.take k).map Txt.id)))
theorem lenT_pos (h : ∀ t ∈ ts, 0 < t.bs.length) : ∀ l ∈ lenT ts, 0 < l := by
  intro l hl
  unfold lenT at hl
  rw [List.mem_map] at hl
  obtain ⟨t, ht, rfl⟩ := hl
  exact h t ht
theorem Bld.below {room x n : Int} {k : Nat} (h : Bld room x (lenT ts) k n) (hp : ∀ t ∈ ts, 0 < t.bs.length) : ∀ t, ts[k]? = some t → n < t.bs.length := by
  intro t ht
  have h1 := hp t (List.mem_of_getElem? ht)
  have h2 := lenT_at ht
  rcases h.less with h3 | ⟨_, _, h3⟩
  · omega
  · rw [List.getD_eq_getElem?_getD, h2] at h3
    exact h3
theorem QS.build (h : QS B p R w last ts) (room x : Int) (hr : 0 < R) (hf : faultC room x = 0) :
    Calls Try.prog 32 #[.pointer (some ⟨p, 0, none⟩), .int .i64 room, .int .i64 x] w (CutQ B p last R ts room x w) := by
  refine (cutbuild_ok room x h.q hr h.many (fun t ht => (h.ids t ht).1) hf h.bytes h.bg).mono ?_
  rintro e w' ⟨k, n, ts', h1, h2, h3, h4, h5⟩
  exact ⟨k, n, ts', h1, h2, h2.qs h h3 (h1.below (fun t ht => (h.bytes t ht).1)), h4, h5⟩
/-- something is built -/
theorem QS.build_is (h : QS B p R w last ts) (room x : Int) (hr : 0 < R) (hf : faultC room x = 0) (k : Nat) (n : Int) (hB : Bld room x (lenT ts) k n) (hkn : 0 < k ∨ 0 < n) :
    Calls Try.prog 32 #[.pointer (some ⟨p, 0, none⟩), .int .i64 room, .int .i64 x] w fun e w' => ∃ ts' A D L, e = .returned (.tuple #[.agg #[.int .i64 (fiT ts n), .slice A L.length L.length, .slice D k k], .int .i64 0]) ∧ RestT ts k n ts' ∧ QS B p R w' last ts' ∧ QOnly B w w' ∧ texts L = fieldsT (ts.map Txt.bs) k n ∧
        (∃ c, NewRows w.heap.size w' (.slice A L.length c) L) ∧ ∃ c, NewIds w.heap.size w' (.slice D k c) ((ts.take k).map Txt.id) := by
  refine (h.build room x hr hf).mono ?_
  rintro e w' ⟨k', n', ts', h1, h2, h3, h4, h5⟩
  obtain ⟨rfl, rfl⟩ := h1.only hB (lenT_pos (fun t ht => (h.bytes t ht).1))
  rcases h5 with ⟨h6, h7, _⟩ | ⟨_, A, D, L, h6, h7, h8, h9⟩
  · omega
  · exact ⟨ts', A, D, L, h6, h2, h3, h4, h7, h8, h9⟩
/-- nothing is built -/
theorem QS.build_none (h : QS B p R w last ts) (room x : Int) (hr : 0 < R) (hf : faultC room x = 0) (n : Int) (hB : Bld room x (lenT ts) 0 n) (hn : n ≤ 0) :
    Calls Try.prog 32 #[.pointer (some ⟨p, 0, none⟩), .int .i64 room, .int .i64 x] w fun e w' => e = .returned (.tuple #[.agg #[.int .i64 0, .slice none 0 0, .slice none 0 0], .int .i64 4]) ∧ QS B p R w' last ts ∧ QOnly B w w' := by
  refine (h.build room x hr hf).mono ?_
  rintro e w' ⟨k', n', ts', h1, h2, h3, h4, h5⟩
  obtain ⟨rfl, rfl⟩ := h1.only hB (lenT_pos (fun t ht => (h.bytes t ht).1))
  rcases h2 with ⟨_, rfl⟩ | ⟨h2, _⟩
  · rcases h5 with ⟨_, _, h6⟩ | ⟨h6, _⟩
    · exact ⟨h6, h3, h4⟩
    · omega
  · omega
theorem csrc_mark (w1 : World) (l : List Nat) (fr : Nat × Nat) (W : World) (h : QOnly B (w1.alloc (.cells (bts l).toArray 5 fr)) W) : QSrcB W (some ⟨w1.heap.size, 0, none⟩) (qbts l) := by
  intro _
  have hnew : (w1.alloc (.cells (bts l).toArray 5 fr)).heap[w1.heap.size]? = some (.cells (bts l).toArray 5 fr) := heap_alloc_new w1 _
  have hW : W.heap[w1.heap.size]? = some (.cells (bts l).toArray 5 fr) := by
    rw [Only.same h w1.heap.size (by simp) (fun ⟨_, t, cs, hr, ht⟩ => ?_)]
    · exact hnew
    · unfold Row at hr
      rw [hnew] at hr
      injection hr with hr
      injection hr with _ hr
      subst hr
      rcases ht with ht | ht
      · exact absurd ht (by decide)
      · exact absurd ht (by decide)
  refine ⟨_, _, rfl, fun j u hu => ?_⟩
  rw [Nat.zero_add, cell_of_row W w1.heap.size j _ 5 fr hW]
  have hu' : (bts l)[j]? = some u := hu
  simpa using hu'
theorem cpush_const (h : QS B p R w last ts) (l : List Nat) (n : Nat) (fr : Nat × Nat) (hn : l.length = n) (hr : 0 < R) (hr2 : R ≤ 20000) (hlast : last ≤ 1000000) (h0 : 0 < n) (h1 : n ≤ 1000) (hm : ts.length < 64) (hf : (bytesF ts : Int) + n ≤ R) (hb : ∀ b ∈ l, b < 256) :
    Calls Try.prog 15 #[.pointer (some ⟨p, 0, none⟩), .slice (some ⟨w.heap.size, 0, none⟩) n n] (w.alloc (.cells (bts l).toArray 5 fr)) fun e w' => e = .returned (.tuple #[.int .u64 (last + 1 : Nat), .int .i64 0]) ∧ (∃ t : Txt, t.id = last + 1 ∧ t.bs = l ∧ t.bg = false ∧ QS B p R w' (last + 1) (ts ++ [t])) ∧ Below B w w' := by
  subst hn
  have hbl := bl_alloc (Below.refl w.heap.size w) (.cells (bts l).toArray 5 fr)
  refine ((h.later hbl).push (some ⟨w.heap.size, 0, none⟩) l l.length hr hr2 (by omega) (by omega) hb (fun W hW => csrc_mark w l fr W hW)).mono ?_
  rintro e w' ⟨nid, er, rfl, ho, ⟨rfl, rfl, _, _, _, _, t, k1, k2, ⟨k3, _⟩, k4⟩ | ⟨k1, _, _, k2⟩⟩
  · exact ⟨rfl, ⟨t, k1, k2, k3, k4⟩, (hbl.mono h.q.2.1).trans (ho.below (Nat.le_trans h.q.2.1 hbl.size))⟩
  · omega
end
theorem bld3 : Bld 5 11 [2, 1, 3] 2 (-1) := ⟨by decide, fun i l hi hl => by
  match i, hi, hl with
  | 0, _, hl => simp at hl; subst hl; decide
  | 1, _, hl => simp at hl; subst hl; decide, by decide, by decide⟩
theorem bld1 : Bld 2 11 [3] 0 2 := ⟨by decide, fun i l hi hl => by omega, by decide, by decide⟩
theorem bld2 : Bld 9 11 [1] 1 0 := ⟨by decide, fun i l hi hl => by
  match i, hi, hl with
  | 0, _, hl => simp at hl; subst hl; decide, by decide, by decide⟩
theorem bld0 : Bld 9 11 [] 0 0 := ⟨by decide, fun i l hi hl => by omega, by decide, by decide⟩
end Go.Proofs.Ytbcjfdhphpckfaa
namespace Go.Proofs.Ytbcjfdhphpckfaa
open Go.RowKit

def MCells (c : Cf) (q : Value) : Array Value := #[.int .i64 c.mode, .int .i64 c.bits, .int .i64 c.win, .int .i64 c.reo, .int .i64 c.prx, .int .i64 c.pro, .int .i64 c.ppd, .int .i64 c.pby, .int .i64 c.mrx, .int .i64 c.qb, q]
def SCells (c : Cf) (q : Value) (nx : Int) : Array Value := #[.int .i64 c.mode, .int .i64 c.bits, .int .i64 c.win, .int .i64 c.reo, .int .i64 c.prx, .int .i64 c.pro, .int .i64 c.ppd, .int .i64 c.pby, .int .i64 c.mrx, .int .i64 c.qb, q, .int .i64 nx]
theorem Try.infosrc : (Try.prog.info? 114).map (·.size) = some 11 := by kernel_rfl
theorem Try.undersrc : (Try.prog.underlying 114).map (fun d => match d with | .struct _ => true | _ => false) = some true := by kernel_rfl
theorem undersrc_parts : ∃ fs, Try.prog.underlying 114 = some (.struct fs) := by
  obtain ⟨d, hd, h⟩ := Option.map_eq_some_iff.1 Try.undersrc
  cases d with
  | struct fs => exact ⟨fs, hd⟩
  | _ => simp at h
section
variable {x : Nat} {c : Cf} {v : Option Addr} {nx : Int} {w : World}
theorem scell_reads (h : Row w x 116 (SCells c (.pointer v) nx)) : w.cell? ⟨x, 0, none⟩ = some (.int .i64 c.mode) ∧ w.cell? ⟨x, 1, none⟩ = some (.int .i64 c.bits) ∧ w.cell? ⟨x, 2, none⟩ = some (.int .i64 c.win) ∧ w.cell? ⟨x, 3, none⟩ = some (.int .i64 c.reo) ∧ w.cell? ⟨x, 4, none⟩ = some (.int .i64 c.prx) ∧ w.cell? ⟨x, 5, none⟩ = some (.int .i64 c.pro) ∧ w.cell? ⟨x, 6, none⟩ = some (.int .i64 c.ppd) ∧ w.cell? ⟨x, 7, none⟩ = some (.int .i64 c.pby) ∧ w.cell? ⟨x, 8, none⟩ = some (.int .i64 c.mrx) ∧ w.cell? ⟨x, 9, none⟩ = some (.int .i64 c.qb) ∧ w.cell? ⟨x, 10, none⟩ = some (.pointer v) ∧ w.cell? ⟨x, 11, none⟩ = some (.int .i64 nx) :=
  ⟨h.read rfl, h.read rfl, h.read rfl, h.read rfl, h.read rfl, h.read rfl, h.read rfl, h.read rfl, h.read rfl, h.read rfl, h.read rfl, h.read rfl⟩
set_option maxRecDepth 100000 in
set_option maxHeartbeats 800000 in
theorem usource_any (h : Row w x 116 (SCells c (.pointer v) nx)) : Calls Try.prog 141 #[.pointer (some ⟨x, 0, none⟩)] w fun e w' => e = .returned (.agg (MCells c (.pointer v))) ∧ Below w.heap.size w w' := by
  obtain ⟨a0, a1, a2, a3, a4, a5, a6, a7, a8, a9, a10, _⟩ := scell_reads h
  have hx := h.inside
  obtain ⟨mode, bits, win, reo, prx, pro, ppd, pby, mrx, qb⟩ := c
  unfold MCells
  simp only at *
  clear h
  go_enter Try.func141, Try.ntmps141
  go_wp2
  obtain ⟨dd, hdd⟩ := undersrc_parts
  refine bodyPost_ret (results_cell_row rfl _ _ w.heap.size 114 #[.int .i64 mode, .int .i64 bits, .int .i64 win, .int .i64 reo, .int .i64 prx, .int .i64 pro, .int .i64 ppd, .int .i64 pby, .int .i64 mrx, .int .i64 qb, .pointer v] (0, 0) (.struct dd) rfl (Row.made _ _ _) hdd rfl Try.infosrc) rfl ?_
  exact ⟨rfl, bl_alloc (Below.refl _ _) _⟩
end
end Go.Proofs.Ytbcjfdhphpckfaa
namespace Go.Proofs.Ytbcjfdhphpckfaa
open Go.RowKit

set_option maxRecDepth 100000 in
set_option maxHeartbeats 1600000 in
theorem unew_ok (bits win reo prx pro ppd pby mrx qb : Int) (w : World) (hck : checkF ⟨1, bits, win, reo, prx, pro, ppd, pby, mrx, qb⟩ = 0) (h1 : 1 ≤ qb) (h2 : qb ≤ 20000) :
    Calls Try.prog 64 #[.agg (Cf.a ⟨1, bits, win, reo, prx, pro, ppd, pby, mrx, qb⟩)] w fun e w' => ∃ x q : Nat, e = .returned (.tuple #[.pointer (some ⟨x, 0, none⟩), .int .i64 0]) ∧ Row w' x 116 (SCells ⟨1, bits, win, reo, prx, pro, ppd, pby, mrx, qb⟩ (.pointer (some ⟨q, 0, none⟩)) 0) ∧ QRep w.heap.size w' q qb 0 [] ∧ Below w.heap.size w w' ∧ w.heap.size ≤ x := by
  have HCK := Lib.hid (fun W => pcheck_any ⟨1, bits, win, reo, prx, pro, ppd, pby, mrx, qb⟩ W)
  rw [hck] at HCK
  unfold Cf.a at *
  have ROW := Lib.hid (Row.made w 94 #[.int .i64 1, .int .i64 bits, .int .i64 win, .int .i64 reo, .int .i64 prx, .int .i64 pro, .int .i64 ppd, .int .i64 pby, .int .i64 mrx, .int .i64 qb])
  have HB0 := Lib.hid (bl_alloc (Below.refl w.heap.size w) (.cells #[.int .i64 1, .int .i64 bits, .int .i64 win, .int .i64 reo, .int .i64 prx, .int .i64 pro, .int .i64 ppd, .int .i64 pby, .int .i64 mrx, .int .i64 qb] 94))
  obtain ⟨c0, c1, c2, c3, c4, c5, c6, c7, c8, c9⟩ := cells10 ROW.out
  clear hck
  go_enter Try.func64, Try.ntmps64
  go_wp2_with (first
    | (go_at_call 135; (with_reducible refine (HCK.out _).mono ?_); rintro e w1 ⟨rfl, hb1⟩; (have HB1 := Lib.hid (bl_step HB0.out hb1); have ROW1 := Lib.hid (ROW.out.later hb1); clear hb1 c0 c1 c2 c3 c4 c5 c6 c7 c8 c9; obtain ⟨c0, c1, c2, c3, c4, c5, c6, c7, c8, c9⟩ := cells10 ROW1.out))
    | (go_at_call 13; (with_reducible refine (qnew_any w.heap.size qb w1 HB1.out.size h1 h2).mono ?_); rintro e w2 ⟨rfl, hq, hb2⟩; (have HQ := Lib.hid hq; have HB2 := Lib.hid (bl_step HB1.out hb2); have ROW2 := Lib.hid (ROW1.out.later hb2); clear hq hb2 c0 c1 c2 c3 c4 c5 c6 c7 c8 c9; obtain ⟨c0, c1, c2, c3, c4, c5, c6, c7, c8, c9⟩ := cells10 ROW2.out)))
  go_ret2
  exact ⟨_, w1.heap.size, rfl, Row.made w2 116 _, HQ.out.later (bl_alloc (Below.refl _ _) _), bl_alloc HB2.out _, HB2.out.size⟩
set_option maxRecDepth 100000 in
set_option maxHeartbeats 1600000 in
theorem unew_kind (mode bits win reo prx pro ppd pby mrx qb : Int) (w : World) (hck : checkF ⟨mode, bits, win, reo, prx, pro, ppd, pby, mrx, qb⟩ = 0) (hm : mode ≠ 1) :
    Calls Try.prog 64 #[.agg (Cf.a ⟨mode, bits, win, reo, prx, pro, ppd, pby, mrx, qb⟩)] w fun e w' => e = .returned (.tuple #[.pointer none, .int .i64 9]) ∧ Below w.heap.size w w' := by
  have HCK := Lib.hid (fun W => pcheck_any ⟨mode, bits, win, reo, prx, pro, ppd, pby, mrx, qb⟩ W)
  rw [hck] at HCK
  unfold Cf.a at *
  have ROW := Lib.hid (Row.made w 94 #[.int .i64 mode, .int .i64 bits, .int .i64 win, .int .i64 reo, .int .i64 prx, .int .i64 pro, .int .i64 ppd, .int .i64 pby, .int .i64 mrx, .int .i64 qb])
  have HB0 := Lib.hid (bl_alloc (Below.refl w.heap.size w) (.cells #[.int .i64 mode, .int .i64 bits, .int .i64 win, .int .i64 reo, .int .i64 prx, .int .i64 pro, .int .i64 ppd, .int .i64 pby, .int .i64 mrx, .int .i64 qb] 94))
  obtain ⟨c0, c1, c2, c3, c4, c5, c6, c7, c8, c9⟩ := cells10 ROW.out
  have hne : (mode != 1) = true := by simpa using hm
  clear hck hm
  go_enter Try.func64, Try.ntmps64
  go_wp2_with (first
    | (go_at_call 135; (with_reducible refine (HCK.out _).mono ?_); rintro e w1 ⟨rfl, hb1⟩; (have HB1 := Lib.hid (bl_step HB0.out hb1); have ROW1 := Lib.hid (ROW.out.later hb1); clear hb1 c0 c1 c2 c3 c4 c5 c6 c7 c8 c9; obtain ⟨c0, c1, c2, c3, c4, c5, c6, c7, c8, c9⟩ := cells10 ROW1.out)))
  go_ret2
  exact ⟨rfl, HB1.out⟩
set_option maxRecDepth 100000 in
set_option maxHeartbeats 1600000 in
theorem unew_bad (mode bits win reo prx pro ppd pby mrx qb : Int) (w : World) (hck : checkF ⟨mode, bits, win, reo, prx, pro, ppd, pby, mrx, qb⟩ ≠ 0) :
    Calls Try.prog 64 #[.agg (Cf.a ⟨mode, bits, win, reo, prx, pro, ppd, pby, mrx, qb⟩)] w fun e w' => e = .returned (.tuple #[.pointer none, .int .i64 (checkF ⟨mode, bits, win, reo, prx, pro, ppd, pby, mrx, qb⟩)]) ∧ Below w.heap.size w w' := by
  have HCK := Lib.hid (fun W => pcheck_any ⟨mode, bits, win, reo, prx, pro, ppd, pby, mrx, qb⟩ W)
  generalize checkF ⟨mode, bits, win, reo, prx, pro, ppd, pby, mrx, qb⟩ = er at *
  have hne : (er != 0) = true := by simpa using hck
  unfold Cf.a at *
  have ROW := Lib.hid (Row.made w 94 #[.int .i64 mode, .int .i64 bits, .int .i64 win, .int .i64 reo, .int .i64 prx, .int .i64 pro, .int .i64 ppd, .int .i64 pby, .int .i64 mrx, .int .i64 qb])
  have HB0 := Lib.hid (bl_alloc (Below.refl w.heap.size w) (.cells #[.int .i64 mode, .int .i64 bits, .int .i64 win, .int .i64 reo, .int .i64 prx, .int .i64 pro, .int .i64 ppd, .int .i64 pby, .int .i64 mrx, .int .i64 qb] 94))
  obtain ⟨c0, c1, c2, c3, c4, c5, c6, c7, c8, c9⟩ := cells10 ROW.out
  clear hck
  go_enter Try.func64, Try.ntmps64
  go_wp2_with (first
    | (go_at_call 135; (with_reducible refine (HCK.out _).mono ?_); rintro e w1 ⟨rfl, hb1⟩; (have HB1 := Lib.hid (bl_step HB0.out hb1); clear hb1)))
  go_ret2
  exact ⟨rfl, HB1.out⟩
theorem field_queue (mode bits win reo prx pro ppd pby mrx qb : Int) (v : Option Addr) : ∀ W : World, (Instr.field 114 (.agg #[.int .i64 mode, .int .i64 bits, .int .i64 win, .int .i64 reo, .int .i64 prx, .int .i64 pro, .int .i64 ppd, .int .i64 pby, .int .i64 mrx, .int .i64 qb, .pointer v]) 1).run Try.prog W = .ok (.pointer v) W := fun _ => by kernel_rfl
section
variable {B x q last : Nat} {c : Cf} {room nx : Int} {ts : List Txt} {w : World}
set_option maxRecDepth 100000 in
set_option maxHeartbeats 800000 in
theorem upush_all (A : Option Addr) (l : List Nat) (n k : Nat) (hn : l.length = n) (hE : Row w x 116 (SCells c (.pointer (some ⟨q, 0, none⟩)) nx)) (h : QS B q room w last ts) (hr : 0 < room) (hr2 : room ≤ 20000) (hll : n ≤ 9223372036854775807) (hlast : last ≤ 1000000000) (hb : ∀ b ∈ l, b < 256)
    (hsrc : ∀ W W', Below w.heap.size w W → QOnly B W W' → QSrcB W' A (qbts l)) :
    Calls Try.prog 65 #[.pointer (some ⟨x, 0, none⟩), .slice A n k] w fun e w' => ∃ w1, Below w.heap.size w w1 ∧ QPushed B q last room ts l w1 e w' := by
  have HQ := Lib.hid (usource_any hE)
  have HP := Lib.hid (fun W (hW : Below w.heap.size w W) => (h.later hW).push A l k hr hr2 (by rw [hn]; exact hll) hlast hb (fun W' hW' => hsrc W W' hW hW'))
  rw [hn] at HP
  obtain ⟨mode, bits, win, reo, prx, pro, ppd, pby, mrx, qb⟩ := c
  unfold MCells at HQ
  simp only at HQ
  have hfd := field_queue mode bits win reo prx pro ppd pby mrx qb (some ⟨q, 0, none⟩)
  clear hE h hsrc hn hb
  go_enter Try.func65, Try.ntmps65
  go_wp2_with (first
    | (go_at_call 141; (with_reducible refine HQ.out.mono ?_); rintro e w1 ⟨rfl, hb1⟩; (have HB1 := Lib.hid hb1; clear hb1))
    | (go_at_call 15; (with_reducible refine (HP.out w1 HB1.out).mono ?_); rintro e w2 ⟨nid, er, rfl, hq, hz9⟩; have H : Hid (QPushed B q last room ts l w1 (.returned (.tuple #[.int .u64 nid, .int .i64 er])) w2) := Lib.hid ⟨nid, er, rfl, hq, hz9⟩; clear hq hz9))
  go_ret2
  exact ⟨w1, HB1.out, H.out⟩
set_option maxRecDepth 100000 in
set_option maxHeartbeats 800000 in
theorem udisc_any (nid : Nat) (hE : Row w x 116 (SCells c (.pointer (some ⟨q, 0, none⟩)) nx)) (h : QRep B w q room last ts) (hr : 0 < room) (hn : ts.length ≤ 900) :
    Calls Try.prog 67 #[.pointer (some ⟨x, 0, none⟩), .int .u64 nid] w fun e w' => ∃ w1, Below w.heap.size w w1 ∧ e = .returned (.int .i64 (discE nid ts)) ∧ QRep B w' q room last (discF nid ts) ∧ QOnly B w1 w' := by
  have HQ := Lib.hid (usource_any hE)
  have HP := Lib.hid (fun W (hW : Below w.heap.size w W) => discard_any nid (h.later hW) hr hn)
  obtain ⟨mode, bits, win, reo, prx, pro, ppd, pby, mrx, qb⟩ := c
  unfold MCells at HQ
  simp only at HQ
  have hfd := field_queue mode bits win reo prx pro ppd pby mrx qb (some ⟨q, 0, none⟩)
  clear hE h
  go_enter Try.func67, Try.ntmps67
  go_wp2_with (first
    | (go_at_call 141; (with_reducible refine HQ.out.mono ?_); rintro e w1 ⟨rfl, hb1⟩; (have HB1 := Lib.hid hb1; clear hb1))
    | (go_at_call 19; (with_reducible refine (HP.out w1 HB1.out).mono ?_); rintro e w2 ⟨rfl, hq, ho⟩; (have H1 := Lib.hid hq; have H2 := Lib.hid ho; clear hq ho)))
  go_ret
  exact ⟨w1, HB1.out, rfl, H1.out, H2.out⟩
set_option maxRecDepth 100000 in
set_option maxHeartbeats 800000 in
theorem ubytes_any (hE : Row w x 116 (SCells c (.pointer (some ⟨q, 0, none⟩)) nx)) (h : QRep B w q room last ts) (hr : 0 < room) (hb : bytesF ts ≤ 1000000000) :
    Calls Try.prog 68 #[.pointer (some ⟨x, 0, none⟩)] w fun e w' => e = .returned (.int .i64 (bytesF ts : Nat)) ∧ Below w.heap.size w w' := by
  have HQ := Lib.hid (usource_any hE)
  have HP := Lib.hid (fun W (hW : Below w.heap.size w W) => qbytes_any (h.later hW) hr hb)
  obtain ⟨mode, bits, win, reo, prx, pro, ppd, pby, mrx, qb⟩ := c
  unfold MCells at HQ
  simp only at HQ
  have hfd := field_queue mode bits win reo prx pro ppd pby mrx qb (some ⟨q, 0, none⟩)
  clear hE h
  go_enter Try.func68, Try.ntmps68
  go_wp2_with (first
    | (go_at_call 141; (with_reducible refine HQ.out.mono ?_); rintro e w1 ⟨rfl, hb1⟩; (have HB1 := Lib.hid hb1; clear hb1))
    | (go_at_call 26; (with_reducible refine (HP.out w1 HB1.out).mono ?_); rintro e w2 ⟨rfl, hbl⟩; (have H1 := Lib.hid hbl; clear hbl)))
  go_ret
  exact ⟨rfl, bl_step HB1.out H1.out⟩
theorem unext_any {v : Option Addr} (hE : Row w x 116 (SCells c (.pointer v) nx)) :
    Calls Try.prog 69 #[.pointer (some ⟨x, 0, none⟩)] w fun e w' => e = .returned (.int .i64 nx) ∧ w = w' := by
  have c1 := hE.read (i := 11) (x := .int .i64 nx) rfl
  clear hE
  go_enter Try.func69, Try.ntmps69
  go_wp2
  go_ret
  exact ⟨rfl, rfl⟩
end
end Go.Proofs.Ytbcjfdhphpckfaa
namespace Go.Proofs.Ytbcjfdhphpckfaa
open Go.RowKit

section
variable {B p q x last : Nat} {room nx : Int} {c : Cf} {ts : List Txt} {w : World}
theorem qclear_end (h : QRep B w p room last ts) : QRep B (w.setCell ⟨p, 2, none⟩ (.slice none 0 0)) p room last [] ∧ QOnly B w (w.setCell ⟨p, 2, none⟩ (.slice none 0 0)) := by
  obtain ⟨hp, hB, sv, hrow, hown, hl⟩ := h
  have hq : QOnly B w (w.setCell ⟨p, 2, none⟩ (.slice none 0 0)) := (Only.refl _ _).set (p := ⟨p, 2, none⟩) (.inl (QT.self hp hrow)) _
  refine ⟨⟨hp, by have := hq.size; omega, _, hrow.written 2 _, ?_, fun t ht => by cases ht⟩, hq⟩
  exact OwnX.nil
set_option maxRecDepth 100000 in
set_option maxHeartbeats 1600000 in
theorem qclear_any (h : QRep B w p room last ts) (hr : 0 < room) (hn : ts.length ≤ 900) :
    Calls Try.prog 22 #[.pointer (some ⟨p, 0, none⟩)] w fun e w' => ∃ g, e = .returned (.slice (some ⟨g, 0, none⟩) ts.length ts.length) ∧ w.heap.size ≤ g ∧ Row w' g 37 (idv ts).toArray ∧ QRep B w' p room last [] ∧ QOnly B w w' := by
  have HI := Lib.hid (ids_any h hr (by omega))
  have HQ := Lib.hid h
  obtain ⟨hp, hB, sv, hrow, hown, hl⟩ := h
  have HR := Lib.hid hrow
  have f2 := hrow.free 2
  have c2 := hrow.read (i := 2) (x := sv) rfl
  clear hrow hown hl
  go_enter Try.func22, Try.ntmps22
  go_wp2_with (first
    | (go_at_call 109; (with_reducible refine (none_not HR.out hr).mono ?_); rintro e _ ⟨rfl, rfl⟩)
    | (go_at_call 28; (with_reducible refine HI.out.mono ?_); rintro e w1 ⟨g, rfl, hg, hrw, hb1⟩; (have HG := Lib.hid hg; have HRW := Lib.hid hrw; have HB1 := Lib.hid hb1; have HQ1 := Lib.hid (HQ.out.later hb1); have HR1 := Lib.hid (HR.out.later hb1); have f3 := HR1.out.free 2; have c3 := HR1.out.read (i := 2) (x := sv) rfl; clear hg hrw hb1 f2 c2)))
  have HE := Lib.hid (qclear_end HQ1.out)
  go_ret
  exact ⟨g, rfl, HG.out, HE.out.2.row HRW.out (by decide) (by decide), HE.out.1, (QOnly.of_below HB1.out).trans HE.out.2⟩
theorem row_type {W : World} {k : Nat} {t t' : TypeId} {cs cs' : Array Value} (h : Row W k t cs) (h' : Row W k t' cs') : t = t' := by
  unfold Row at h h'
  rw [h] at h'
  have e := Option.some.inj h'
  cases e
  rfl
theorem QRep.sender {W : World} {cs : Array Value} (h : QRep B W q room last ts) (hE : Row W x 116 cs) (i : Nat) (v : Value) : QRep B (W.setCell ⟨x, i, none⟩ v) q room last ts :=
  h.apart (S := fun k => k = x) ((Only.refl (fun k => k = x) W).set (p := ⟨x, i, none⟩) (.inl rfl) v) (fun k hk t cs' hr => by
    subst hk
    have e := row_type hE hr
    subst e
    decide)
set_option maxRecDepth 100000 in
set_option maxHeartbeats 1600000 in
theorem ureset_any (hE : Row w x 116 (SCells c (.pointer (some ⟨q, 0, none⟩)) nx)) (h : QRep B w q room last ts) (hr : 0 < room) (hn : ts.length ≤ 900) :
    Calls Try.prog 70 #[.pointer (some ⟨x, 0, none⟩)] w fun e w' => ∃ g, e = .returned (.slice (some ⟨g, 0, none⟩) ts.length ts.length) ∧ w.heap.size ≤ g ∧ Row w' g 37 (idv ts).toArray ∧ QRep B w' q room last [] ∧ Row w' x 116 (SCells c (.pointer (some ⟨q, 0, none⟩)) 0) ∧ QOnly B (w.setCell ⟨x, 11, none⟩ (.int .i64 0)) w' := by
  have HC := Lib.hid (qclear_any (h.sender hE 11 (.int .i64 0)) hr hn)
  have HR := Lib.hid (hE.written 11 (.int .i64 0))
  have f2 := hE.free 11
  have c2 := hE.read (i := 11) (x := .int .i64 nx) rfl
  have c3 := HR.out.read (i := 10) (x := .pointer (some ⟨q, 0, none⟩)) rfl
  clear hE h
  go_enter Try.func70, Try.ntmps70
  go_wp2_with (go_at_call 22; (with_reducible refine HC.out.mono ?_); rintro e w1 ⟨g, rfl, hg, hrw, hq, ho⟩; (have HG := Lib.hid hg; have HRW := Lib.hid hrw; have HQ1 := Lib.hid hq; have HO := Lib.hid ho; clear hg hrw hq ho))
  go_ret
  exact ⟨g, rfl, by have := HG.out; simpa using this, HRW.out, HQ1.out, HO.out.row HR.out (by decide) (by decide), HO.out⟩
end
end Go.Proofs.Ytbcjfdhphpckfaa
