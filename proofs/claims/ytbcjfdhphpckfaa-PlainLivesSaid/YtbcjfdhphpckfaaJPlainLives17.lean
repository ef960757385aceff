/-
  glue: a field comes. glue: a field comes, and what is whole is told. glue: what one field of a packet does. glue: all fields of a packet, one by one. glue: what may not be. glue: fields are put together. glue: what was told stays; literal fields. plain: an entity is made; a text is heard; what an entity answers to fixed calls. A list of the call's own of one-cell elements: one more (append); how it looks. The document's queue: in memory; its first text, its numbers, its bytes.
-/
import Derived.Test.YtbcjfdhphpckfaaJPlainLives16
import Derived.Test.YtbcjfdhphpckfaaJPlainLives02
import Derived.Lib.SlBytesConst
import Derived.Test.YtbcjfdhphpckfaaJPlainLives01
namespace Go.Proofs.Ytbcjfdhphpckfaa
open Go.RowKit

section
variable {B p : Nat} {w : World} {hv : Value} {s : GS}
end
theorem lose_held (s : GS) : s.lose.held = [] := by
  unfold GS.lose
  split
  · assumption
  · rfl
section
variable {B p : Nat} {w : World} {hv : Value} {s : GS} {F : Option Addr} {f : List Nat}
end
end Go.Proofs.Ytbcjfdhphpckfaa
namespace Go.Proofs.Ytbcjfdhphpckfaa
open Go.RowKit

theorem clipb_any {A : Option Addr} (n c : Nat) (w : World) (hc : n ≤ c) : Calls Try.prog 259 #[.slice A n c] w fun e w' => e = .returned (.slice A n n) ∧ w = w' := by
  cases A with
  | none =>
    go_enter Try.func259, Try.ntmps259
    go_wp2
    go_ret
    exact ⟨rfl, rfl⟩
  | some a =>
    go_enter Try.func259, Try.ntmps259
    go_wp2
    go_ret
    exact ⟨rfl, rfl⟩
theorem own_rows_apart {w : World} {B B' e e' z z' n n' : Nat} {v v' : Value} {xs xs' : List Value} (h : w.ownsRow B e z v n xs) (h' : w.ownsRow B' e' z' v' n' xs') (hne : e ≠ e') : ∀ k, v.ownBlock = some k → v'.ownBlock ≠ some k := by
  intro k hk
  rcases h.2 with ⟨rfl, _⟩ | ⟨g, cap, cur, rfl, _, hh, _⟩
  · simp [Value.ownBlock] at hk
  · have e1 : g = k := by simpa [Value.ownBlock] using hk
    subst e1
    exact own_apart h' (show Row w g e cur from hh) (fun e => hne e.symm)
/-- a text that was told: its bytes lie in a block that is not the held one -/
def TOk (B : Nat) (w : World) (hv : Value) (r : RowB) : Prop := ∃ (g : Nat) (cs : Array Value), r.A = some ⟨g, 0, none⟩ ∧ B ≤ g ∧ hv.ownBlock ≠ some g ∧ r.bs.length ≤ r.cap ∧ r.cap ≤ 9223372036854775807 ∧ Row w g 5 cs ∧ ∀ (j b : Nat), r.bs[j]? = some b → cs[j]? = some (Value.int .u8 (b : Nat))
theorem add_pl (b o j : Nat) : (⟨b, o, none⟩ : Addr).add j = ⟨b, o + j, none⟩ := by
  unfold Addr.add
  split
  · rename_i h
    subst h
    rfl
  · rfl
theorem TOk.src {B : Nat} {w : World} {hv : Value} {r : RowB} (h : TOk B w hv r) : Src w r.A (bts r.bs) := by
  obtain ⟨g, cs, h1, _, _, _, _, h4, h5⟩ := h
  intro _
  refine ⟨⟨g, 0, none⟩, h1, fun j u hu => ?_⟩
  have hj : j < r.bs.length := by have := (List.getElem?_eq_some_iff.1 hu).1; rw [length_bts] at this; exact this
  have hb := bts_at (List.getElem?_eq_getElem hj)
  rw [hu] at hb
  injection hb with hb
  rw [hb, add_pl, Nat.zero_add]
  exact h4.read (h5 j _ (List.getElem?_eq_getElem hj))
theorem TOk.step {B : Nat} {w v : World} {hv hv' : Value} {r : RowB} {S : Nat → Prop} (h : TOk B w hv r) (ho : Only S w v) (hS : ∀ g cs, Row w g 5 cs → hv.ownBlock ≠ some g → ¬ S g) (hg : GNext w hv hv') : TOk B v hv' r := by
  obtain ⟨g, cs, h1, h2, h3, h4, h5, h6, h7⟩ := h
  refine ⟨g, cs, h1, h2, fun e => ?_, h4, h5, h6.only ho (hS g cs h6 h3), h7⟩
  have := h6.inside
  rcases hg g e with h9 | h9
  · exact h3 h9
  · omega
def GS2 (p tb : Nat) (hv tv : Value) (k : Nat) : Prop := (k = p ∨ hv.ownBlock = some k) ∨ k = tb ∨ tv.ownBlock = some k
end Go.Proofs.Ytbcjfdhphpckfaa
namespace Go.Proofs.Ytbcjfdhphpckfaa
open Go.RowKit

theorem Only.draw {w : World} {S : Nat → Prop} : Only S w w.drew := Only.drew (Only.refl _ _)
theorem told_no {s : GS} (h : s.held = []) (e : Bool) : s.told e = (s, []) := by
  unfold GS.told
  rw [if_pos h]
  cases e <;> rfl
theorem told_yes {s : GS} (h : s.held ≠ []) : s.told true = (⟨[], s.lost⟩, [s.held]) := by
  unfold GS.told
  rw [if_neg h]
  rfl
end Go.Proofs.Ytbcjfdhphpckfaa
namespace Go.Proofs.Ytbcjfdhphpckfaa
open Go.RowKit

end Go.Proofs.Ytbcjfdhphpckfaa
namespace Go.Proofs.Ytbcjfdhphpckfaa
open Go.RowKit

/-- what is handed in may be -/
def okG (fi : Int) (ls : List Nat) : Bool := decide (0 ≤ fi) && decide (fi ≤ 3) && decide (0 < ls.length) && decide (ls.length ≤ 24) && !decide (0 ∈ ls)
end Go.Proofs.Ytbcjfdhphpckfaa
namespace Go.Proofs.Ytbcjfdhphpckfaa
open Go.RowKit

theorem told_lost (s : GS) (e : Bool) : (s.told e).1.lost = s.lost := by
  unfold GS.told
  split
  · split <;> rfl
  · rfl
theorem told_short (s : GS) (e : Bool) (h : s.held.length ≤ 1000) : (s.told e).1.held.length ≤ 1000 := by
  unfold GS.told
  split
  · split <;> simp_all
  · exact h
theorem told_one (s : GS) (e : Bool) : (s.told e).2.length ≤ 1 := by
  unfold GS.told
  split
  · split <;> simp
  · simp
theorem clipr_any {A : Option Addr} (n c : Nat) (w : World) (hc : n ≤ c) : Calls Try.prog 116 #[.slice A n c] w fun e w' => e = .returned (.slice A n n) ∧ w = w' := by
  cases A with
  | none =>
    go_enter Try.func116, Try.ntmps116
    go_wp2
    go_ret
    exact ⟨rfl, rfl⟩
  | some a =>
    go_enter Try.func116, Try.ntmps116
    go_wp2
    go_ret
    exact ⟨rfl, rfl⟩
/-- the state, and what was told, behind field k -/
def goTo (fi n : Nat) (fs : List (List Nat)) (s : GS) : Nat → GS × List (List Nat)
  | 0 => (s, [])
  | k + 1 =>
    let z := goTo fi n fs s k
    let y := (z.1.come (fs.getD k []) (beg fi k) (fin fi n k)).told (fin fi n k)
    (y.1, z.2 ++ y.2)
theorem goTo_split (fi n : Nat) (fs : List (List Nat)) (s : GS) : ∀ k j, k + j = fs.length → ((goG fi n k (fs.drop k) (goTo fi n fs s k).1).1, (goTo fi n fs s k).2 ++ (goG fi n k (fs.drop k) (goTo fi n fs s k).1).2) = goTo fi n fs s fs.length := by
  intro k j
  induction j generalizing k with
  | zero =>
    intro h
    have e : fs.length = k := by omega
    rw [List.drop_of_length_le (by omega), e]
    simp [goG]
  | succ j ih =>
    intro h
    have hk : k < fs.length := by omega
    have e : fs.drop k = fs.getD k [] :: fs.drop (k + 1) := by
      rw [List.drop_eq_getElem_cons hk, List.getD_eq_getElem?_getD, List.getElem?_eq_getElem hk]
      rfl
    rw [← ih (k + 1) (by omega), e]
    simp only [goG, goTo, List.append_assoc]
theorem goTo_all (fi n : Nat) (fs : List (List Nat)) (s : GS) : goTo fi n fs s fs.length = goG fi n 0 fs s := by
  have h := goTo_split fi n fs s 0 fs.length (by omega)
  rw [← h]
  simp [goTo]
theorem goTo_facts (fi n : Nat) (fs : List (List Nat)) (s : GS) (hs : s.held.length ≤ 1000) (k : Nat) : (goTo fi n fs s k).1.held.length ≤ 1000 ∧ (goTo fi n fs s k).1.lost ≤ s.lost + 2 * k ∧ (goTo fi n fs s k).2.length ≤ k := by
  induction k with
  | zero => exact ⟨hs, by simp [goTo], by simp [goTo]⟩
  | succ k ih =>
    obtain ⟨h1, h2, h3⟩ := ih
    simp only [goTo]
    refine ⟨told_short _ _ (GS.come_short _ _ _ _ h1), ?_, ?_⟩
    · rw [told_lost]
      have := (goTo fi n fs s k).1.come_lost (fs.getD k []) (beg fi k) (fin fi n k)
      omega
    · rw [List.length_append]
      have := told_one ((goTo fi n fs s k).1.come (fs.getD k []) (beg fi k) (fin fi n k)) (fin fi n k)
      omega
theorem come_bytes {s : GS} {f : List Nat} {b e : Bool} (h : ∀ x ∈ s.held, x < 256) (hf : ∀ x ∈ f, x < 256) : ∀ x ∈ (s.come f b e).held, x < 256 := by
  unfold GS.come
  repeat' split
  all_goals simp_all
  all_goals (intro x hx; exact hx.elim (h x) (hf x))
theorem told_bytes {s : GS} {e : Bool} (h : ∀ x ∈ s.held, x < 256) : (∀ x ∈ (s.told e).1.held, x < 256) ∧ ∀ t ∈ (s.told e).2, ∀ x ∈ t, x < 256 := by
  unfold GS.told
  split
  · split
    · exact ⟨h, by simp⟩
    · exact ⟨by simp, by simpa using h⟩
  · exact ⟨h, by simp⟩
theorem goTo_bytes (fi n : Nat) (fs : List (List Nat)) (s : GS) (hs : ∀ x ∈ s.held, x < 256) (hf : ∀ f ∈ fs, ∀ x ∈ f, x < 256) (k : Nat) : (∀ x ∈ (goTo fi n fs s k).1.held, x < 256) ∧ ∀ t ∈ (goTo fi n fs s k).2, ∀ x ∈ t, x < 256 := by
  induction k with
  | zero => exact ⟨hs, by simp [goTo]⟩
  | succ k ih =>
    simp only [goTo]
    have hk : ∀ x ∈ fs.getD k [], x < 256 := by
      rw [List.getD_eq_getElem?_getD]
      rcases Nat.lt_or_ge k fs.length with h | h
      · rw [List.getElem?_eq_getElem h]
        exact hf _ (List.getElem_mem h)
      · rw [List.getElem?_eq_none h]
        simp
    have h1 := told_bytes (e := fin fi n k) (come_bytes (b := beg fi k) (e := fin fi n k) ih.1 hk)
    refine ⟨h1.1, fun t ht => ?_⟩
    rw [List.mem_append] at ht
    rcases ht with ht | ht
    · exact ih.2 t ht
    · exact h1.2 t ht
theorem texts_getD {L : List RowB} {k : Nat} {r : RowB} (h : L[k]? = some r) : (texts L).getD k [] = r.bs := by
  rw [List.getD_eq_getElem?_getD, texts_at h]
  rfl
end Go.Proofs.Ytbcjfdhphpckfaa
namespace Go.Proofs.Ytbcjfdhphpckfaa
open Go.RowKit

/-- what was told lies in memory that the glue has left -/
def ToldIs (B : Nat) (w : World) (hv : Value) (A : Option Addr) (L : List RowB) : Prop :=
  (∃ C c, w.ownsRow C 34 1 (.slice A L.length c) L.length (L.map RowB.v)) ∧ ∀ r ∈ L, TOk B w hv r
theorem ToldIs.later {B : Nat} {w v : World} {hv : Value} {A : Option Addr} {L : List RowB} (h : ToldIs B w hv A L) (hb : Below w.heap.size w v) : ToldIs B v hv A L := by
  obtain ⟨⟨C, c, a4⟩, a5⟩ := h
  exact ⟨⟨C, c, own_later2 a4 hb⟩, fun r hr => (a5 r hr).step (S := fun _ => False) (.of_below hb) (fun _ _ _ _ h => h) (GNext.refl _ _)⟩
theorem ToldIs.src {B : Nat} {w : World} {hv : Value} {A : Option Addr} {L : List RowB} (h : ToldIs B w hv A L) (hb : ∀ t ∈ texts L, ∀ x ∈ t, x < 256) : RSrc w A L := by
  obtain ⟨⟨C, c, h4⟩, h5⟩ := h
  have hok : ∀ r ∈ L, r.ok w := fun r hr => by
    have h9 := h5 r hr
    obtain ⟨g, cs, _, _, _, k1, k2, _⟩ := id h9
    exact ⟨h9.src, k1, k2, hb r.bs (List.mem_map.2 ⟨r, hr, rfl⟩)⟩
  rcases h4.2 with ⟨e, h0⟩ | ⟨g, cap, cur, e, _, _, h1, _, _⟩
  · intro h9
    omega
  · injection e with e1 e2 e3
    subst e1
    exact fun _ => ⟨_, rfl, fun k r hr => ⟨h4.cells (g := g) rfl k _ (by rw [List.getElem?_map, hr]; rfl), hok r (List.mem_of_getElem? hr)⟩⟩
theorem texts_one {L : List RowB} {t : List Nat} (h : texts L = [t]) : ∃ r, L = [r] ∧ r.bs = t := by
  match L, h with
  | [r], h =>
    refine ⟨r, rfl, ?_⟩
    simpa [texts] using h
theorem texts_nil {L : List RowB} (h : texts L = []) : L = [] := by
  simpa [texts] using h
/-- a row, marked or not -/
def RowF (w : World) (g : Nat) (t : TypeId) (cs : Array Value) : Prop := ∃ fr, w.heap[g]? = some (.cells cs t fr)
theorem RowF.of {w : World} {g : Nat} {t : TypeId} {cs : Array Value} (h : Row w g t cs) : RowF w g t cs := ⟨_, h⟩
theorem RowF.inside {w : World} {g : Nat} {t : TypeId} {cs : Array Value} (h : RowF w g t cs) : g < w.heap.size := by
  obtain ⟨fr, h⟩ := h
  rcases Nat.lt_or_ge g w.heap.size with h1 | h1
  · exact h1
  · exfalso
    rw [Array.getElem?_eq_none h1] at h
    cases h
theorem RowF.made (w : World) (t : TypeId) (cs : Array Value) (fr : Nat × Nat) : RowF (w.alloc (.cells cs t fr)) w.heap.size t cs := ⟨fr, heap_alloc_new w _⟩
theorem RowF.made1 (w : World) (o : Obj) (t : TypeId) (cs : Array Value) (fr : Nat × Nat) : RowF ((w.alloc o).alloc (.cells cs t fr)) (w.heap.size + 1) t cs := by
  have h := RowF.made (w.alloc o) t cs fr
  have e : (w.alloc o).heap.size = w.heap.size + 1 := by simp
  rw [e] at h
  exact h
theorem RowF.only {S : Nat → Prop} {w v : World} {g : Nat} {t : TypeId} {cs : Array Value} (h : RowF w g t cs) (ho : Only S w v) (hg : ¬ S g) : RowF v g t cs := by
  have hi := h.inside
  obtain ⟨fr, h⟩ := h
  exact ⟨fr, (ho.same g hi hg).trans h⟩
theorem RowF.later {w v : World} {g : Nat} {t : TypeId} {cs : Array Value} (h : RowF w g t cs) (hb : Below w.heap.size w v) : RowF v g t cs := h.only (S := fun _ => False) (.of_below hb) (fun h => h)
theorem RowF.more {w : World} {g : Nat} {t : TypeId} {cs : Array Value} (h : RowF w g t cs) (o : Obj) : RowF (w.alloc o) g t cs := h.later (bl_alloc (Below.refl _ _) o)
theorem RowF.src {w : World} {g : Nat} {l : List Nat} (h : RowF w g 5 (bts l).toArray) : Src w (some ⟨g, 0, none⟩) (bts l) := fun _ => ⟨_, rfl, fun j u hu => by
  obtain ⟨fr, h⟩ := h
  rw [add_zero_addr]
  exact (cell_of_row w g j _ 5 fr h).trans (by rw [List.getElem?_toArray]; exact hu)⟩
theorem g_ok {w : World} {g : Nat} {l : List Nat} (h : RowF w g 5 (bts l).toArray) (hb : ∀ b ∈ l, b < 256) (hl : l.length ≤ 9223372036854775807) : RowB.ok w ⟨some ⟨g, 0, none⟩, l.length, l⟩ := ⟨h.src, Nat.le_refl _, hl, hb⟩
theorem g_rsrc {w : World} {g : Nat} {L : List RowB} (h : Row w g 34 (L.map RowB.v).toArray) (hok : ∀ r ∈ L, r.ok w) : RSrc w (some ⟨g, 0, none⟩) L := fun _ => ⟨_, rfl, fun k r hr => ⟨by
  rw [add_zero_addr]
  exact h.read (by rw [List.getElem?_toArray, List.getElem?_map, hr]; rfl), hok r (List.mem_of_getElem? hr)⟩⟩
end Go.Proofs.Ytbcjfdhphpckfaa
namespace Go.Proofs.Ytbcjfdhphpckfaa
open Go.RowKit

def UZ (v : Value) : Array Value := #[.int .i64 0, v, .int .i64 0, .int .i64 0, .slice none 0 0, .bool false, .int .i64 0, .int .i64 0, .bool false, .bool false, .int .i64 0, .slice none 0 0, .int .i64 0, .slice none 0 0]
set_option maxRecDepth 100000 in
set_option maxHeartbeats 1600000 in
theorem enew_ok (bits win reo prx pro ppd pby mrx qb : Int) (w : World) (hck : checkF ⟨0, bits, win, reo, prx, pro, ppd, pby, mrx, qb⟩ = 0) (h1 : 1 ≤ qb) (h2 : qb ≤ 20000) :
    Calls Try.prog 53 #[.agg (Cf.a ⟨0, bits, win, reo, prx, pro, ppd, pby, mrx, qb⟩)] w fun e w' => ∃ x q : Nat, e = .returned (.tuple #[.pointer (some ⟨x, 0, none⟩), .int .i64 0]) ∧ Row w' x 101 (ECells ⟨0, bits, win, reo, prx, pro, ppd, pby, mrx, qb⟩ (.pointer (some ⟨q, 0, none⟩))) ∧ QRep w.heap.size w' q qb 0 [] ∧ Below w.heap.size w w' ∧ w.heap.size ≤ x := by
  have HCK := Lib.hid (fun W => pcheck_any ⟨0, bits, win, reo, prx, pro, ppd, pby, mrx, qb⟩ W)
  rw [hck] at HCK
  unfold Cf.a at *
  have ROW := Lib.hid (Row.made w 94 #[.int .i64 0, .int .i64 bits, .int .i64 win, .int .i64 reo, .int .i64 prx, .int .i64 pro, .int .i64 ppd, .int .i64 pby, .int .i64 mrx, .int .i64 qb])
  have HB0 := Lib.hid (bl_alloc (Below.refl w.heap.size w) (.cells #[.int .i64 0, .int .i64 bits, .int .i64 win, .int .i64 reo, .int .i64 prx, .int .i64 pro, .int .i64 ppd, .int .i64 pby, .int .i64 mrx, .int .i64 qb] 94))
  obtain ⟨c0, c1, c2, c3, c4, c5, c6, c7, c8, c9⟩ := cells10 ROW.out
  clear hck
  go_enter Try.func53, Try.ntmps53
  go_wp2_with (first
    | (go_at_call 135; (with_reducible refine (HCK.out _).mono ?_); rintro e w1 ⟨rfl, hb1⟩; (have HB1 := Lib.hid (bl_step HB0.out hb1); have ROW1 := Lib.hid (ROW.out.later hb1); clear hb1 c0 c1 c2 c3 c4 c5 c6 c7 c8 c9; obtain ⟨c0, c1, c2, c3, c4, c5, c6, c7, c8, c9⟩ := cells10 ROW1.out))
    | (go_at_call 13; (with_reducible refine (qnew_any w.heap.size qb w1 HB1.out.size h1 h2).mono ?_); rintro e w2 ⟨rfl, hq, hb2⟩; (have HQ := Lib.hid hq; have HB2 := Lib.hid (bl_step HB1.out hb2); have ROW2 := Lib.hid (ROW1.out.later hb2); clear hq hb2 c0 c1 c2 c3 c4 c5 c6 c7 c8 c9; obtain ⟨c0, c1, c2, c3, c4, c5, c6, c7, c8, c9⟩ := cells10 ROW2.out)))
  go_ret2
  exact ⟨_, w1.heap.size, rfl, Row.made w2 101 _, HQ.out.later (bl_alloc (Below.refl _ _) _), bl_alloc HB2.out _, HB2.out.size⟩
set_option maxRecDepth 100000 in
set_option maxHeartbeats 1600000 in
theorem enew_kind (mode bits win reo prx pro ppd pby mrx qb : Int) (w : World) (hck : checkF ⟨mode, bits, win, reo, prx, pro, ppd, pby, mrx, qb⟩ = 0) (hm : mode ≠ 0) :
    Calls Try.prog 53 #[.agg (Cf.a ⟨mode, bits, win, reo, prx, pro, ppd, pby, mrx, qb⟩)] w fun e w' => e = .returned (.tuple #[.pointer none, .int .i64 9]) ∧ Below w.heap.size w w' := by
  have HCK := Lib.hid (fun W => pcheck_any ⟨mode, bits, win, reo, prx, pro, ppd, pby, mrx, qb⟩ W)
  rw [hck] at HCK
  unfold Cf.a at *
  have ROW := Lib.hid (Row.made w 94 #[.int .i64 mode, .int .i64 bits, .int .i64 win, .int .i64 reo, .int .i64 prx, .int .i64 pro, .int .i64 ppd, .int .i64 pby, .int .i64 mrx, .int .i64 qb])
  have HB0 := Lib.hid (bl_alloc (Below.refl w.heap.size w) (.cells #[.int .i64 mode, .int .i64 bits, .int .i64 win, .int .i64 reo, .int .i64 prx, .int .i64 pro, .int .i64 ppd, .int .i64 pby, .int .i64 mrx, .int .i64 qb] 94))
  obtain ⟨c0, c1, c2, c3, c4, c5, c6, c7, c8, c9⟩ := cells10 ROW.out
  have hne : (mode != 0) = true := by simpa using hm
  clear hck hm
  go_enter Try.func53, Try.ntmps53
  go_wp2_with (first
    | (go_at_call 135; (with_reducible refine (HCK.out _).mono ?_); rintro e w1 ⟨rfl, hb1⟩; (have HB1 := Lib.hid (bl_step HB0.out hb1); have ROW1 := Lib.hid (ROW.out.later hb1); clear hb1 c0 c1 c2 c3 c4 c5 c6 c7 c8 c9; obtain ⟨c0, c1, c2, c3, c4, c5, c6, c7, c8, c9⟩ := cells10 ROW1.out)))
  go_ret2
  exact ⟨rfl, HB1.out⟩
set_option maxRecDepth 100000 in
set_option maxHeartbeats 1600000 in
theorem enew_bad (mode bits win reo prx pro ppd pby mrx qb : Int) (w : World) (hck : checkF ⟨mode, bits, win, reo, prx, pro, ppd, pby, mrx, qb⟩ ≠ 0) :
    Calls Try.prog 53 #[.agg (Cf.a ⟨mode, bits, win, reo, prx, pro, ppd, pby, mrx, qb⟩)] w fun e w' => e = .returned (.tuple #[.pointer none, .int .i64 (checkF ⟨mode, bits, win, reo, prx, pro, ppd, pby, mrx, qb⟩)]) ∧ Below w.heap.size w w' := by
  have HCK := Lib.hid (fun W => pcheck_any ⟨mode, bits, win, reo, prx, pro, ppd, pby, mrx, qb⟩ W)
  generalize checkF ⟨mode, bits, win, reo, prx, pro, ppd, pby, mrx, qb⟩ = er at *
  have hne : (er != 0) = true := by simpa using hck
  unfold Cf.a at *
  have ROW := Lib.hid (Row.made w 94 #[.int .i64 mode, .int .i64 bits, .int .i64 win, .int .i64 reo, .int .i64 prx, .int .i64 pro, .int .i64 ppd, .int .i64 pby, .int .i64 mrx, .int .i64 qb])
  have HB0 := Lib.hid (bl_alloc (Below.refl w.heap.size w) (.cells #[.int .i64 mode, .int .i64 bits, .int .i64 win, .int .i64 reo, .int .i64 prx, .int .i64 pro, .int .i64 ppd, .int .i64 pby, .int .i64 mrx, .int .i64 qb] 94))
  obtain ⟨c0, c1, c2, c3, c4, c5, c6, c7, c8, c9⟩ := cells10 ROW.out
  clear hck
  go_enter Try.func53, Try.ntmps53
  go_wp2_with (first
    | (go_at_call 135; (with_reducible refine (HCK.out _).mono ?_); rintro e w1 ⟨rfl, hb1⟩; (have HB1 := Lib.hid (bl_step HB0.out hb1); clear hb1)))
  go_ret2
  exact ⟨rfl, HB1.out⟩
set_option maxRecDepth 100000 in
set_option maxHeartbeats 3200000 in
theorem ehear_ok {x q : Nat} {A : Option Addr} {bs : List Nat} (bits win reo prx pro ppd pby mrx qb : Int) (n cap : Nat) (w : World) (hE : Row w x 101 (ECells ⟨0, bits, win, reo, prx, pro, ppd, pby, mrx, qb⟩ (.pointer (some ⟨q, 0, none⟩)))) (hck : checkF ⟨0, bits, win, reo, prx, pro, ppd, pby, mrx, qb⟩ = 0)
    (hn : bs.length = n) (h0 : 0 < n) (hm : n ≤ 1000) (hs : Src w A (bts bs)) (hb : ∀ b ∈ bs, b < 256) :
    Calls Try.prog 57 #[.pointer (some ⟨x, 0, none⟩), .slice A n cap] w fun e w' => ∃ g, e = .returned (.tuple #[.slice (some ⟨g, 0, none⟩) n n, .int .i64 0]) ∧ QBytes w' g bs ∧ Below w.heap.size w w' := by
  have HQ := Lib.hid (equeue_any hE)
  have HR := Lib.hid (pread_tm_ok (A := A) (bs := bs) bits win reo prx pro ppd pby mrx qb n cap w hck (fun V hV => by
    have h := pkind_any (A := A) (bs := bs) 0 n cap V hn (src_later hs hV) hb
    exact h) (fun V hV => ptext_ok n cap V hn h0 hm (src_later hs hV)))
  unfold ECells at hE
  have c0 := hE.read (i := 0) (x := .int .i64 0) rfl
  have c1 := hE.read (i := 1) (x := .int .i64 bits) rfl
  have c2 := hE.read (i := 2) (x := .int .i64 win) rfl
  have c3 := hE.read (i := 3) (x := .int .i64 reo) rfl
  have c4 := hE.read (i := 4) (x := .int .i64 prx) rfl
  have c5 := hE.read (i := 5) (x := .int .i64 pro) rfl
  have c6 := hE.read (i := 6) (x := .int .i64 ppd) rfl
  have c7 := hE.read (i := 7) (x := .int .i64 pby) rfl
  have c8 := hE.read (i := 8) (x := .int .i64 mrx) rfl
  have c9 := hE.read (i := 9) (x := .int .i64 qb) rfl
  clear hE hs hb hck
  go_enter Try.func57, Try.ntmps57
  go_wp2_with (first
    | (go_at_call 138; (with_reducible refine HQ.out.mono ?_); rintro e w1 ⟨rfl, rfl⟩)
    | (go_at_call 139; (with_reducible refine HR.out.mono ?_); rintro e w1 ⟨g, cs, rfl, hrw, hpre, hbl⟩; (have HRW := Lib.hid hrw; have HPR := Lib.hid hpre; have HBL := Lib.hid hbl; clear hrw hpre hbl)))
  go_ret2
  exact ⟨g, rfl, ⟨cs, HRW.out.more _, HPR.out⟩, bl_alloc HBL.out _⟩
end Go.Proofs.Ytbcjfdhphpckfaa
namespace Go.Proofs.Ytbcjfdhphpckfaa
open Go.RowKit

theorem wpList_is {P : Program} {ops : Array Oper} {rest : List Oper} {o : Oper} {a : Act} {w : World} {Q : Exit → Act → World → Prop} (hgd : o.guard = none) (s x : Operand) (t : TypeId)
    (ho : o.op = .call { callee := .builtin .append, args := #[s, x], argTypes := #[t, t] }) (v u : Value) (hs : a.eval s = v) (hx : a.eval x = u) {v' : Value} {w' : World}
    (hr : (Builtin.append_ #[t, t] o.type #[v, u]).run P w = .ok v' w') (h : wpList P ops Q rest (a.put o.dst v') w') : wpList P ops Q (o :: rest) a w :=
  wpList_plain hgd fun _ hK => by
    unfold Oper.wp execOp
    simp only [ho, resolve, invoke, builtin, Sem.run_bind, Sem.run_pure, Result.andThen_ok, List.map_toArray, List.map_cons, List.map_nil, hs, hx, hr]
    exact hK _ _ h
theorem add_zero_o (g j : Nat) : (⟨g, 0, none⟩ : Addr).add j = ⟨g, j, none⟩ := by
  unfold Addr.add
  split
  · rename_i h; rw [h]
  · simp
section
variable {m n : Nat} {w v : World} {x u z : Value} {xs : List Value} {T E by' : Nat}
theorem own_next (hT : Try.prog.underlying T = some (.slice E)) (hI : (Try.prog.info? E).map (fun i => (i.zero, i.size, i.bytes)) = some (some z, 1, by')) (hz : z.cells.size = 1) (hby : by' ≤ 24) (hu : u.oneCell' = true) (h : w.ownsRow m E 1 x n xs) (hm : m ≤ w.heap.size) (hn : n ≤ 100000) :
    ∃ A' c' w2, (Builtin.append_ #[T, T] T #[x, .slice (some ⟨w.heap.size, 0, none⟩) 1 1]).run Try.prog (w.alloc (.cells #[u] E)) = .ok (.slice A' (n + 1) c') w2 ∧
      w2.ownsRow m E 1 (.slice A' (n + 1) c') (n + 1) (xs ++ [u]) ∧ Only (fun k => x.ownBlock = some k) w w2 := by
  obtain ⟨i0, hi, hi0, hi1, hi2⟩ := info_parts hI
  have hbA := bl_alloc (Below.refl w.heap.size w) (.cells #[u] E)
  have a4' := own_only h (S := fun _ => False) (.of_below hbA) (fun _ _ hk => hk)
  obtain ⟨v', w2, hrun, hown, hgr, _, hat⟩ := run_append_own_at (P := Try.prog) (w := w.alloc (.cells #[u] E)) m T T E i0 z 1 by' hT hi hi0 hi1 hi2 hz (by omega) x n xs a4' ⟨w.heap.size, 0, none⟩ 1 1 [u] rfl
    (fun j u' hu' => by
      match j, hu' with
      | 0, hu' =>
        simp only [List.getElem?_cons_zero, Option.some.injEq] at hu'
        subst hu'
        rw [add_zero_o]
        exact (Row.made w E #[u]).read rfl
      | j + 1, hu' => simp at hu') (by intro y hy; simp at hy; subst hy; exact hu) (by unfold maxLen; omega) (by have := Nat.mul_le_mul (show n + 1 ≤ 100001 by omega) hby; omega) (by have := hbA.size; omega)
  have hon : Only (fun k => x.ownBlock = some k) w w2 := (Only.of_below hbA).andThen ((Only.refl _ _).grown hgr (fun k hk => .inl hk) : Only (fun k => x.ownBlock = some k) _ _) (fun k _ hk => hk)
  obtain ⟨A', c', rfl⟩ : ∃ A' c', v' = .slice A' (n + 1) c' := by
    rcases hown.2 with ⟨_, e⟩ | ⟨g, cap, cur, e, _⟩
    · omega
    · exact ⟨some ⟨g, 0, none⟩, cap, e⟩
  exact ⟨A', c', w2, hrun, hown, hon⟩
theorem own_shape (h : w.ownsRow m E 1 x n xs) : ∃ A c, x = .slice A n c ∧ n ≤ c ∧ c ≤ 9223372036854775807 := by
  rcases h.2 with ⟨rfl, rfl⟩ | ⟨g, cap, cur, rfl, _, _, h1, h2, _⟩
  · exact ⟨none, 0, rfl, Nat.le_refl _, by decide⟩
  · exact ⟨_, cap, rfl, h1, by unfold maxLen at h2; omega⟩
theorem own_after (h : w.ownsRow m E 1 x n xs) (hb : Below w.heap.size w v) : v.ownsRow m E 1 x n xs := own_only h (S := fun _ => False) (.of_below hb) (fun _ _ hk => hk)
/-- what lies behind a slice: in one block, that is not older than block m -/
def SlAt (m E : Nat) (w : World) (A : Option Addr) (xs : List Value) : Prop :=
  xs ≠ [] → ∃ (g : Nat) (cs : Array Value), A = some ⟨g, 0, none⟩ ∧ m ≤ g ∧ Row w g E cs ∧ ∀ (i : Nat) (u : Value), xs[i]? = some u → cs[i]? = some u
theorem own_at {A : Option Addr} {c : Nat} (h : w.ownsRow m E 1 (.slice A n c) n xs) : SlAt m E w A xs := by
  intro hne
  rcases h.2 with ⟨h1, h2⟩ | ⟨g, cap, cur, h1, h2, h3, h4, h5, h6, h7⟩
  · exfalso
    have := h.1
    rw [h2] at this
    exact hne (List.eq_nil_of_length_eq_zero (by omega))
  · injection h1 with hA _ _
    refine ⟨g, cur, hA, h2, h3, fun i u hu => ?_⟩
    have hi := (List.getElem?_eq_some_iff.1 hu).1
    have hl := h.1
    rw [← h7, List.getElem?_take] at hu
    split at hu
    · simpa using hu
    · cases hu
theorem SlAt.only {S : Nat → Prop} {A : Option Addr} (h : SlAt m E w A xs) (ho : Only S w v) (hS : ∀ g cs, Row w g E cs → m ≤ g → ¬ S g) : SlAt m E v A xs := by
  intro hne
  obtain ⟨g, cs, h1, h2, h3, h4⟩ := h hne
  exact ⟨g, cs, h1, h2, h3.only ho (hS g cs h3 h2), h4⟩
theorem SlAt.later {A : Option Addr} (h : SlAt m E w A xs) (hb : Below w.heap.size w v) : SlAt m E v A xs := h.only (S := fun _ => False) (.of_below hb) (fun _ _ _ _ hk => hk)
theorem SlAt.cell {A : Option Addr} (h : SlAt m E w A xs) {i : Nat} {u : Value} (hu : xs[i]? = some u) : ∃ g, A = some ⟨g, 0, none⟩ ∧ w.cell? ⟨g, i, none⟩ = some u := by
  obtain ⟨g, cs, h1, h2, h3, h4⟩ := h (by rintro rfl; simp at hu)
  exact ⟨g, h1, h3.read (h4 i u hu)⟩
end
end Go.Proofs.Ytbcjfdhphpckfaa
namespace Go.Proofs.Ytbcjfdhphpckfaa
open Go.RowKit

structure Ent where
  g : Nat
  c : Nat
  bs : List Nat
  tk : Nat
  gone : Bool
def eL (E : List Ent) : List Value := E.map fun e => .slice (some ⟨e.g, 0, none⟩) e.bs.length e.c
def eT (E : List Ent) : List Value := E.map fun e => .int .i64 (e.tk : Int)
def eG (E : List Ent) : List Value := E.map fun e => .bool e.gone
def Ent.ok (B : Nat) (w : World) (e : Ent) : Prop :=
  0 < e.bs.length ∧ e.bs.length ≤ 1000 ∧ e.tk ≤ e.bs.length ∧ (e.gone = false → e.tk < e.bs.length) ∧ e.bs.length ≤ e.c ∧ e.c ≤ 9223372036854775807 ∧ B ≤ e.g ∧
    ∃ cs, Row w e.g 5 cs ∧ ∀ (j b : Nat), e.bs[j]? = some b → cs[j]? = some (.int .u8 b)
/-- the three lists of a queue of the document's -/
structure RL (w : World) (B : Nat) (E : List Ent) (AL AT AG : Option Addr) (cL cT cG : Nat) : Prop where
  l : w.ownsRow B 34 1 (.slice AL E.length cL) E.length (eL E)
  t : w.ownsRow B 3 1 (.slice AT E.length cT) E.length (eT E)
  g : w.ownsRow B 4 1 (.slice AG E.length cG) E.length (eG E)
structure RQ (w : World) (y B : Nat) (room : Int) (E : List Ent) : Prop where
  row : ∃ AL cL AT cT AG cG, Row w y 33 #[.int .i64 room, .slice AL E.length cL, .slice AT E.length cT, .slice AG E.length cG] ∧ RL w B E AL AT AG cL cT cG
  ent : ∀ e ∈ E, e.ok B w
  many : E.length ≤ 200
section
variable {w v : World} {y B : Nat} {room : Int} {E : List Ent} {AL AT AG : Option Addr} {cL cT cG : Nat}
theorem Ent.ok.only {S : Nat → Prop} {e : Ent} (h : e.ok B w) (ho : Only S w v) (hS : ∀ g cs, Row w g 5 cs → ¬ S g) : e.ok B v := by
  obtain ⟨h1, h2, h3, h4, h5, h6, h7, cs, h8, h9⟩ := h
  exact ⟨h1, h2, h3, h4, h5, h6, h7, cs, h8.only ho (hS _ _ h8), h9⟩
theorem own_typed {m E' n : Nat} {x : Value} {xs : List Value} {S : Nat → Prop} (h : w.ownsRow m E' 1 x n xs) (ho : Only S w v) (hS : ∀ g cs, Row w g E' cs → ¬ S g) : v.ownsRow m E' 1 x n xs :=
  own_only h ho fun k hk => by
    rcases h.2 with ⟨rfl, _⟩ | ⟨g, cap, cur, rfl, _, hh, _⟩
    · simp [Value.ownBlock] at hk
    · have e1 : g = k := by simpa [Value.ownBlock] using hk
      subst e1
      exact hS _ _ hh
theorem RQ.only {S : Nat → Prop} (h : RQ w y B room E) (ho : Only S w v) (hy : ¬ S y) (hS : ∀ g t cs, Row w g t cs → t = 3 ∨ t = 4 ∨ t = 5 ∨ t = 34 → ¬ S g) : RQ v y B room E := by
  obtain ⟨AL, cL, AT, cT, AG, cG, h1, h2⟩ := h.row
  exact ⟨⟨AL, cL, AT, cT, AG, cG, h1.only ho hy, ⟨own_typed h2.l ho fun g cs hr => hS g _ cs hr (by simp), own_typed h2.t ho fun g cs hr => hS g _ cs hr (by simp), own_typed h2.g ho fun g cs hr => hS g _ cs hr (by simp)⟩⟩, fun e he => (h.ent e he).only ho fun g cs hr => hS g _ cs hr (by simp), h.many⟩
theorem RQ.later (h : RQ w y B room E) (hb : Below w.heap.size w v) : RQ v y B room E := h.only (S := fun _ => False) (.of_below hb) (fun hk => hk) (fun _ _ _ _ _ hk => hk)
theorem eG_at {i : Nat} {e : Ent} (h : E[i]? = some e) : (eG E)[i]? = some (.bool e.gone) := by unfold eG; rw [List.getElem?_map, h]; rfl
theorem eT_at {i : Nat} {e : Ent} (h : E[i]? = some e) : (eT E)[i]? = some (.int .i64 (e.tk : Int)) := by unfold eT; rw [List.getElem?_map, h]; rfl
theorem eL_at {i : Nat} {e : Ent} (h : E[i]? = some e) : (eL E)[i]? = some (.slice (some ⟨e.g, 0, none⟩) e.bs.length e.c) := by unfold eL; rw [List.getElem?_map, h]; rfl
theorem qcells {n : Nat} (hr : Row w y 33 #[.int .i64 room, .slice AL n cL, .slice AT n cT, .slice AG n cG]) : w.cell? ⟨y, 0, none⟩ = some (.int .i64 room) ∧ w.cell? ⟨y, 1, none⟩ = some (.slice AL n cL) ∧ w.cell? ⟨y, 2, none⟩ = some (.slice AT n cT) ∧ w.cell? ⟨y, 3, none⟩ = some (.slice AG n cG) := ⟨hr.read rfl, hr.read rfl, hr.read rfl, hr.read rfl⟩
/-- the place of the first text that is not gone -/
def fE (E : List Ent) : Nat := E.findIdx fun e => !e.gone
def fEi (E : List Ent) : Int := if fE E < E.length then (fE E : Int) else -1
theorem fE_before {i : Nat} {e : Ent} (h : E[i]? = some e) (hi : i < fE E) : e.gone = true := by
  have hl := (List.getElem?_eq_some_iff.1 h).1
  have he := (List.getElem?_eq_some_iff.1 h).2
  have := List.not_of_lt_findIdx hi
  rw [he] at this
  simpa using this
theorem fE_at {e : Ent} (h : E[fE E]? = some e) : e.gone = false := by
  have hl := (List.getElem?_eq_some_iff.1 h).1
  have he := (List.getElem?_eq_some_iff.1 h).2
  have := List.findIdx_getElem (w := hl)
  rw [← he]
  simp only [Bool.not_eq_true'] at this
  exact this
theorem fE_le : fE E ≤ E.length := List.findIdx_le_length
set_option maxRecDepth 100000 in
set_option maxHeartbeats 1600000 in
theorem rq_first (h : RQ w y B room E) : Calls Try.prog 112 #[.pointer (some ⟨y, 0, none⟩)] w fun e w' => e = .returned (.int .i64 (fEi E)) ∧ w = w' := by
  obtain ⟨AL, cL, AT, cT, AG, cG, hr, hl⟩ := h.row
  have HG := Lib.hid (own_at hl.g)
  have HB := Lib.hid (fun i e (h : E[i]? = some e) (hi : i < fE E) => fE_before h hi)
  have HA := Lib.hid (fun e (h : E[fE E]? = some e) => fE_at h)
  have hle := fE_le (E := E)
  have HF := Lib.hid (show fEi E = if fE E < E.length then (fE E : Int) else -1 from rfl)
  have HN := Lib.hid (fun i (hi : i < E.length) => (⟨_, List.getElem?_eq_getElem hi⟩ : ∃ e, E[i]? = some e))
  have hm := h.many
  generalize hf : fE E = f at *
  generalize hn : E.length = n at *
  obtain ⟨c0, c1, c2, c3⟩ := qcells hr
  clear h hr hl hn hf
  go_enter Try.func112, Try.ntmps112
  go_wp2
  go_loopw [3] (fun s3 wr => ∃ i : Nat, i ≤ f ∧ s3 = .int .i64 i ∧ w = wr) (fun s3 _ => f - (intOf s3).toNat)
  case atStart => exact ⟨0, by omega, rfl, rfl⟩
  case round =>
    obtain ⟨i, hi, rfl, rfl⟩ := hrel
    by_cases hlt : i < n
    · obtain ⟨e, he⟩ := HN.out i hlt
      obtain ⟨g, rfl, z⟩ := HG.out.cell (eG_at he)
      have h1 : (i : Int) < n := by omega
      have h0 : (0 : Int) ≤ i := by omega
      by_cases hif : i < f
      · have hg := HB.out i e he hif
        rw [hg] at z
        have HIF := Lib.hid hif
        clear he hg hlt hif
        go_wp2
        go_roundw
        case rel => exact ⟨i + 1, by have := HIF.out; omega, by go_num, trivial⟩
        case measure => have := HIF.out; simp [intOf]; omega
      · obtain rfl : i = f := by omega
        have hg := HA.out e he
        rw [hg] at z
        have HR := Lib.hid (show fEi E = (i : Int) by rw [HF.out, if_pos hlt])
        clear he hg hlt hif
        go_wp2
        go_ret
        exact ⟨ret_int HR.out.symm, rfl⟩
    · have h1 : ¬ (i : Int) < n := by omega
      have HR := Lib.hid (show fEi E = -1 by rw [HF.out, if_neg (by omega)])
      clear hlt
      go_wp2
      go_ret
      exact ⟨ret_int HR.out.symm, rfl⟩
def idk (E : List Ent) (k : Nat) : List Nat := ((List.range k).filter fun i => !((E[i]?.map Ent.gone).getD true)).map fun i => i + 1
def u64v (l : List Nat) : List Value := l.map fun b : Nat => .int .u64 (b : Int)
theorem idk_succ {k : Nat} {e : Ent} (h : E[k]? = some e) : idk E (k + 1) = idk E k ++ (if e.gone = true then [] else [k + 1]) := by
  unfold idk
  rw [List.range_succ, List.filter_append, List.map_append]
  congr 1
  by_cases hg : e.gone = true
  · rw [if_pos hg, List.filter_cons_of_neg (by rw [h]; simp [hg])]; rfl
  · rw [if_neg hg, List.filter_cons_of_pos (by rw [h]; simpa using hg)]; rfl
theorem idk_le (E : List Ent) (k : Nat) : (idk E k).length ≤ k := by
  unfold idk
  rw [List.length_map]
  exact Nat.le_trans (List.length_filter_le _ _) (by simp)
theorem u64v_app (l k : List Nat) : u64v (l ++ k) = u64v l ++ u64v k := by unfold u64v; simp
set_option maxRecDepth 100000 in
set_option maxHeartbeats 3200000 in
theorem rq_ids (h : RQ w y B room E) : Calls Try.prog 29 #[.pointer (some ⟨y, 0, none⟩)] w fun e w' => ∃ A c, e = .returned (.slice A (idk E E.length).length c) ∧ SlAt w.heap.size 37 w' A (u64v (idk E E.length)) ∧ Below w.heap.size w w' := by
  obtain ⟨AL, cL, AT, cT, AG, cG, hr, hl⟩ := h.row
  have HG := Lib.hid (own_at hl.g)
  have HR := Lib.hid hr
  have HN := Lib.hid (fun i (hi : i < E.length) => (⟨_, List.getElem?_eq_getElem hi⟩ : ∃ e, E[i]? = some e))
  have HS := Lib.hid (fun k e (h : E[k]? = some e) => idk_succ h)
  have HL := Lib.hid (idk_le E)
  have HZ0 : ∀ wr : World, wr.ownsRow w.heap.size 37 1 (.slice none 0 0) (idk E 0).length (u64v (idk E 0)) := fun wr => World.ownsRow_nil _ _ _ _
  have HZ := Lib.hid HZ0
  clear HZ0
  have hm := h.many
  generalize idk E = id at *
  generalize hn : E.length = n at *
  clear h hr hl hn
  go_enter Try.func29, Try.ntmps29
  go_wp2
  go_loopw [3, 4] (fun s3 s4 wr => ∃ i : Nat, i ≤ n ∧ s4 = .int .i64 i ∧ Hid (wr.ownsRow w.heap.size 37 1 s3 (id i).length (u64v (id i))) ∧ Hid (Below w.heap.size w wr)) (fun _ s4 _ => n - (intOf s4).toNat)
  case atStart => exact ⟨0, by omega, rfl, Lib.hid (HZ.out _), Lib.hid (Below.refl _ _)⟩
  case round =>
    obtain ⟨i, hi, rfl, HOW, HBr⟩ := hrel
    obtain ⟨A3, c3', rfl, hc3, hc3m⟩ := own_shape HOW.out
    obtain ⟨c0, c1, c2, c3⟩ := qcells (HR.out.later HBr.out)
    by_cases hlt : i < n
    · obtain ⟨e, he⟩ := HN.out i hlt
      obtain ⟨g, rfl, z⟩ := (HG.out.later HBr.out).cell (eG_at he)
      have h1 : (i : Int) < n := by omega
      have h0 : (0 : Int) ≤ i := by omega
      have HSI := Lib.hid (HS.out i e he)
      have HLT := Lib.hid hlt
      have hu : IntKind.u64.wrap ((i : Int) + 1) = ((i + 1 : Nat) : Int) := by rw [IntKind.wrap_u64]; omega
      have hu0 : IntKind.u64.wrap (i : Int) = (i : Int) := by rw [IntKind.wrap_u64]; omega
      clear he hlt
      cases hg : e.gone
      · rw [hg] at z HSI
        simp only [Bool.false_eq_true, if_false] at HSI
        obtain ⟨A', c', w3, hrun, hown, hon⟩ := own_next (T := 44) (E := 37) (u := .int .u64 ((i + 1 : Nat) : Int)) (by kernel_rfl) (show (Try.prog.info? 37).map (fun i => (i.zero, i.size, i.bytes)) = some (some (.int .u64 0), 1, 8) by kernel_rfl) rfl (by omega) rfl HOW.out HBr.out.size (by have := HL.out i; omega)
        have HRUN := Lib.hid hrun
        have HOWN := Lib.hid hown
        have HON := Lib.hid (hon.below HBr.out.size (fun j hj hk => by have := (own_block HOW.out j hk).1; omega))
        clear hrun hown hon hg
        go_wp2_with (first
          | (at_builtin; refine wpList_is rfl (.tmp 22) (.tmp 26) 44 rfl _ _ (by rfl) (by rfl) HRUN.out ?_)
          | go_in)
        go_roundw
        case rel => exact ⟨i + 1, by have := HLT.out; omega, by go_num, Lib.hid (by rw [HSI.out, List.length_append, u64v_app]; exact HOWN.out), Lib.hid (HBr.out.trans HON.out)⟩
        case measure => have := HLT.out; simp [intOf]; omega
      · rw [hg] at z HSI
        simp only [if_true, List.append_nil] at HSI
        clear hg
        go_wp2
        go_roundw
        case rel => exact ⟨i + 1, by have := HLT.out; omega, by go_num, Lib.hid (by rw [HSI.out]; exact HOW.out), HBr⟩
        case measure => have := HLT.out; simp [intOf]; omega
    · have h1 : ¬ (i : Int) < n := by omega
      obtain rfl : i = n := by omega
      clear hlt
      go_wp2
      go_ret
      refine ⟨A3, ⟨c3', rfl⟩, own_at HOW.out, HBr.out⟩
/-- how many bytes wait of the first k texts -/
def byk (E : List Ent) (k : Nat) : Nat := ((E.take k).map fun e => if e.gone then 0 else e.bs.length - e.tk).sum
theorem byk_succ {k : Nat} {e : Ent} (h : E[k]? = some e) : byk E (k + 1) = byk E k + (if e.gone = true then 0 else e.bs.length - e.tk) := by
  unfold byk
  rw [List.take_add_one, h]
  simp
theorem byk_le (he : ∀ e ∈ E, e.bs.length ≤ 1000) (k : Nat) : byk E k ≤ 1000 * k := by
  induction k with
  | zero => simp [byk]
  | succ k ih =>
    by_cases hk : k < E.length
    · rw [byk_succ (List.getElem?_eq_getElem hk)]
      have := he _ (List.getElem_mem hk)
      split <;> omega
    · have : byk E (k + 1) = byk E k := by
        unfold byk
        rw [List.take_of_length_le (by omega), List.take_of_length_le (by omega)]
      omega
set_option maxRecDepth 100000 in
set_option maxHeartbeats 3200000 in
theorem rq_bytes (h : RQ w y B room E) : Calls Try.prog 27 #[.pointer (some ⟨y, 0, none⟩)] w fun e w' => e = .returned (.int .i64 (byk E E.length : Nat)) ∧ Below w.heap.size w w' := by
  obtain ⟨AL, cL, AT, cT, AG, cG, hr, hl⟩ := h.row
  have HG := Lib.hid (own_at hl.g)
  have HT := Lib.hid (own_at hl.t)
  have HLL := Lib.hid (own_at hl.l)
  have HR := Lib.hid hr
  have HE := Lib.hid h.ent
  have HN := Lib.hid (fun i (hi : i < E.length) => (⟨_, List.getElem?_eq_getElem hi⟩ : ∃ e, E[i]? = some e))
  have HS := Lib.hid (fun k e (h : E[k]? = some e) => byk_succ h)
  have HL := Lib.hid (byk_le (E := E) fun e he => (h.ent e he).2.1)
  have HZ := Lib.hid (show byk E 0 = 0 from rfl)
  have hm := h.many
  generalize byk E = by' at *
  generalize hn : E.length = n at *
  clear h hr hl hn
  go_enter Try.func27, Try.ntmps27
  go_wp2
  go_loopw [3, 4] (fun s3 s4 wr => ∃ i q : Nat, i ≤ n ∧ s4 = .int .i64 i ∧ s3 = .int .i64 (q : Int) ∧ Hid (by' i = q) ∧ q ≤ 200000 ∧ Hid (Below w.heap.size w wr)) (fun _ s4 _ => n - (intOf s4).toNat)
  case atStart => exact ⟨0, 0, by omega, rfl, rfl, HZ, by omega, Lib.hid (Below.refl _ _)⟩
  case round =>
    obtain ⟨i, q, hi, rfl, rfl, HQ, hq, HBr⟩ := hrel
    obtain ⟨c0, c1, c2, c3⟩ := qcells (HR.out.later HBr.out)
    by_cases hlt : i < n
    · obtain ⟨e, he⟩ := HN.out i hlt
      obtain ⟨g, rfl, z⟩ := (HG.out.later HBr.out).cell (eG_at he)
      have h1 : (i : Int) < n := by omega
      have h0 : (0 : Int) ≤ i := by omega
      have HSI := Lib.hid (HS.out i e he)
      have HLT := Lib.hid hlt
      have hbd := HL.out (i + 1)
      cases hg : e.gone
      · rw [hg] at z HSI
        simp only [Bool.false_eq_true, if_false] at HSI
        obtain ⟨g1, rfl, z1⟩ := (HT.out.later HBr.out).cell (eT_at he)
        obtain ⟨g2, rfl, z2⟩ := (HLL.out.later HBr.out).cell (eL_at he)
        obtain ⟨e1, e2, e3, _⟩ := HE.out e (List.mem_of_getElem? he)
        have HSJ := Lib.hid (show ((q : Int) + (e.bs.length : Int) - (e.tk : Int)) = ((by' (i + 1) : Nat) : Int) by rw [HSI.out, HQ.out]; omega)
        have HBD := Lib.hid (show by' (i + 1) ≤ 200000 by omega)
        generalize e.bs.length = bl at *
        generalize e.tk = tk at *
        clear he hg hlt e1 hbd
        have w1 : IntKind.i64.wrap ((q : Int) + (bl : Int)) = (q : Int) + bl := IntWalk.i64_in _ (by omega)
        have w2 : IntKind.i64.wrap ((q : Int) + (bl : Int) - (tk : Int)) = (q : Int) + bl - tk := IntWalk.i64_in _ (by omega)
        go_wp2
        go_quiet (fail)
        go_wp2
        go_roundw
        case rel => exact ⟨i + 1, by' (i + 1), by have := HLT.out; omega, by go_num, by rw [HSJ.out], Lib.hid rfl, HBD.out, Lib.hid (below_drewN HBr.out _)⟩
        case measure => have := HLT.out; simp [intOf]; omega
      · rw [hg] at z HSI
        simp only [if_true, Nat.add_zero] at HSI
        clear hg
        go_wp2
        go_roundw
        case rel => exact ⟨i + 1, q, by have := HLT.out; omega, by go_num, rfl, Lib.hid (by rw [HSI.out]; exact HQ.out), hq, HBr⟩
        case measure => have := HLT.out; simp [intOf]; omega
    · have h1 : ¬ (i : Int) < n := by omega
      obtain rfl : i = n := by omega
      clear hlt
      go_wp2
      go_ret
      exact ⟨ret_int (by rw [HQ.out]), HBr.out⟩
end
end Go.Proofs.Ytbcjfdhphpckfaa
