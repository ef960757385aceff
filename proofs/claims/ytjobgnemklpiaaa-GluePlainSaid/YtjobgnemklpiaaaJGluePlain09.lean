/-
  Bytes cut into fields: plain lists. Bytes cut into fields of a call's own. An append whose run is known, at a drawn region. glue: a field comes, and what is whole is told. glue: what one field of a packet does. glue: all fields of a packet, one by one. glue: what may not be.
-/
import Derived.Test.YtjobgnemklpiaaaJGluePlain02
import Derived.Test.YtjobgnemklpiaaaJGluePlain03
import Derived.Test.YtjobgnemklpiaaaJGluePlain08
import Derived.Test.YtjobgnemklpiaaaJGluePlain05
import Derived.Test.YtjobgnemklpiaaaJGluePlain01
import Derived.Deep.RegionLaw
namespace Go.Proofs.Ytjobgnemklpiaaa


/-- bytes cut into fields of these lengths, and a last one of what is left -/
def cutF : List Nat → List Nat → Option (List (List Nat))
  | bs, [] => if bs = [] then none else some [bs]
  | bs, m :: r => if m ≤ bs.length then (cutF (bs.drop m) r).map (bs.take m :: ·) else none
/-- behind fields that were cut the rest comes to what all comes to -/
def CInv (bs ls : List Nat) (acc : List (List Nat)) (c : Nat) : Prop := acc.length ≤ ls.length ∧ c ≤ bs.length ∧ cutF bs ls = (cutF (bs.drop c) (ls.drop acc.length)).map (acc ++ ·)
theorem CInv.start (bs ls : List Nat) : CInv bs ls [] 0 := ⟨Nat.zero_le _, Nat.zero_le _, by
  simp only [List.length_nil, List.drop_zero, List.nil_append]
  cases cutF bs ls <;> rfl⟩
section
variable {bs ls : List Nat} {acc : List (List Nat)} {c m : Nat}
theorem CInv.short (h : CInv bs ls acc c) (hm : ls[acc.length]? = some m) (h2 : bs.length - c < m) : cutF bs ls = none := by
  obtain ⟨h0, h1, h⟩ := h
  obtain ⟨hk, rfl⟩ := List.getElem?_eq_some_iff.1 hm
  rw [h, List.drop_eq_getElem_cons hk, cutF, if_neg (by rw [List.length_drop]; omega)]
  rfl
theorem CInv.next (h : CInv bs ls acc c) (hm : ls[acc.length]? = some m) (h2 : m ≤ bs.length - c) : CInv bs ls (acc ++ [(bs.drop c).take m]) (c + m) := by
  obtain ⟨h0, h1, h⟩ := h
  obtain ⟨hk, rfl⟩ := List.getElem?_eq_some_iff.1 hm
  refine ⟨by simp; omega, by omega, ?_⟩
  rw [h, List.drop_eq_getElem_cons hk, cutF, if_pos (by rw [List.length_drop]; omega), List.drop_drop, List.length_append, List.length_singleton]
  cases cutF (bs.drop (c + ls[acc.length])) (ls.drop (acc.length + 1)) <;> simp
theorem CInv.last_short (h : CInv bs ls acc c) (hm : acc.length = ls.length) (h2 : bs.length - c = 0) : cutF bs ls = none := by
  obtain ⟨h0, h1, h⟩ := h
  have h3 : bs.drop c = [] := List.eq_nil_of_length_eq_zero (by rw [List.length_drop]; exact h2)
  rw [h, List.drop_of_length_le (l := ls) (by omega), h3]
  rfl
theorem CInv.last (h : CInv bs ls acc c) (hm : acc.length = ls.length) (h2 : bs.length - c ≠ 0) : cutF bs ls = some (acc ++ [bs.drop c]) := by
  obtain ⟨h0, h1, h⟩ := h
  have h3 : bs.drop c ≠ [] := fun e => h2 (by rw [← List.length_drop, e]; rfl)
  have h4 : cutF (bs.drop c) [] = some [bs.drop c] := by unfold cutF; rw [if_neg h3]
  rw [h, List.drop_of_length_le (l := ls) (by omega), h4]
  rfl
end
theorem cutF_ok : ∀ {ls bs : List Nat} {t : List (List Nat)}, cutF bs ls = some t → t.flatten = bs ∧ t.length = ls.length + 1 ∧ (t.map List.length).take ls.length = ls ∧ ∃ x, t.getLast? = some x ∧ x ≠ []
  | [], bs, t, h => by
    unfold cutF at h
    split at h
    · cases h
    · injection h with h
      subst h
      refine ⟨by simp, by simp, by simp, bs, rfl, by assumption⟩
  | m :: r, bs, t, h => by
    unfold cutF at h
    split at h
    · rename_i hm
      rw [Option.map_eq_some_iff] at h
      obtain ⟨t', h1, rfl⟩ := h
      obtain ⟨a1, a2, a3, x, a4, a5⟩ := cutF_ok h1
      refine ⟨by rw [List.flatten_cons, a1, List.take_append_drop], by simp [a2], ?_, x, ?_, a5⟩
      · rw [List.map_cons, List.length_take, Nat.min_eq_left hm, List.length_cons, List.take_succ_cons, a3]
      · cases t' with
        | nil => simp at a4
        | cons y z => rw [List.getLast?_cons_cons]; exact a4
    · cases h
theorem cutF_back : ∀ (t : List (List Nat)), t ≠ [] → (∀ x, t.getLast? = some x → x ≠ []) → cutF t.flatten ((t.map List.length).take (t.length - 1)) = some t
  | [], h, _ => absurd rfl h
  | [x], _, h => by
    have hx := h x rfl
    simp [cutF, hx]
  | x :: y :: r, _, h => by
    have ih := cutF_back (y :: r) (by simp) (fun z hz => h z (by rw [List.getLast?_cons_cons]; exact hz))
    have e : ((x :: y :: r).map List.length).take ((x :: y :: r).length - 1) = x.length :: ((y :: r).map List.length).take ((y :: r).length - 1) := by simp
    rw [e, cutF, List.flatten_cons, if_pos (by rw [List.length_append]; omega), List.drop_left, List.take_left, ih]
    rfl
/-- .. or why there are none -/
def ansOf : Option (List (List Nat)) → Int × List (List Nat)
  | some t => (0, t)
  | none => (8, [])
/-- the fields behind a head, or why there are none -/
def fldR (bs : List Nat) (more : Bool) (wd : Nat) : Int × List (List Nat) :=
  if more then
    if (readF bs wd).2.2 = 0 then
      if (readF bs wd).1.any (fun x => decide (2047 < x)) then (3, [])
      else ansOf (cutF (bs.drop (readF bs wd).2.1) (readF bs wd).1)
    else ((readF bs wd).2.2, [])
  else ansOf (cutF bs [])
end Go.Proofs.Ytjobgnemklpiaaa
namespace Go.Proofs.Ytjobgnemklpiaaa
open Go.RowKit


/-- bytes in a block of the call's own -/
def RowB.mine (B : Nat) (w : World) (r : RowB) : Prop := (∃ g cs, r.A = some ⟨g, 0, none⟩ ∧ B ≤ g ∧ Row w g 5 cs ∧ ∀ (j b : Nat), r.bs[j]? = some b → cs[j]? = some (Value.int .u8 b)) ∧ r.bs.length ≤ r.cap ∧ r.cap ≤ 9223372036854775807 ∧ ∀ b ∈ r.bs, b < 256
theorem RowB.mine.ok {B : Nat} {w : World} {r : RowB} (h : r.mine B w) : r.ok w := by
  obtain ⟨⟨g, cs, h1, h2, h3, h4⟩, h5⟩ := h
  refine ⟨fun _ => ⟨_, h1, fun j u hu => ?_⟩, h5⟩
  rw [add_zero_addr]
  simp only [bts, List.getElem?_map, Option.map_eq_some_iff] at hu
  obtain ⟨b, hb, rfl⟩ := hu
  exact h3.read (h4 j b hb)
theorem RowB.mine.only {B : Nat} {w v : World} {r : RowB} {S : Nat → Prop} (h : r.mine B w) (ho : Only S w v) (hS : ∀ k cs, Row w k 5 cs → B ≤ k → ¬ S k) : r.mine B v := by
  obtain ⟨⟨g, cs, h1, h2, h3, h4⟩, h5⟩ := h
  exact ⟨⟨g, cs, h1, h2, h3.only ho (hS g cs h3 h2), h4⟩, h5⟩
theorem RowB.mine.down {B B' : Nat} {w : World} {r : RowB} (h : r.mine B w) (hb : B' ≤ B) : r.mine B' w := by
  obtain ⟨⟨g, cs, h1, h2, h3, h4⟩, h5⟩ := h
  exact ⟨⟨g, cs, h1, by omega, h3, h4⟩, h5⟩
theorem Try.info61 : (Try.prog.info? 61).map (fun i => (i.zero, i.size, i.bytes)) = some (some (.slice none 0 0), 1, 24) := by kernel_rfl
set_option maxRecDepth 100000 in
/-- one row more -/
theorem app_row {B n : Nat} {w : World} {v : Value} {xs : List Value} (h : w.ownsRow B 61 1 v n xs) (hB : B ≤ w.heap.size) (r : RowB) (hl : n ≤ 1000000) :
    ∃ g c w3, (Builtin.append_ #[57, 57] 57 #[v, .slice (some ⟨w.heap.size, 0, none⟩) 1 1]).run Try.prog (w.alloc (.cells #[.slice r.A r.bs.length r.cap] 61)) = .ok (.slice (some ⟨g, 0, none⟩) (n + 1) c) w3 ∧
      w3.ownsRow B 61 1 (.slice (some ⟨g, 0, none⟩) (n + 1) c) (n + 1) (xs ++ [r.v]) ∧ Only (fun k => v.ownBlock = some k) w w3 := by
  obtain ⟨i0, hi, hi0, hi1, hi2⟩ := info_parts Try.info61
  obtain ⟨g, cap, w3, hr3, h2, h3, _, _⟩ := run_append_lies (P := Try.prog) (w.alloc (.cells #[r.v] 61)) 57 57 B 61 i0 _ 1 24 Try.underlying57 hi hi0 hi1 hi2 rfl (by omega) v n _ (h.alloc _) ⟨w.heap.size, 0, none⟩ 1 1 [r.v] rfl
    (World.news_of_block (cs := #[r.v]) (heap_alloc_new w _)) (by intro u hu; simp at hu; rw [hu]; rfl) (by omega) (by unfold maxLen; omega) (by omega) (by simp; omega) _ rfl
  exact ⟨g, cap, w3, hr3, h2, ((Only.refl (fun k => v.ownBlock = some k) w).alloc (.cells #[r.v] 61)).grown h3 (fun k hk => .inl hk)⟩
/-- a list of rows of the call's own, while it grows -/
structure OwnR (B : Nat) (w : World) (v : Value) (L : List RowB) : Prop where
  own : w.ownsRow B 61 1 v L.length (L.map RowB.v)
  mine : ∀ r ∈ L, r.mine B w
section
variable {B : Nat} {w w' : World} {v : Value} {L : List RowB}
theorem OwnR.only {S : Nat → Prop} (h : OwnR B w v L) (ho : Only S w w') (h1 : ∀ k, v.ownBlock = some k → ¬ S k) (h2 : ∀ k cs, Row w k 5 cs → B ≤ k → ¬ S k) : OwnR B w' v L :=
  ⟨own_only h.own ho h1, fun r hr => (h.mine r hr).only ho h2⟩
theorem OwnR.later (h : OwnR B w v L) (hb : Below w.heap.size w w') : OwnR B w' v L := h.only (S := fun _ => False) (.of_below hb) (fun _ _ h => h) (fun _ _ _ _ h => h)
theorem OwnR.form (h : OwnR B w v L) : ∃ A c, v = .slice A L.length c ∧ L.length ≤ c ∧ c ≤ 9223372036854775807 := by
  rcases h.own.2 with ⟨rfl, h0⟩ | ⟨g, cap, cur, rfl, _, _, h1, h2, _⟩
  · exact ⟨none, 0, by rw [h0], by omega, by omega⟩
  · exact ⟨_, cap, rfl, h1, by unfold maxLen at h2; exact h2⟩
theorem OwnR.src {A : Option Addr} {n c : Nat} (h : OwnR B w (.slice A n c) L) : RSrc w A L := by
  intro h0
  obtain ⟨g, cap, hv, _, _⟩ := h.own.form h0
  injection hv with h1 h2 h3
  subst h1
  refine ⟨_, rfl, fun k r hr => ⟨?_, (h.mine r (List.mem_of_getElem? hr)).ok⟩⟩
  exact h.own.cells (g := g) rfl k _ (by rw [List.getElem?_map, hr]; rfl)
theorem OwnR.next (h : OwnR B w v L) (hB : B ≤ w.heap.size) (r : RowB) (hr : r.mine B w) (hl : L.length ≤ 1000000) :
    ∃ g c w3, (Builtin.append_ #[57, 57] 57 #[v, .slice (some ⟨w.heap.size, 0, none⟩) 1 1]).run Try.prog (w.alloc (.cells #[.slice r.A r.bs.length r.cap] 61)) = .ok (.slice (some ⟨g, 0, none⟩) (L.length + 1) c) w3 ∧
      OwnR B w3 (.slice (some ⟨g, 0, none⟩) (L.length + 1) c) (L ++ [r]) ∧ Below B w w3 := by
  obtain ⟨g, c, w3, h1, h2, h3⟩ := app_row h.own hB r hl
  have hne : ∀ k cs, Row w k 5 cs → B ≤ k → ¬ v.ownBlock = some k := fun k cs hk _ => own_apart h.own hk (by decide)
  refine ⟨g, c, w3, h1, ⟨by rw [List.length_append, List.map_append]; exact h2, fun x hx => ?_⟩, own_only_below h.own h3 hB⟩
  rw [List.mem_append, List.mem_singleton] at hx
  rcases hx with hx | rfl
  · exact (h.mine x hx).only h3 hne
  · exact hr.only h3 hne
end
theorem make_rows (n : Nat) (h : n ≤ 1000) (w : World) :
    (Instr.makeSlice 57 (.int .i64 0) (.int .i64 ((n : Int) + 1))).run Try.prog w = .ok (.slice (some ⟨w.heap.size, 0, none⟩) 0 (n + 1)) (w.alloc (.cells (List.replicate (n + 1) (Value.slice none 0 0)).toArray 61)) := by
  obtain ⟨i, hi, hz, hs, hb⟩ := info_parts Try.info61
  have h := run_make (P := Try.prog) w 57 61 i _ Try.underlying57 hi hz .i64 .i64 0 ((n : Int) + 1) (Int.le_refl _) (by omega) (by rw [hb]; omega) (by omega)
  have e : madeCells #[Value.slice none 0 0] (n + 1) = (List.replicate (n + 1) (Value.slice none 0 0)).toArray := by
    apply Array.toList_inj.1
    rw [toList_madeCells_one]
  rw [h, hs, Nat.mul_one, show ((n : Int) + 1).toNat = n + 1 by omega, ← e]
  rfl
theorem own_rows (n : Nat) (h : n ≤ 1000) (w : World) (B : Nat) (hB : B ≤ w.heap.size) : OwnR B (w.alloc (.cells (List.replicate (n + 1) (Value.slice none 0 0)).toArray 61)) (.slice (some ⟨w.heap.size, 0, none⟩) 0 (n + 1)) [] :=
  ⟨⟨by simp, .inr ⟨w.heap.size, n + 1, _, rfl, hB, heap_alloc_new _ _, Nat.zero_le _, by unfold maxLen; omega, by simp, by simp⟩⟩, fun r hr => by cases hr⟩

set_option maxRecDepth 100000 in
set_option maxHeartbeats 400000 in
theorem copied_f {A : Option Addr} {l : List Nat} (B n c : Nat) (w : World) (hn : l.length = n) (h0 : 0 < n) (hm : n ≤ 1000000) (hs : Src w A (bts l)) (hb : ∀ b ∈ l, b < 256) (hB : B ≤ w.heap.size) :
    Calls Try.prog 204 #[.slice A n c] w fun e w' => ∃ A', e = .returned (.slice A' n n) ∧ RowB.mine B w' ⟨A', n, l⟩ ∧ Below B w w' := by
  obtain ⟨A', c', W', hrun, hown, hbl, _, _⟩ := app_bytes (B := B) (l := []) (v := .slice none 0 0) n c (World.ownsRow_nil _ _ _ _) hB hs hn (by simp; omega)
  simp only [List.length_nil, Nat.zero_add, List.nil_append] at hrun hown
  rcases hown.2 with ⟨h1, h2⟩ | ⟨g, cap, cur, h1, hBg, hh, hnc, hcm, hsz, htk⟩
  · omega
  · injection h1 with e1 e2 e3
    subst e1 e2 e3
    have HM := Lib.hid (show RowB.mine B W' ⟨some ⟨g, 0, none⟩, l.length, l⟩ from ⟨⟨g, cur, rfl, hBg, hh, fun j b hj => by
      have h9 := bts_at hj
      rw [← htk, List.getElem?_take] at h9
      split at h9
      · simpa using h9
      · cases h9⟩, Nat.le_refl _, by show l.length ≤ _; omega, hb⟩)
    have HBL := Lib.hid hbl
    unfold maxLen at hcm
    clear hs hb hown hh htk hsz hbl
    clear hn
    generalize l.length = n at *
    go_enter Try.func204, Try.ntmps204
    go_wp2_with (at_builtin; refine wpList_run rfl (.const (.slice none 0 0)) (.tmp 4) 61 rfl (.slice none 0 0) (.slice A n c) (by rfl) (by rfl) hrun ?_)
    go_ret
    exact ⟨_, rfl, HM.out, HBL.out⟩
end Go.Proofs.Ytjobgnemklpiaaa
namespace Go.Proofs.Ytjobgnemklpiaaa
open Go.RowKit

theorem step_run {P : Program} {ops : Array Oper} {o : Oper} {a : Act} {w : World} {K : Act → World → Prop} {Q : Exit → Act → World → Prop} {E : Prop} (hgd : o.guard = none) (s x : Operand) (t : TypeId)
    (ho : o.op = .call { callee := .builtin .append, args := #[s, x], argTypes := #[t, t] }) (v u : Value) (hs : a.eval s = v) (hx : a.eval x = u) {v' : Value} {w' : World}
    (hr : (Builtin.append_ #[t, t] o.type #[v, u]).run P w = .ok v' w') (h : K (a.put o.dst v') w') :
    if Region.wanted o (yielded ops a.tmps) = true then Oper.wp P o a w K Q else E := by
  have hw : Region.wanted o (yielded ops a.tmps) = true := by simp [Region.wanted, hgd]
  rw [if_pos hw]
  unfold Oper.wp execOp
  simp only [ho, resolve, invoke, builtin, Sem.run_bind, Sem.run_pure, Result.andThen_ok, List.map_toArray, List.map_cons, List.map_nil, hs, hx, hr]
  exact h
end Go.Proofs.Ytjobgnemklpiaaa
namespace Go.Proofs.Ytjobgnemklpiaaa
open Go.RowKit

theorem clipb_any {A : Option Addr} (n c : Nat) (w : World) (hc : n ≤ c) : Calls Try.prog 125 #[.slice A n c] w fun e w' => e = .returned (.slice A n n) ∧ w = w' := by
  cases A with
  | none =>
    go_enter Try.func125, Try.ntmps125
    go_wp2
    go_ret
    exact ⟨rfl, rfl⟩
  | some a =>
    go_enter Try.func125, Try.ntmps125
    go_wp2
    go_ret
    exact ⟨rfl, rfl⟩
theorem own_rows_apart {w : World} {B B' e e' z z' n n' : Nat} {v v' : Value} {xs xs' : List Value} (h : w.ownsRow B e z v n xs) (h' : w.ownsRow B' e' z' v' n' xs') (hne : e ≠ e') : ∀ k, v.ownBlock = some k → v'.ownBlock ≠ some k := by
  intro k hk
  rcases h.2 with ⟨rfl, _⟩ | ⟨g, cap, cur, rfl, _, hh, _⟩
  · simp [Value.ownBlock] at hk
  · have e1 : g = k := by simpa [Value.ownBlock] using hk
    subst e1
    exact own_apart h' (show Row w g e cur from hh) (fun e => hne e.symm)
/-- a text that was told: its bytes lie in a block that is not the held one -/
def TOk (B : Nat) (w : World) (hv : Value) (r : RowB) : Prop := ∃ (g : Nat) (cs : Array Value), r.A = some ⟨g, 0, none⟩ ∧ B ≤ g ∧ hv.ownBlock ≠ some g ∧ r.bs.length ≤ r.cap ∧ r.cap ≤ 9223372036854775807 ∧ Row w g 5 cs ∧ ∀ (j b : Nat), r.bs[j]? = some b → cs[j]? = some (Value.int .u8 (b : Nat))
theorem add_pl (b o j : Nat) : (⟨b, o, none⟩ : Addr).add j = ⟨b, o + j, none⟩ := by
  unfold Addr.add
  split
  · rename_i h
    subst h
    rfl
  · rfl
theorem TOk.src {B : Nat} {w : World} {hv : Value} {r : RowB} (h : TOk B w hv r) : Src w r.A (bts r.bs) := by
  obtain ⟨g, cs, h1, _, _, _, _, h4, h5⟩ := h
  intro _
  refine ⟨⟨g, 0, none⟩, h1, fun j u hu => ?_⟩
  have hj : j < r.bs.length := by have := (List.getElem?_eq_some_iff.1 hu).1; rw [length_bts] at this; exact this
  have hb := bts_at (List.getElem?_eq_getElem hj)
  rw [hu] at hb
  injection hb with hb
  rw [hb, add_pl, Nat.zero_add]
  exact h4.read (h5 j _ (List.getElem?_eq_getElem hj))
theorem TOk.step {B : Nat} {w v : World} {hv hv' : Value} {r : RowB} {S : Nat → Prop} (h : TOk B w hv r) (ho : Only S w v) (hS : ∀ g cs, Row w g 5 cs → hv.ownBlock ≠ some g → ¬ S g) (hg : GNext w hv hv') : TOk B v hv' r := by
  obtain ⟨g, cs, h1, h2, h3, h4, h5, h6, h7⟩ := h
  refine ⟨g, cs, h1, h2, fun e => ?_, h4, h5, h6.only ho (hS g cs h6 h3), h7⟩
  have := h6.inside
  rcases hg g e with h9 | h9
  · exact h3 h9
  · omega
/-- what is held and what was told so far -/
def GInv (B C p gb tb : Nat) (w : World) (hv tv : Value) (s : GS) (L : List RowB) : Prop :=
  GRep B w p hv s ∧ Row w gb 107 #[.pointer (some ⟨p, 0, none⟩)] ∧ Row w tb 57 #[tv] ∧ w.ownsRow C 61 1 tv L.length (L.map RowB.v) ∧ ∀ r ∈ L, TOk B w hv r
def GS2 (p tb : Nat) (hv tv : Value) (k : Nat) : Prop := (k = p ∨ hv.ownBlock = some k) ∨ k = tb ∨ tv.ownBlock = some k
theorem GInv.come {B C p gb tb : Nat} {w w1 : World} {hv hv1 tv : Value} {s s1 : GS} {L : List RowB} (h : GInv B C p gb tb w hv tv s L) (h1 : GRep B w1 p hv1 s1) (ho : Only (GS1 p hv) w w1) (hg : GNext w hv hv1) : GInv B C p gb tb w1 hv1 tv s1 L := by
  obtain ⟨a1, a2, a3, a4, a5⟩ := h
  have k1 : ∀ {g : Nat} {t : TypeId} {cs : Array Value}, Row w g t cs → t ≠ 185 → t ≠ 5 → ¬ GS1 p hv g := by
    intro g t cs hr h2 h3 hx
    rcases hx with hx | hx
    · exact hr.apart a1.1 h2 hx
    · exact own_apart a1.2 hr (fun e => h3 e.symm) hx
  refine ⟨h1, a2.only ho (k1 a2 (by decide) (by decide)), a3.only ho (k1 a3 (by decide) (by decide)), own_only a4 ho (fun k hk hx => ?_), fun r hr => (a5 r hr).step ho (fun g cs h6 h7 hx => ?_) hg⟩
  · rcases hx with hx | hx
    · subst hx; exact own_apart a4 a1.1 (by decide) hk
    · exact own_rows_apart a4 a1.2 (by decide) k hk hx
  · rcases hx with hx | hx
    · exact h6.apart a1.1 (by decide) hx
    · exact h7 hx
def PutStep (B C p gb tb : Nat) (hv tv : Value) (s' : GS) (L : List RowB) (told : List (List Nat)) (w : World) (e : Ending) (w' : World) : Prop :=
  e = .returned (.tuple #[]) ∧ ∃ hv' tv' L', GInv B C p gb tb w' hv' tv' s' L' ∧ texts L' = texts L ++ told ∧ Only (GS2 p tb hv tv) w w' ∧ GNext w hv hv' ∧ GNext w tv tv' ∧ C ≤ w'.heap.size
end Go.Proofs.Ytjobgnemklpiaaa
namespace Go.Proofs.Ytjobgnemklpiaaa
open Go.RowKit

theorem Only.draw {w : World} {S : Nat → Prop} : Only S w w.drew := Only.drew (Only.refl _ _)
theorem told_tail {B C p gb tb n c : Nat} {A : Option Addr} {w : World} {tv : Value} {s : GS} {L : List RowB} (h : GInv B C p gb tb w (.slice A n c) tv s L) (hn : s.held.length = n) (h0 : 0 < n) (hL : L.length ≤ 1000) (hC : C ≤ w.heap.size) :
    ∃ g' c' w2, (Builtin.append_ #[57, 57] 57 #[tv, .slice (some ⟨w.heap.size, 0, none⟩) 1 1]).run Try.prog ((w.alloc (.cells #[.slice A n n] 61)).drew) = .ok (.slice (some ⟨g', 0, none⟩) (L.length + 1) c') w2 ∧
      Row w2 tb 57 #[tv] ∧ Row w2 gb 107 #[.pointer (some ⟨p, 0, none⟩)] ∧ Row w2 p 185 #[.bool true, .slice A n c, .int .i64 s.lost] ∧
      GInv B C p gb tb ((w2.setCell ⟨tb, 0, none⟩ (.slice (some ⟨g', 0, none⟩) (L.length + 1) c')).setCell ⟨p, 1, none⟩ (.slice none 0 0)) (.slice none 0 0) (.slice (some ⟨g', 0, none⟩) (L.length + 1) c') ⟨[], s.lost⟩ (L ++ [⟨A, n, s.held⟩]) ∧
      Only (GS2 p tb (.slice A n c) tv) w ((w2.setCell ⟨tb, 0, none⟩ (.slice (some ⟨g', 0, none⟩) (L.length + 1) c')).setCell ⟨p, 1, none⟩ (.slice none 0 0)) ∧ GNext w tv (.slice (some ⟨g', 0, none⟩) (L.length + 1) c') := by
  obtain ⟨a1, a2, a3, a4, a5⟩ := h
  obtain ⟨i0, hi, hi0, hi1, hi2⟩ := info_parts Try.info61
  have hbA := bl_drew (bl_alloc (Below.refl w.heap.size w) (.cells #[.slice A n n] 61))
  have ho0 : Only (GS2 p tb (.slice A n c) tv) w (w.alloc (.cells #[.slice A n n] 61)).drew := Only.of_below hbA
  have a4' := own_later2 a4 hbA
  obtain ⟨v', w2, hrun, hown, hgr, _, hat⟩ := run_append_own_at (P := Try.prog) (w := (w.alloc (.cells #[.slice A n n] 61)).drew) C 57 57 61 i0 _ 1 24 Try.underlying57 hi hi0 hi1 hi2 rfl (by omega) tv L.length (L.map RowB.v) a4' ⟨w.heap.size, 0, none⟩ 1 1 [.slice A n n] rfl
    (fun j u hu => by
      match j, hu with
      | 0, hu =>
        simp only [List.getElem?_cons_zero, Option.some.injEq] at hu
        subst hu
        rw [add_pl]
        exact (Row.made w 61 #[.slice A n n]).drawn.read rfl
      | j + 1, hu => simp at hu) (by intro u hu; simp at hu; subst hu; rfl) (by unfold maxLen; omega) (by omega) (by have := hbA.size; omega)
  have hon1 : Only (fun k => tv.ownBlock = some k) (w.alloc (.cells #[.slice A n n] 61)).drew w2 := (Only.refl _ _).grown hgr (fun k hk => .inl hk)
  have n1 : ∀ {g : Nat} {t : TypeId} {cs : Array Value}, Row w g t cs → t ≠ 61 → tv.ownBlock ≠ some g := fun hr hne => own_apart a4 hr (fun e => hne e.symm)
  have r1 : Row w2 p 185 #[.bool true, .slice A n c, .int .i64 s.lost] := (a1.1.later hbA).only hon1 (n1 a1.1 (by decide))
  have r2 : Row w2 gb 107 #[.pointer (some ⟨p, 0, none⟩)] := (a2.later hbA).only hon1 (n1 a2 (by decide))
  have r3 : Row w2 tb 57 #[tv] := (a3.later hbA).only hon1 (n1 a3 (by decide))
  have ho1 : Only (GS2 p tb (.slice A n c) tv) w w2 := ho0.andThen hon1 (fun k _ hk => .inr (.inr hk))
  obtain ⟨g', c', ev⟩ : ∃ g' c', v' = .slice (some ⟨g', 0, none⟩) (L.length + 1) c' := by
    rcases hown.2 with ⟨_, e⟩ | ⟨g, cap, cur, e, _⟩
    · omega
    · exact ⟨g, cap, e⟩
  subst ev
  have p1 : p ≠ tb := a1.1.apart a3 (by decide)
  have p2 : gb ≠ tb := a2.apart a3 (by decide)
  have p3 : gb ≠ p := a2.apart a1.1 (by decide)
  have hgn : GNext w tv (.slice (some ⟨g', 0, none⟩) (L.length + 1) c') := by
    intro k hk
    rcases hat with e | e
    · exact .inl (by rw [← e]; exact hk)
    · rw [e] at hk
      injection hk with hk
      have := hbA.size
      exact .inr (by omega)
  have ho2 : Only (GS2 p tb (.slice A n c) tv) w ((w2.setCell ⟨tb, 0, none⟩ (.slice (some ⟨g', 0, none⟩) (L.length + 1) c')).setCell ⟨p, 1, none⟩ (.slice none 0 0)) :=
    (ho1.set (p := ⟨tb, 0, none⟩) (.inl (.inr (.inl rfl))) _).set (p := ⟨p, 1, none⟩) (.inl (.inl (.inl rfl))) _
  have hset : Only (fun k => k = tb ∨ k = p) w2 ((w2.setCell ⟨tb, 0, none⟩ (.slice (some ⟨g', 0, none⟩) (L.length + 1) c')).setCell ⟨p, 1, none⟩ (.slice none 0 0)) :=
    ((Only.refl _ _).set (p := ⟨tb, 0, none⟩) (.inl (.inl rfl)) _).set (p := ⟨p, 1, none⟩) (.inl (.inr rfl)) _
  obtain ⟨A9, c9, e9, q1, q2⟩ := a1.2.form
  injection e9 with e91 e92 e93
  subst e91 e93
  unfold maxLen at q2
  obtain ⟨g, cur, rfl, hBg, hg⟩ : ∃ g cur, A = some ⟨g, 0, none⟩ ∧ B ≤ g ∧ Row w g 5 cur ∧ ∀ (j b : Nat), s.held[j]? = some b → cur[j]? = some (Value.int .u8 (b : Nat)) := by
    rcases a1.2.2 with ⟨e, _⟩ | ⟨g, cap, cur, e, k1, k2, k3, k4, k5, k6⟩
    · injection e with _ e; omega
    · injection e with e1 e2 e3
      refine ⟨g, cur, e1, k1, k2, fun j b hb => ?_⟩
      have h9 := bts_at hb
      rw [← k6, List.getElem?_take] at h9
      split at h9
      · simpa using h9
      · cases h9
  have tok : ∀ r : RowB, TOk B w (.slice (some ⟨g, 0, none⟩) n c) r → TOk B ((w2.setCell ⟨tb, 0, none⟩ (.slice (some ⟨g', 0, none⟩) (L.length + 1) c')).setCell ⟨p, 1, none⟩ (.slice none 0 0)) (.slice none 0 0) r := fun r hr => by
    have s1 := hr.step (v := w2) (S := GS2 p tb (.slice (some ⟨g, 0, none⟩) n c) tv) ho1 (fun g cs h6 h7 hx => by
      rcases hx with (hx | hx) | hx | hx
      · exact h6.apart a1.1 (by decide) hx
      · exact h7 hx
      · exact h6.apart a3 (by decide) hx
      · exact n1 h6 (by decide) hx) (GNext.refl _ _)
    exact s1.step hset (fun g cs h6 _ hx => by
      rcases hx with hx | hx
      · exact h6.apart r3 (by decide) hx
      · exact h6.apart r1 (by decide) hx) (GNext.nil _ _)
  refine ⟨g', c', w2, hrun, r3, r2, r1, ⟨⟨(r1.elsewhere p1 _).written 1 _, ownY_nil _ _⟩, (r2.elsewhere p2 _).elsewhere p3 _, (r3.written 0 _).elsewhere p1.symm _, ?_, fun r hr => ?_⟩, ho2, hgn⟩
  · rw [List.length_append, List.map_append]
    have e : ([⟨some ⟨g, 0, none⟩, n, s.held⟩] : List RowB).map RowB.v = [.slice (some ⟨g, 0, none⟩) n n] := by simp [RowB.v, hn]
    rw [e]
    exact own_only hown hset (fun k hk hx => by
      rcases hx with hx | hx
      · subst hx; exact own_apart hown r3 (by decide) hk
      · subst hx; exact own_apart hown r1 (by decide) hk)
  · rw [List.mem_append, List.mem_singleton] at hr
    rcases hr with hr | rfl
    · exact tok r (a5 r hr)
    · refine ⟨g, cur, rfl, hBg, by simp [Value.ownBlock], by show s.held.length ≤ n; omega, by show n ≤ _; omega, ?_, hg.2⟩
      refine ((hg.1.later hbA).only hon1 (n1 hg.1 (by decide))).only hset (fun hx => ?_)
      have hgr := (hg.1.later hbA).only hon1 (n1 hg.1 (by decide))
      rcases hx with hx | hx
      · exact hgr.apart r3 (by decide) hx
      · exact hgr.apart r1 (by decide) hx

theorem told_no {s : GS} (h : s.held = []) (e : Bool) : s.told e = (s, []) := by
  unfold GS.told
  rw [if_pos h]
  cases e <;> rfl
theorem told_yes {s : GS} (h : s.held ≠ []) : s.told true = (⟨[], s.lost⟩, [s.held]) := by
  unfold GS.told
  rw [if_neg h]
  rfl
theorem GInv.draw {B C p gb tb : Nat} {w : World} {hv tv : Value} {s : GS} {L : List RowB} (h : GInv B C p gb tb w hv tv s L) : GInv B C p gb tb w.drew hv tv s L := h
set_option maxRecDepth 100000 in
set_option maxHeartbeats 1600000 in
theorem put1_any {B C p gb tb : Nat} {w : World} {hv tv : Value} {s : GS} {L : List RowB} {F : Option Addr} {f : List Nat} (b e : Bool) (m fc : Nat) (h : GInv B C p gb tb w hv tv s L) (hlost : s.lost ≤ 1000000) (hB : B ≤ w.heap.size) (hC : C ≤ w.heap.size) (hL : L.length ≤ 1000) (hs : ∀ W, Only (fun k => k = p) w W → Src W F (bts f)) (hm : f.length = m) (hm1 : m ≤ 9223372036854775807) (hm2 : b = false → m ≤ 100000) (hl : s.held.length ≤ 1000) :
    Calls Try.prog 123 #[.slice F m fc, .bool b, .bool e, .pointer (some ⟨gb, 0, none⟩), .pointer (some ⟨tb, 0, none⟩)] w (PutStep B C p gb tb hv tv ((s.come f b e).told e).1 L ((s.come f b e).told e).2 w) := by
  have HC := Lib.hid (gcome_any b e m fc h.1 hlost hB hs hm hm1 hm2 hl)
  have HH := Lib.hid h
  have g0 : w.cell? ⟨gb, 0, none⟩ = some (.pointer (some ⟨p, 0, none⟩)) := h.2.1.read rfl
  generalize s.come f b e = s1 at *
  clear h hs hm hlost hm2
  go_enter Try.func123, Try.ntmps123
  go_wp2_with fail
  refine (HC.out).mono ?_
  rintro e1 w1 ⟨rfl, hv1, h1, ho1, hg1⟩
  have hi1 := HH.out.come h1 ho1 hg1
  have hC1 := Nat.le_trans hC ho1.size
  have HO1 := Lib.hid (ho1.weaker (T := GS2 p tb hv tv) (fun k _ hk => .inl hk))
  have HG1 := Lib.hid hg1
  obtain ⟨A, c, rfl, q1, q2⟩ := h1.2.form
  unfold maxLen at q2
  have k0 : w1.cell? ⟨gb, 0, none⟩ = some (.pointer (some ⟨p, 0, none⟩)) := hi1.2.1.read rfl
  have k1 := h1.1.read (i := 1) rfl
  have HI1 := Lib.hid hi1
  clear hi1 h1 ho1 hg1 HC
  cases e
  · have HE := Lib.hid (show PutStep B C p gb tb hv tv (s1.told false).1 L (s1.told false).2 w (.returned (.tuple #[])) w1 from ⟨rfl, _, tv, L, HI1.out, by simp [GS.told], HO1.out, HG1.out, GNext.refl _ _, hC1⟩)
    go_wp2
    go_end0
    exact HE.out
  · by_cases h0 : s1.held = []
    · have HE := Lib.hid (show PutStep B C p gb tb hv tv (s1.told true).1 L (s1.told true).2 w (.returned (.tuple #[])) w1 from by rw [told_no h0]; exact ⟨rfl, _, tv, L, HI1.out, by simp, HO1.out, HG1.out, GNext.refl _ _, hC1⟩)
      have hd : decide ((0 : Int) < (s1.held.length : Int)) = false := decide_eq_false (by rw [h0]; simp)
      have h0' : s1.held.length ≤ 0 := by rw [h0]; simp
      clear h0
      go_wp2
      go_end0
      exact HE.out
    · have HT := Lib.hid (told_yes h0)
      obtain ⟨n, hn⟩ : ∃ n, s1.held.length = n := ⟨_, rfl⟩
      have hn0 : 0 < n := by rw [← hn]; exact List.length_pos_iff.2 h0
      rw [hn] at q1 k1 HI1 HG1
      obtain ⟨g', c', w2, hrun, r3, r2, r1, hi3, ho3, hg3⟩ := told_tail HI1.out hn hn0 hL hC1
      have hd : (0 : Int) < (n : Int) := by omega
      have t0 : w1.cell? ⟨tb, 0, none⟩ = some tv := HI1.out.2.2.1.read rfl
      have t1 : (w1.alloc (.cells #[.slice A n n] 61)).cell? ⟨tb, 0, none⟩ = some tv := (HI1.out.2.2.1.more _).read rfl
      have x0 : w2.cell? ⟨tb, 0, none⟩ = some tv := r3.read rfl
      have x1 := r3.free 0
      have p1 : p ≠ tb := r1.apart r3 (by decide)
      have p2 : gb ≠ tb := r2.apart r3 (by decide)
      have y0 : (w2.setCell ⟨tb, 0, none⟩ (.slice (some ⟨g', 0, none⟩) (L.length + 1) c')).cell? ⟨gb, 0, none⟩ = some (.pointer (some ⟨p, 0, none⟩)) := (r2.elsewhere p2 _).read rfl
      have y1 := (r1.elsewhere (p := ⟨tb, 0, none⟩) p1 (.slice (some ⟨g', 0, none⟩) (L.length + 1) c')).read (i := 1) rfl
      have y2 := (r1.elsewhere (p := ⟨tb, 0, none⟩) p1 (.slice (some ⟨g', 0, none⟩) (L.length + 1) c')).free 1
      have HE := Lib.hid (show PutStep B C p gb tb hv tv (s1.told true).1 L (s1.told true).2 w (.returned (.tuple #[])) _ from by
        rw [HT.out]
        refine ⟨rfl, _, _, _, hi3, ?_, ?_, GNext.nil _ _, ?_, ?_⟩
        · simp [texts]
        · refine HO1.out.andThen ho3 (fun k hk hx => ?_)
          rcases hx with (hx | hx) | hx
          · exact .inl (.inl hx)
          · rcases HG1.out k hx with h9 | h9
            · exact .inl (.inr h9)
            · omega
          · exact .inr hx
        · intro k hk
          rcases hg3 k hk with h9 | h9
          · exact .inl h9
          · exact .inr (Nat.le_trans HO1.out.size h9)
        · exact Nat.le_trans hC1 ho3.size)
      clear hi3 ho3 hg3 HT h0 HI1 HO1 HG1 r1 r2 r3 HH hn
      have hcl := fun W => clipb_any (A := A) n c W q1
      go_wp2
      go_region_law (first
        | (go_simp; go_at_call 125; refine (hcl _).mono ?_; rintro e2 wx ⟨rfl, rfl⟩; go_simp)
        | (refine step_run rfl (.tmp 22) (.tmp 28) 57 rfl tv (.slice (some ⟨w1.heap.size, 0, none⟩) 1 1) (by rfl) (by rfl) hrun ?_))
      all_goals
        go_wp2
        go_end0
        exact HE.out
end Go.Proofs.Ytjobgnemklpiaaa
namespace Go.Proofs.Ytjobgnemklpiaaa
open Go.RowKit

set_option maxRecDepth 100000 in
set_option maxHeartbeats 1600000 in
theorem geach_any {caps : Array Value} {A : Option Addr} {L : List RowB} (fi n cap : Nat) (hfi : fi ≤ 3) (Inv : Nat → World → Prop) (w : World) (hL : L.length = n) (hn0 : 0 < n) (hn : n ≤ 1000) (h0 : Inv 0 w)
    (hsrc : ∀ k W, Inv k W → RSrc W A L)
    (hstep : ∀ k W r, L[k]? = some r → Inv k W → Calls Try.prog 123 (#[.slice r.A r.bs.length r.cap, .bool (beg fi k), .bool (fin fi n k)] ++ caps) W fun e W' => e = .returned (.tuple #[]) ∧ Inv (k + 1) W') :
    Calls Try.prog 122 #[.int .i64 fi, .slice A n cap, .func (.func 123) #[] caps] w fun e w' => e = .returned (.tuple #[]) ∧ Inv n w' := by
  have hcf := fun (args : Array Value) (w : World) => enters Try.func123 (by kernel_rfl) rfl args w
  have HR := Lib.hid hsrc
  have HS := Lib.hid hstep
  have H0 := Lib.hid h0
  have HL := Lib.hid hL
  clear hsrc hstep h0 hL
  go_enter Try.func122, Try.ntmps122
  go_wp2
  refine wp_scope_jumps 0 (fun a' w' => ∃ k : Nat, 0 < k ∧ k ≤ n ∧ Fr [some (.int .i64 fi), some (.slice A n cap), some (.func (.func 123) #[] caps), none, none, none, some (.int .i64 ((n : Int) - 1)), some (.int .i64 k), none, none, none, none, none, none, none, none, none, none, none, none, none, none, none, none, none, none, none, none, none, none, none, none, none, none, none, none, none] a' ∧ Inv k w') (fun a' _ => n - (intOf (a'.tmps.getD 7 undef)).toNat) rfl ?_ ?_
  · obtain ⟨ad, rfl, hcell⟩ := HR.out 0 w H0.out (by rw [HL.out]; exact hn0)
    obtain ⟨r, hy⟩ : ∃ r, L[0]? = some r := ⟨_, List.getElem?_eq_getElem (by rw [HL.out]; exact hn0)⟩
    have c0 : w.cell? ad = some (.slice r.A r.bs.length r.cap) := by have h9 := (hcell 0 r hy).1; rw [addr_zero] at h9; exact h9
    have HC := HS.out 0 w r hy H0.out
    have hk0i : (0 : Int) < (n : Int) := by omega
    have hk1i : (0 : Int) ≤ (n : Int) - 1 := by omega
    clear hcell hy
    have HB : (bits BinOp.and IntKind.i64 fi 2 == 0) = beg fi 0 := by
      have hfi4 : fi = 0 ∨ fi = 1 ∨ fi = 2 ∨ fi = 3 := by omega
      rcases hfi4 with rfl | rfl | rfl | rfl <;> rfl
    have HD : (bits BinOp.and IntKind.i64 fi 1 == 0) = (fi % 2 == 0) := by
      have hfi4 : fi = 0 ∨ fi = 1 ∨ fi = 2 ∨ fi = 3 := by omega
      rcases hfi4 with rfl | rfl | rfl | rfl <;> rfl
    rw [← HB] at HC
    rcases Nat.lt_or_ge 1 n with hn1 | hn1
    · have hd1 : (1 : Int) < (n : Int) := by omega
      have HE : fin fi n 0 = true := by unfold fin; rw [decide_eq_true (by omega)]; rfl
      rw [HE] at HC
      clear HD hn1
      have HC := Lib.hid HC
      clear HE HB hfi
      go_wp2
      go_step3
      go_wp2_with fail
      refine (HC.out).mono ?_
      rintro e w1 ⟨rfl, hi⟩
      go_wp2_with fail
      go_step3
      refine ⟨rfl, 1, by omega, by omega, ?_, hi⟩
      simp only [Fr, Holes]
      repeat apply Exists.intro
      rfl
    · obtain rfl : n = 1 := by omega
      have HE : fin fi 1 0 = (bits BinOp.and IntKind.i64 fi 1 == 0) := by rw [HD]; unfold fin; rw [decide_eq_false (by omega)]; rfl
      rw [HE] at HC
      clear HD hn1
      have HC := Lib.hid HC
      clear HE HB hfi
      go_wp2
      go_step3
      go_wp2_with fail
      refine (HC.out).mono ?_
      rintro e w1 ⟨rfl, hi⟩
      go_wp2_with fail
      go_step3
      refine ⟨rfl, 1, by omega, by omega, ?_, hi⟩
      simp only [Fr, Holes]
      repeat apply Exists.intro
      rfl
  · rintro a' w' ⟨k, hk0, hk, hfr, hinv⟩
    simp only [Fr, Holes] at hfr
    repeat (obtain ⟨_, hfr⟩ := hfr)
    have HI := Lib.hid hinv
    clear hinv
    have hk0i : (0 : Int) < (k : Int) := by omega
    rcases Nat.lt_or_ge k n with hlt | hge
    · obtain ⟨ad, rfl, hcell⟩ := HR.out k w' HI.out (by rw [HL.out]; omega)
      obtain ⟨r, hy⟩ : ∃ r, L[k]? = some r := ⟨_, List.getElem?_eq_getElem (by rw [HL.out]; exact hlt)⟩
      have c0 : w'.cell? (ad.add k) = some (.slice r.A r.bs.length r.cap) := (hcell k r hy).1
      have HC := HS.out k w' r hy HI.out
      have hb : beg fi k = true := by unfold beg; rw [decide_eq_true hk0]; rfl
      rw [hb] at HC
      have hi0 : (0 : Int) ≤ (k : Int) := by omega
      have hi1 : (k : Int) < (n : Int) := by omega
      have hi2 : (k : Int) ≤ (n : Int) - 1 := by omega
      clear hcell hy hb
      have HD : (bits BinOp.and IntKind.i64 fi 1 == 0) = (fi % 2 == 0) := by
        have hfi4 : fi = 0 ∨ fi = 1 ∨ fi = 2 ∨ fi = 3 := by omega
        rcases hfi4 with rfl | rfl | rfl | rfl <;> rfl
      rcases Nat.lt_or_ge (k + 1) n with hn1 | hn1
      · have hd1 : (k : Int) < (n : Int) - 1 := by omega
        have HE : fin fi n k = true := by unfold fin; rw [decide_eq_true (by omega)]; rfl
        rw [HE] at HC
        clear HD hn1
        have HC := Lib.hid HC
        clear HE hfi
        go_wp2_with fail
        refine (HC.out).mono ?_
        rintro e w1 ⟨rfl, hi⟩
        go_wp2_with fail
        go_step3
        refine ⟨rfl, ⟨k + 1, by omega, by omega, ?_, hi⟩, ?_⟩
        · simp only [Fr, Holes]
          repeat apply Exists.intro
          rfl
        · simp [intOf]
          omega
      · have hd1 : decide ((k : Int) < (n : Int) - 1) = false := decide_eq_false (by omega)
        have hd2 : ¬ (k : Int) < (n : Int) - 1 := by omega
        have HE : fin fi n k = (bits BinOp.and IntKind.i64 fi 1 == 0) := by rw [HD]; unfold fin; rw [decide_eq_false (by omega)]; rfl
        rw [HE] at HC
        clear HD hn1
        have HC := Lib.hid HC
        clear HE hfi
        go_wp2_with fail
        refine (HC.out).mono ?_
        rintro e w1 ⟨rfl, hi⟩
        go_wp2_with fail
        go_step3
        refine ⟨rfl, ⟨k + 1, by omega, by omega, ?_, hi⟩, ?_⟩
        · simp only [Fr, Holes]
          repeat apply Exists.intro
          rfl
        · simp [intOf]
          omega
    · obtain rfl : k = n := by omega
      have hgt : ¬ (k : Int) ≤ (k : Int) - 1 := by omega
      go_wp2
      simp only [Exit.jump]
      go_end0
      exact ⟨rfl, HI.out⟩
end Go.Proofs.Ytjobgnemklpiaaa
namespace Go.Proofs.Ytjobgnemklpiaaa
open Go.RowKit

theorem gempty_any {A : Option Addr} (m c : Nat) (w : World) : Calls Try.prog 161 #[.slice A m c] w fun e w' => e = .returned (.bool ((m : Int) == 0)) ∧ w = w' := by
  go_enter Try.func161, Try.ntmps161
  go_wp2
  go_ret
  exact ⟨rfl, rfl⟩
set_option maxRecDepth 100000 in
set_option maxHeartbeats 1600000 in
theorem gidx_any {A : Option Addr} {L : List RowB} (n cap : Nat) (w : World) (hL : L.length = n) (hn : n ≤ 1000) (hs : RSrc w A L) :
    Calls Try.prog 191 #[.slice A n cap, .func (.func 161) #[] #[]] w fun e w' => (∃ i : Int, e = .returned (.int .i64 i) ∧ (decide (0 ≤ i) = decide (0 ∈ lens L))) ∧ w = w' := by
  have hcf := fun (args : Array Value) (w : World) => enters Try.func161 (by kernel_rfl) rfl args w
  have HE := Lib.hid (fun (A : Option Addr) (m c : Nat) (w : World) => gempty_any (A := A) m c w)
  have HS := Lib.hid hs
  have HL := Lib.hid hL
  clear hs hL
  go_enter Try.func191, Try.ntmps191
  go_wp2
  go_loopw [8] (fun i wr => ∃ k : Nat, k ≤ n ∧ i = .int .i64 k ∧ w = wr ∧ Hid (∀ j r, j < k → L[j]? = some r → r.bs.length ≠ 0)) (fun i _ => n - (intOf i).toNat)
  case atStart => exact ⟨0, by omega, rfl, rfl, Lib.hid (fun j r h => absurd h (by omega))⟩
  case round =>
    obtain ⟨k, hk, rfl, rfl, HP⟩ := hrel
    by_cases hlt : k < n
    · obtain ⟨ad, rfl, hc⟩ := HS.out (by rw [HL.out]; omega)
      obtain ⟨r, hr⟩ : ∃ r, L[k]? = some r := ⟨_, List.getElem?_eq_getElem (by rw [HL.out]; exact hlt)⟩
      have f0 := (hc k r hr).1
      have HRR := Lib.hid hr
      have hkI : (k : Int) < (n : Int) := by omega
      unfold RowB.v at f0
      by_cases hz : r.bs.length = 0
      · have hz1 : ((r.bs.length : Int) == 0) = true := by simp [hz]
        have HF := Lib.hid (show decide (0 ≤ (k : Int)) = decide (0 ∈ lens L) from by
          rw [decide_eq_true (by omega : 0 ≤ (k : Int)), decide_eq_true]
          exact List.mem_of_getElem? (by rw [lens_at hr, hz]))
        clear hc hr hz
        go_wp2_with (go_at_call 161; (with_reducible refine (HE.out _ _ _ _).mono ?_); rintro e w1 ⟨rfl, rfl⟩; rw [hz1])
        go_ret
        exact ⟨⟨_, rfl, HF.out⟩, rfl⟩
      · have hz1 : ((r.bs.length : Int) == 0) = false := by rw [beq_eq_false_iff_ne]; omega
        have HP2 := Lib.hid (show ∀ j r', j < k + 1 → L[j]? = some r' → r'.bs.length ≠ 0 from fun j r' h h' => by
          rcases Nat.lt_or_ge j k with h9 | h9
          · exact HP.out j r' h9 h'
          · obtain rfl : j = k := by omega
            rw [HRR.out] at h'
            injection h' with h'
            subst h'
            exact hz)
        clear hc hr hz
        go_wp2_with (go_at_call 161; (with_reducible refine (HE.out _ _ _ _).mono ?_); rintro e w1 ⟨rfl, rfl⟩; rw [hz1])
        go_roundw
        case rel => exact ⟨k + 1, by omega, by go_num, by first | rfl | trivial, HP2⟩
        case measure => simp [intOf]; omega
    · have hkn : k = n := by omega
      subst hkn
      have HF := Lib.hid (show decide (0 ≤ (-1 : Int)) = decide (0 ∈ lens L) from by
        rw [decide_eq_false (by omega : ¬ 0 ≤ (-1 : Int)), eq_comm, decide_eq_false_iff_not]
        intro hm
        obtain ⟨j, hj⟩ := List.getElem?_of_mem hm
        have hj2 : j < L.length := by have := (List.getElem?_eq_some_iff.1 hj).1; rwa [length_lens] at this
        have h9 := List.getElem?_eq_getElem hj2
        rw [lens_at h9] at hj
        injection hj with hj
        exact HP.out j _ (by rw [← HL.out]; exact hj2) h9 hj)
      go_wp2
      go_ret
      exact ⟨⟨_, rfl, HF.out⟩, rfl⟩
theorem gcontains_any {A : Option Addr} {L : List RowB} (n cap : Nat) (w : World) (hL : L.length = n) (hn : n ≤ 1000) (hs : RSrc w A L) :
    Calls Try.prog 162 #[.slice A n cap, .func (.func 161) #[] #[]] w fun e w' => e = .returned (.bool (decide (0 ∈ lens L))) ∧ w = w' := by
  have HI := Lib.hid (gidx_any n cap w hL hn hs)
  generalize decide (0 ∈ lens L) = z at *
  clear hs hL
  go_enter Try.func162, Try.ntmps162
  go_wp2_with (go_at_call 191; (with_reducible refine (HI.out).mono ?_); rintro e w1 ⟨⟨i, rfl, hi⟩, rfl⟩; (have HZ := Lib.hid hi; clear hi))
  go_ret
  exact ⟨by rw [← HZ.out]; rfl, rfl⟩
/-- what is handed in may be -/
def okG (fi : Int) (ls : List Nat) : Bool := decide (0 ≤ fi) && decide (fi ≤ 3) && decide (0 < ls.length) && decide (ls.length ≤ 24) && !decide (0 ∈ ls)
set_option maxRecDepth 100000 in
set_option maxHeartbeats 1600000 in
theorem gfault_any {p : Nat} {u v : Value} {A : Option Addr} {L : List RowB} (fi : Int) (n cap : Nat) (w : World) (hr : Row w p 185 #[.bool true, u, v]) (hL : L.length = n) (hn : n ≤ 1000) (hs : RSrc w A L) :
    Calls Try.prog 120 #[.pointer (some ⟨p, 0, none⟩), .int .i64 fi, .slice A n cap] w fun e w' => e = .returned (.int .i64 (if okG fi (lens L) then 0 else 1)) ∧ w = w' := by
  have HC := Lib.hid (gcontains_any n cap w hL hn hs)
  have c0 := hr.read (i := 0) rfl
  have HK := Lib.hid (show okG fi (lens L) = (decide (0 ≤ fi) && decide (fi ≤ 3) && decide (0 < n) && decide (n ≤ 24) && !decide (0 ∈ lens L)) by unfold okG; rw [length_lens, hL])
  rw [HK.out]
  generalize decide (0 ∈ lens L) = z at *
  clear hs hL hr HK
  by_cases h0 : 0 ≤ fi
  · by_cases h3 : fi ≤ 3
    · rw [decide_eq_true h0, decide_eq_true h3]
      have h0' : ¬ fi < 0 := by omega
      have h3' : ¬ 3 < fi := by omega
      by_cases hn0 : 0 < n
      · have hz : ((n : Int) == 0) = false := by simp; omega
        by_cases h24 : n ≤ 24
        · rw [decide_eq_true hn0, decide_eq_true h24]
          have h24' : ¬ (24 : Int) < (n : Int) := by omega
          cases z
          · go_enter Try.func120, Try.ntmps120
            go_wp2_with (go_at_call 162; (with_reducible refine (HC.out).mono ?_); rintro e w1 ⟨rfl, rfl⟩)
            go_ret
            exact ⟨rfl, rfl⟩
          · go_enter Try.func120, Try.ntmps120
            go_wp2_with (go_at_call 162; (with_reducible refine (HC.out).mono ?_); rintro e w1 ⟨rfl, rfl⟩)
            go_ret
            exact ⟨rfl, rfl⟩
        · rw [decide_eq_false h24]
          have h24' : (24 : Int) < (n : Int) := by omega
          simp only [Bool.and_false, Bool.false_and, if_neg (show ¬ (false = true) by decide)]
          go_enter Try.func120, Try.ntmps120
          go_wp2
          go_ret
          exact ⟨rfl, rfl⟩
      · rw [decide_eq_false hn0]
        have hz : ((n : Int) == 0) = true := by simp; omega
        simp only [Bool.and_false, Bool.false_and, if_neg (show ¬ (false = true) by decide)]
        go_enter Try.func120, Try.ntmps120
        go_wp2
        go_ret
        exact ⟨rfl, rfl⟩
    · rw [decide_eq_false h3]
      have h0' : ¬ fi < 0 := by omega
      have h3' : 3 < fi := by omega
      simp only [Bool.and_false, Bool.false_and, if_neg (show ¬ (false = true) by decide)]
      go_enter Try.func120, Try.ntmps120
      go_wp2
      go_ret
      exact ⟨rfl, rfl⟩
  · rw [decide_eq_false h0]
    have h0' : fi < 0 := by omega
    simp only [Bool.false_and, if_neg (show ¬ (false = true) by decide)]
    go_enter Try.func120, Try.ntmps120
    go_wp2
    go_ret
    exact ⟨rfl, rfl⟩
end Go.Proofs.Ytjobgnemklpiaaa
