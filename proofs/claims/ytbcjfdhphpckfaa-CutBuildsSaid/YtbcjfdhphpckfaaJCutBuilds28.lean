/-
  What cut answers to fixed calls. glue: what is held, what is lost, what is told: plain lists. glue: a glue in memory; its small calls. glue: a field comes. glue: a field comes, and what is whole is told. glue: what one field of a packet does. glue: all fields of a packet, one by one. glue: what may not be. glue: fields are put together. glue: what was told stays; literal fields. What a config is, and bytes that a queue keeps. queue: the code's queue and the document's one together: made; what an entry's bytes read as. CutBuilds: the walk. A law's row follows from its walk: the call returns true, and below the heap's old size the world is as it was; then every argument reads as it did.
-/
import Derived.Test.YtbcjfdhphpckfaaJCutBuilds24
import Derived.Test.YtbcjfdhphpckfaaJCutBuilds01
import Derived.Test.YtbcjfdhphpckfaaJCutBuilds19
import Derived.Test.YtbcjfdhphpckfaaJCutBuilds03
import Derived.Test.YtbcjfdhphpckfaaJCutBuilds10
import Derived.Test.YtbcjfdhphpckfaaJCutBuilds18
import Derived.Test.YtbcjfdhphpckfaaJCutBuilds27
import Derived.Deep.DeepCutAuto
import Derived.Deep.CutBlock
import Derived.Test.YtbcjfdhphpckfaaRows
import Derived.WalkKit
import Derived.ProofKit
import Derived.OpenShut
namespace Go.Proofs.Ytbcjfdhphpckfaa
open Go.RowKit

theorem three_texts {t1 t2 t3 : Txt} (h1 : t1.bs = [97, 98]) (h2 : t2.bs = [99]) (h3 : t3.bs = [100, 101, 102]) : lenT ([] ++ [t1] ++ [t2] ++ [t3]) = [2, 1, 3] := by
  simp [lenT, h1, h2, h3]
set_option maxRecDepth 100000 in
set_option maxHeartbeats 6400000 in
theorem calive_any (w : World) : Calls Try.prog 30 #[] w fun e w' => e = .returned (.bool true) ∧ Below w.heap.size w w' := by
  have kc1 := fun w => Lib.run_convert_bytes_const (P := Try.prog) w 34 5 #[.int .u8 97, .int .u8 98] 2 2 Try.underlying34 Try.underlying5
  have kc2 := fun w => Lib.run_convert_bytes_const (P := Try.prog) w 34 5 #[.int .u8 99] 1 1 Try.underlying34 Try.underlying5
  have kc3 := fun w => Lib.run_convert_bytes_const (P := Try.prog) w 34 5 #[.int .u8 100, .int .u8 101, .int .u8 102] 3 3 Try.underlying34 Try.underlying5
  go_enter Try.func30, Try.ntmps30
  go_wp2_with fail
  refine (qnew_any w.heap.size 100 w (Nat.le_refl _) (by omega) (by omega)).mono ?_
  rintro e w1 ⟨rfl, hq1, hb1⟩
  generalize hp : w.heap.size = p at *
  have HP := Lib.hid hp
  have HQ1 := Lib.hid (QS.start hq1 (by omega))
  have HB1 := Lib.hid hb1
  have HP1 : Hid (Calls Try.prog 15 #[.pointer (some ⟨p, 0, none⟩), .slice (some ⟨w1.heap.size, 0, none⟩) 2 2] (w1.alloc (.cells #[.int .u8 97, .int .u8 98] 5 (2, 3))) fun e w' => e = .returned (.tuple #[.int .u64 1, .int .i64 0]) ∧ (∃ t : Txt, t.id = 1 ∧ t.bs = [97, 98] ∧ t.bg = false ∧ QS p p 100 w' 1 ([] ++ [t])) ∧ Below p w1 w') :=
    Lib.hid (cpush_const HQ1.out [97, 98] 2 (2, 3) rfl (by omega) (by omega) (by omega) (by omega) (by omega) (by simp) (by simp [bytesF]) (by simp))
  clear hq1 hb1 hp
  go_wp2_with fail
  refine HP1.out.mono ?_
  rintro e w2 ⟨rfl, ⟨t1, i1, b1, g1, hq2⟩, hb2⟩
  have HT1 := Lib.hid (And.intro i1 (And.intro b1 g1))
  have HQ2 := Lib.hid hq2
  have HB2 := Lib.hid (HB1.out.trans hb2)
  have HP2 : Hid (Calls Try.prog 15 #[.pointer (some ⟨p, 0, none⟩), .slice (some ⟨w2.heap.size, 0, none⟩) 1 1] (w2.alloc (.cells #[.int .u8 99] 5 (1, 2))) fun e w' => e = .returned (.tuple #[.int .u64 2, .int .i64 0]) ∧ (∃ t : Txt, t.id = 2 ∧ t.bs = [99] ∧ t.bg = false ∧ QS p p 100 w' 2 ([] ++ [t1] ++ [t])) ∧ Below p w2 w') :=
    Lib.hid (cpush_const HQ2.out [99] 1 (1, 2) rfl (by omega) (by omega) (by omega) (by omega) (by omega) (by simp) (by simp [bytesF, b1]) (by simp))
  clear i1 b1 g1 hq2 hb2
  go_wp2_with fail
  refine HP2.out.mono ?_
  rintro e w3 ⟨rfl, ⟨t2, i2, b2, g2, hq3⟩, hb3⟩
  have HT2 := Lib.hid (And.intro i2 (And.intro b2 g2))
  have HQ3 := Lib.hid hq3
  have HB3 := Lib.hid (HB2.out.trans hb3)
  have HP3 : Hid (Calls Try.prog 15 #[.pointer (some ⟨p, 0, none⟩), .slice (some ⟨w3.heap.size, 0, none⟩) 3 3] (w3.alloc (.cells #[.int .u8 100, .int .u8 101, .int .u8 102] 5 (3, 4))) fun e w' => e = .returned (.tuple #[.int .u64 3, .int .i64 0]) ∧ (∃ t : Txt, t.id = 3 ∧ t.bs = [100, 101, 102] ∧ t.bg = false ∧ QS p p 100 w' 3 ([] ++ [t1] ++ [t2] ++ [t])) ∧ Below p w3 w') :=
    Lib.hid (cpush_const HQ3.out [100, 101, 102] 3 (3, 4) rfl (by omega) (by omega) (by omega) (by omega) (by omega) (by simp) (by simp [bytesF, HT1.out.2.1, b2]) (by simp))
  clear i2 b2 g2 hq3 hb3
  go_wp2_with fail
  refine HP3.out.mono ?_
  rintro e w4 ⟨rfl, ⟨t3, i3, b3, g3, hq4⟩, hb4⟩
  have HT3 := Lib.hid (And.intro i3 (And.intro b3 g3))
  have HQ4 := Lib.hid hq4
  have HB4 := Lib.hid (HB3.out.trans hb4)
  have HBU1 := Lib.hid (hq4.build_is 5 11 (by omega) (by decide) 2 (-1) (by rw [three_texts HT1.out.2.1 HT2.out.2.1 b3]; exact bld3) (by omega))
  clear i3 b3 g3 hq4 hb4
  go_wp2_with fail
  refine HBU1.out.mono ?_
  rintro e w5 ⟨ts5, A5, D5, L5, rfl, hr5, hq5, ho5, htx5, ⟨c5, hn5⟩, d5, hi5⟩
  have h5 : headBg ([] ++ [t1] ++ [t2] ++ [t3]) = false := by
    simp only [List.nil_append, List.cons_append, headBg]
    exact HT1.out.2.2
  have e5 : fiT ([] ++ [t1] ++ [t2] ++ [t3]) (-1) = 0 := by rw [fiT_zero h5 (by omega)]; rfl
  clear h5
  have l5 : L5.length = 2 := by
    have := congrArg List.length htx5
    rw [length_texts] at this
    simpa [fieldsT] using this
  have s5 : ts5 = [t3] := by
    rcases hr5 with ⟨_, h⟩ | ⟨h, _⟩
    · simpa using h
    · omega
  subst s5
  rw [e5, l5]
  have HL5 := Lib.hid (show lens L5 = [2, 1] by
    rw [lens_fieldsT htx5 (.inl (by omega)), three_texts HT1.out.2.1 HT2.out.2.1 HT3.out.2.1]
    decide)
  have HN5 := Lib.hid hn5
  have HLL := Lib.hid l5
  have hbx5 := bl_alloc (Below.refl w5.heap.size w5) (.cells #[.int .i64 0, .slice A5 2 2, .slice D5 2 2] 58)
  have HR5 := Lib.hid (Row.made w5 58 #[.int .i64 0, .slice A5 2 2, .slice D5 2 2])
  have HQ5 := Lib.hid (hq5.later hbx5)
  have HO5 := Lib.hid ((HB4.out.trans (ho5.below HQ4.out.q.2.1)).trans (hbx5.mono hq5.q.2.1))
  have HNX5 := Lib.hid (hn5.later hbx5)
  have HBU2 := Lib.hid (HQ5.out.build_is 2 11 (by omega) (by decide) 0 2 (by rw [show lenT [t3] = [3] by simp [lenT, HT3.out.2.1]]; exact bld1) (by omega))
  clear hr5 hq5 ho5 htx5 hn5 hi5 e5 l5 hbx5
  go_wp2_with fail
  refine HBU2.out.mono ?_
  rintro e w6 ⟨ts6, A6, D6, L6, rfl, hr6, hq6, ho6, htx6, ⟨c6, hn6⟩, d6, hi6⟩
  have e6 : fiT [t3] 2 = 1 := by rw [fiT_pos (ts := [t3]) (b := false) (n := 2) (show t3.bg = false from HT3.out.2.2) (by omega)]; rfl
  have l6 : L6.length = 1 := by
    have := congrArg List.length htx6
    rw [length_texts] at this
    simpa [fieldsT] using this
  obtain ⟨t4, s6, b4, g4⟩ : ∃ t4, ts6 = [t4] ∧ t4.bs = [102] ∧ t4.bg = true := by
    rcases hr6 with ⟨h, _⟩ | ⟨_, t, t', k1, k2, k3, k4, k5⟩
    · omega
    · simp at k1
      subst k1
      refine ⟨t', by simpa using k5, ?_, k4.1⟩
      rw [k3, HT3.out.2.1]
      rfl
  subst s6
  rw [e6, l6]
  have HT4 := Lib.hid (And.intro b4 g4)
  have hbx6 := bl_alloc (Below.refl w6.heap.size w6) (.cells #[.int .i64 1, .slice A6 1 1, .slice D6 0 0] 58)
  have HR6 := Lib.hid (Row.made w6 58 #[.int .i64 1, .slice A6 1 1, .slice D6 0 0])
  have HR56 := Lib.hid ((ho6.row HR5.out (by decide) (by decide)).later hbx6)
  have HNX6 := Lib.hid ((HNX5.out.q ho6).later hbx6)
  have HQ6 := Lib.hid (hq6.later hbx6)
  have HO6 := Lib.hid ((HO5.out.trans (ho6.below HQ5.out.q.2.1)).trans (hbx6.mono hq6.q.2.1))
  have HBU3 := Lib.hid (HQ6.out.build_is 9 11 (by omega) (by decide) 1 0 (by rw [show lenT [t4] = [1] by simp [lenT, b4]]; exact bld2) (by omega))
  clear hr6 hq6 ho6 htx6 hn6 hi6 e6 l6 hbx6 b4 g4
  go_wp2_with fail
  refine HBU3.out.mono ?_
  rintro e w7 ⟨ts7, A7, D7, L7, rfl, hr7, hq7, ho7, htx7, ⟨c7, hn7⟩, d7, hi7⟩
  have e7 : fiT [t4] 0 = 2 := by rw [fiT_zero (ts := [t4]) (b := true) (n := 0) (show t4.bg = true from HT4.out.2) (by omega)]; rfl
  have l7 : L7.length = 1 := by
    have := congrArg List.length htx7
    rw [length_texts] at this
    simpa [fieldsT] using this
  have s7 : ts7 = [] := by
    rcases hr7 with ⟨_, h⟩ | ⟨h, _⟩
    · simpa using h
    · omega
  subst s7
  rw [e7, l7]
  have hbx7 := bl_alloc (Below.refl w7.heap.size w7) (.cells #[.int .i64 2, .slice A7 1 1, .slice D7 1 1] 58)
  have HR7 := Lib.hid (Row.made w7 58 #[.int .i64 2, .slice A7 1 1, .slice D7 1 1])
  have HR57 := Lib.hid ((ho7.row HR56.out (by decide) (by decide)).later hbx7)
  have HR67 := Lib.hid ((ho7.row HR6.out (by decide) (by decide)).later hbx7)
  have HNX7 := Lib.hid ((HNX6.out.q ho7).later hbx7)
  have HQ7 := Lib.hid (hq7.later hbx7)
  have HO7 := Lib.hid ((HO6.out.trans (ho7.below HQ6.out.q.2.1)).trans (hbx7.mono hq7.q.2.1))
  have HBU4 := Lib.hid (HQ7.out.build_none 9 11 (by omega) (by decide) 0 bld0 (by omega))
  clear hr7 hq7 ho7 htx7 hn7 hi7 e7 l7 hbx7
  go_wp2_with fail
  refine HBU4.out.mono ?_
  rintro e w8 ⟨rfl, hq8, ho8⟩
  have hbx8 := bl_alloc (Below.refl w8.heap.size w8) (.cells #[.int .i64 0, .slice none 0 0, .slice none 0 0] 58)
  have r5 := (ho8.row HR57.out (by decide) (by decide)).later hbx8
  have r6 := (ho8.row HR67.out (by decide) (by decide)).later hbx8
  have r7 := (ho8.row HR7.out (by decide) (by decide)).later hbx8
  have a0 := r5.read (i := 0) (x := .int .i64 0) rfl
  have a1 := r5.read (i := 1) (x := .slice A5 2 2) rfl
  have a2 := r5.read (i := 2) (x := .slice D5 2 2) rfl
  have b0 := r6.read (i := 0) (x := .int .i64 1) rfl
  have b2 := r6.read (i := 2) (x := .slice D6 0 0) rfl
  have d0 := r7.read (i := 0) (x := .int .i64 2) rfl
  have d2 := r7.read (i := 2) (x := .slice D7 1 1) rfl
  have HO8 := Lib.hid ((HO7.out.trans (ho8.below HQ7.out.q.2.1)).trans (hbx8.mono hq8.q.2.1))
  have hcb := cutbytes_any (D := D5) 0 11 2 2 2 2 (w8.alloc (.cells #[.int .i64 0, .slice none 0 0, .slice none 0 0] 58)) HLL.out (by omega) ((HNX7.out.q ho8).later hbx8).src (by rw [HL5.out]; decide)
  rw [HL5.out, show bytesC [2, 1] 11 = 5 by decide] at hcb
  have HCB := Lib.hid hcb
  have HS8 := Lib.hid (Nat.le_trans hq8.q.2.1 hbx8.size)
  clear r5 r6 r7 hq8 ho8 hbx8 hcb
  go_wp2_with (go_at_call 35; (with_reducible refine HCB.out.mono ?_); rintro e w10 ⟨rfl, hb10⟩; (have HB10 := Lib.hid hb10; clear hb10))
  go_ret
  rw [HP.out]
  exact ⟨rfl, HO8.out.trans (HB10.out.mono HS8.out)⟩
end Go.Proofs.Ytbcjfdhphpckfaa
namespace Go.Proofs.Ytbcjfdhphpckfaa
open Go.RowKit

/-- what a glue holds, and how many it lost -/
structure GS where
  held : List Nat
  lost : Nat
def GS.lose (s : GS) : GS := if s.held = [] then s else ⟨[], s.lost + 1⟩
def GS.come (s : GS) (f : List Nat) (b e : Bool) : GS :=
  if b then (if f.length ≤ 1000 then ⟨f, s.lose.lost⟩ else ⟨[], s.lose.lost + 1⟩)
  else if s.held = [] then (if e then ⟨[], s.lost + 1⟩ else s)
  else if s.held.length + f.length ≤ 1000 then ⟨s.held ++ f, s.lost⟩ else ⟨[], s.lost + 1⟩
def GS.told (s : GS) (e : Bool) : GS × List (List Nat) := if e then (if s.held = [] then (s, []) else (⟨[], s.lost⟩, [s.held])) else (s, [])
def beg (fi : Nat) (k : Nat) : Bool := decide (0 < k) || (fi / 2 % 2 == 0)
def fin (fi : Nat) (n k : Nat) : Bool := decide (k + 1 < n) || (fi % 2 == 0)
/-- fields come, from field k of n on -/
def goG (fi n : Nat) : Nat → List (List Nat) → GS → GS × List (List Nat)
  | _, [], s => (s, [])
  | k, f :: r, s =>
    let y := (s.come f (beg fi k) (fin fi n k)).told (fin fi n k)
    let z := goG fi n (k + 1) r y.1
    (z.1, y.2 ++ z.2)
def putG (fi : Nat) (fs : List (List Nat)) (gap : Bool) (s : GS) : GS × List (List Nat) := goG fi fs.length 0 fs (if gap then s.lose else s)
theorem GS.come_short (s : GS) (f : List Nat) (b e : Bool) (_h : s.held.length ≤ 1000) : (s.come f b e).held.length ≤ 1000 := by
  unfold GS.come
  repeat' split
  all_goals simp_all
theorem GS.lose_short (s : GS) (_h : s.held.length ≤ 1000) : s.lose.held.length ≤ 1000 := by
  unfold GS.lose
  split <;> simp_all
theorem GS.lose_lost (s : GS) : s.lost ≤ s.lose.lost ∧ s.lose.lost ≤ s.lost + 1 := by
  unfold GS.lose
  split <;> simp
theorem GS.come_lost (s : GS) (f : List Nat) (b e : Bool) : s.lost ≤ (s.come f b e).lost ∧ (s.come f b e).lost ≤ s.lost + 2 := by
  have := s.lose_lost
  unfold GS.come
  repeat' split
  all_goals simp_all
  all_goals omega
end Go.Proofs.Ytbcjfdhphpckfaa
namespace Go.Proofs.Ytbcjfdhphpckfaa
open Go.RowKit

def GS1 (p : Nat) (hv : Value) (k : Nat) : Prop := k = p ∨ hv.ownBlock = some k
def GNext (w : World) (hv hv' : Value) : Prop := ∀ k, hv'.ownBlock = some k → hv.ownBlock = some k ∨ w.heap.size ≤ k
theorem GNext.refl (w : World) (hv : Value) : GNext w hv hv := fun _ h => .inl h
theorem GNext.nil (w : World) (hv : Value) : GNext w hv (.slice none 0 0) := fun _ h => by simp [Value.ownBlock] at h
theorem ownY_nil (B : Nat) (w : World) : OwnY B w (.slice none 0 0) [] := ⟨by simp [bts], .inl ⟨rfl, rfl⟩⟩
theorem set_only {w : World} {p : Nat} (i : Nat) (x : Value) : Only (fun k => k = p) w (w.setCell ⟨p, i, none⟩ x) := (Only.refl (fun k => k = p) w).set (p := ⟨p, i, none⟩) (.inl rfl) x
theorem held_len {s : GS} : s.held = [] ↔ s.held.length = 0 := by simp
end Go.Proofs.Ytbcjfdhphpckfaa
namespace Go.Proofs.Ytbcjfdhphpckfaa
open Go.RowKit

section
variable {B p : Nat} {w : World} {hv : Value} {s : GS}
end
theorem lose_held (s : GS) : s.lose.held = [] := by
  unfold GS.lose
  split
  · assumption
  · rfl
section
variable {B p : Nat} {w : World} {hv : Value} {s : GS} {F : Option Addr} {f : List Nat}
end
end Go.Proofs.Ytbcjfdhphpckfaa
namespace Go.Proofs.Ytbcjfdhphpckfaa
open Go.RowKit

theorem clipb_any {A : Option Addr} (n c : Nat) (w : World) (hc : n ≤ c) : Calls Try.prog 259 #[.slice A n c] w fun e w' => e = .returned (.slice A n n) ∧ w = w' := by
  cases A with
  | none =>
    go_enter Try.func259, Try.ntmps259
    go_wp2
    go_ret
    exact ⟨rfl, rfl⟩
  | some a =>
    go_enter Try.func259, Try.ntmps259
    go_wp2
    go_ret
    exact ⟨rfl, rfl⟩
theorem own_rows_apart {w : World} {B B' e e' z z' n n' : Nat} {v v' : Value} {xs xs' : List Value} (h : w.ownsRow B e z v n xs) (h' : w.ownsRow B' e' z' v' n' xs') (hne : e ≠ e') : ∀ k, v.ownBlock = some k → v'.ownBlock ≠ some k := by
  intro k hk
  rcases h.2 with ⟨rfl, _⟩ | ⟨g, cap, cur, rfl, _, hh, _⟩
  · simp [Value.ownBlock] at hk
  · have e1 : g = k := by simpa [Value.ownBlock] using hk
    subst e1
    exact own_apart h' (show Row w g e cur from hh) (fun e => hne e.symm)
/-- a text that was told: its bytes lie in a block that is not the held one -/
def TOk (B : Nat) (w : World) (hv : Value) (r : RowB) : Prop := ∃ (g : Nat) (cs : Array Value), r.A = some ⟨g, 0, none⟩ ∧ B ≤ g ∧ hv.ownBlock ≠ some g ∧ r.bs.length ≤ r.cap ∧ r.cap ≤ 9223372036854775807 ∧ Row w g 5 cs ∧ ∀ (j b : Nat), r.bs[j]? = some b → cs[j]? = some (Value.int .u8 (b : Nat))
theorem add_pl (b o j : Nat) : (⟨b, o, none⟩ : Addr).add j = ⟨b, o + j, none⟩ := by
  unfold Addr.add
  split
  · rename_i h
    subst h
    rfl
  · rfl
theorem TOk.src {B : Nat} {w : World} {hv : Value} {r : RowB} (h : TOk B w hv r) : Src w r.A (bts r.bs) := by
  obtain ⟨g, cs, h1, _, _, _, _, h4, h5⟩ := h
  intro _
  refine ⟨⟨g, 0, none⟩, h1, fun j u hu => ?_⟩
  have hj : j < r.bs.length := by have := (List.getElem?_eq_some_iff.1 hu).1; rw [length_bts] at this; exact this
  have hb := bts_at (List.getElem?_eq_getElem hj)
  rw [hu] at hb
  injection hb with hb
  rw [hb, add_pl, Nat.zero_add]
  exact h4.read (h5 j _ (List.getElem?_eq_getElem hj))
theorem TOk.step {B : Nat} {w v : World} {hv hv' : Value} {r : RowB} {S : Nat → Prop} (h : TOk B w hv r) (ho : Only S w v) (hS : ∀ g cs, Row w g 5 cs → hv.ownBlock ≠ some g → ¬ S g) (hg : GNext w hv hv') : TOk B v hv' r := by
  obtain ⟨g, cs, h1, h2, h3, h4, h5, h6, h7⟩ := h
  refine ⟨g, cs, h1, h2, fun e => ?_, h4, h5, h6.only ho (hS g cs h6 h3), h7⟩
  have := h6.inside
  rcases hg g e with h9 | h9
  · exact h3 h9
  · omega
def GS2 (p tb : Nat) (hv tv : Value) (k : Nat) : Prop := (k = p ∨ hv.ownBlock = some k) ∨ k = tb ∨ tv.ownBlock = some k
end Go.Proofs.Ytbcjfdhphpckfaa
namespace Go.Proofs.Ytbcjfdhphpckfaa
open Go.RowKit

theorem Only.draw {w : World} {S : Nat → Prop} : Only S w w.drew := Only.drew (Only.refl _ _)
theorem told_no {s : GS} (h : s.held = []) (e : Bool) : s.told e = (s, []) := by
  unfold GS.told
  rw [if_pos h]
  cases e <;> rfl
theorem told_yes {s : GS} (h : s.held ≠ []) : s.told true = (⟨[], s.lost⟩, [s.held]) := by
  unfold GS.told
  rw [if_neg h]
  rfl
end Go.Proofs.Ytbcjfdhphpckfaa
namespace Go.Proofs.Ytbcjfdhphpckfaa
open Go.RowKit

end Go.Proofs.Ytbcjfdhphpckfaa
namespace Go.Proofs.Ytbcjfdhphpckfaa
open Go.RowKit

/-- what is handed in may be -/
def okG (fi : Int) (ls : List Nat) : Bool := decide (0 ≤ fi) && decide (fi ≤ 3) && decide (0 < ls.length) && decide (ls.length ≤ 24) && !decide (0 ∈ ls)
end Go.Proofs.Ytbcjfdhphpckfaa
namespace Go.Proofs.Ytbcjfdhphpckfaa
open Go.RowKit

theorem told_lost (s : GS) (e : Bool) : (s.told e).1.lost = s.lost := by
  unfold GS.told
  split
  · split <;> rfl
  · rfl
theorem told_short (s : GS) (e : Bool) (h : s.held.length ≤ 1000) : (s.told e).1.held.length ≤ 1000 := by
  unfold GS.told
  split
  · split <;> simp_all
  · exact h
theorem told_one (s : GS) (e : Bool) : (s.told e).2.length ≤ 1 := by
  unfold GS.told
  split
  · split <;> simp
  · simp
theorem clipr_any {A : Option Addr} (n c : Nat) (w : World) (hc : n ≤ c) : Calls Try.prog 116 #[.slice A n c] w fun e w' => e = .returned (.slice A n n) ∧ w = w' := by
  cases A with
  | none =>
    go_enter Try.func116, Try.ntmps116
    go_wp2
    go_ret
    exact ⟨rfl, rfl⟩
  | some a =>
    go_enter Try.func116, Try.ntmps116
    go_wp2
    go_ret
    exact ⟨rfl, rfl⟩
/-- the state, and what was told, behind field k -/
def goTo (fi n : Nat) (fs : List (List Nat)) (s : GS) : Nat → GS × List (List Nat)
  | 0 => (s, [])
  | k + 1 =>
    let z := goTo fi n fs s k
    let y := (z.1.come (fs.getD k []) (beg fi k) (fin fi n k)).told (fin fi n k)
    (y.1, z.2 ++ y.2)
theorem goTo_split (fi n : Nat) (fs : List (List Nat)) (s : GS) : ∀ k j, k + j = fs.length → ((goG fi n k (fs.drop k) (goTo fi n fs s k).1).1, (goTo fi n fs s k).2 ++ (goG fi n k (fs.drop k) (goTo fi n fs s k).1).2) = goTo fi n fs s fs.length := by
  intro k j
  induction j generalizing k with
  | zero =>
    intro h
    have e : fs.length = k := by omega
    rw [List.drop_of_length_le (by omega), e]
    simp [goG]
  | succ j ih =>
    intro h
    have hk : k < fs.length := by omega
    have e : fs.drop k = fs.getD k [] :: fs.drop (k + 1) := by
      rw [List.drop_eq_getElem_cons hk, List.getD_eq_getElem?_getD, List.getElem?_eq_getElem hk]
      rfl
    rw [← ih (k + 1) (by omega), e]
    simp only [goG, goTo, List.append_assoc]
theorem goTo_all (fi n : Nat) (fs : List (List Nat)) (s : GS) : goTo fi n fs s fs.length = goG fi n 0 fs s := by
  have h := goTo_split fi n fs s 0 fs.length (by omega)
  rw [← h]
  simp [goTo]
theorem goTo_facts (fi n : Nat) (fs : List (List Nat)) (s : GS) (hs : s.held.length ≤ 1000) (k : Nat) : (goTo fi n fs s k).1.held.length ≤ 1000 ∧ (goTo fi n fs s k).1.lost ≤ s.lost + 2 * k ∧ (goTo fi n fs s k).2.length ≤ k := by
  induction k with
  | zero => exact ⟨hs, by simp [goTo], by simp [goTo]⟩
  | succ k ih =>
    obtain ⟨h1, h2, h3⟩ := ih
    simp only [goTo]
    refine ⟨told_short _ _ (GS.come_short _ _ _ _ h1), ?_, ?_⟩
    · rw [told_lost]
      have := (goTo fi n fs s k).1.come_lost (fs.getD k []) (beg fi k) (fin fi n k)
      omega
    · rw [List.length_append]
      have := told_one ((goTo fi n fs s k).1.come (fs.getD k []) (beg fi k) (fin fi n k)) (fin fi n k)
      omega
theorem come_bytes {s : GS} {f : List Nat} {b e : Bool} (h : ∀ x ∈ s.held, x < 256) (hf : ∀ x ∈ f, x < 256) : ∀ x ∈ (s.come f b e).held, x < 256 := by
  unfold GS.come
  repeat' split
  all_goals simp_all
  all_goals (intro x hx; exact hx.elim (h x) (hf x))
theorem told_bytes {s : GS} {e : Bool} (h : ∀ x ∈ s.held, x < 256) : (∀ x ∈ (s.told e).1.held, x < 256) ∧ ∀ t ∈ (s.told e).2, ∀ x ∈ t, x < 256 := by
  unfold GS.told
  split
  · split
    · exact ⟨h, by simp⟩
    · exact ⟨by simp, by simpa using h⟩
  · exact ⟨h, by simp⟩
theorem goTo_bytes (fi n : Nat) (fs : List (List Nat)) (s : GS) (hs : ∀ x ∈ s.held, x < 256) (hf : ∀ f ∈ fs, ∀ x ∈ f, x < 256) (k : Nat) : (∀ x ∈ (goTo fi n fs s k).1.held, x < 256) ∧ ∀ t ∈ (goTo fi n fs s k).2, ∀ x ∈ t, x < 256 := by
  induction k with
  | zero => exact ⟨hs, by simp [goTo]⟩
  | succ k ih =>
    simp only [goTo]
    have hk : ∀ x ∈ fs.getD k [], x < 256 := by
      rw [List.getD_eq_getElem?_getD]
      rcases Nat.lt_or_ge k fs.length with h | h
      · rw [List.getElem?_eq_getElem h]
        exact hf _ (List.getElem_mem h)
      · rw [List.getElem?_eq_none h]
        simp
    have h1 := told_bytes (e := fin fi n k) (come_bytes (b := beg fi k) (e := fin fi n k) ih.1 hk)
    refine ⟨h1.1, fun t ht => ?_⟩
    rw [List.mem_append] at ht
    rcases ht with ht | ht
    · exact ih.2 t ht
    · exact h1.2 t ht
theorem texts_getD {L : List RowB} {k : Nat} {r : RowB} (h : L[k]? = some r) : (texts L).getD k [] = r.bs := by
  rw [List.getD_eq_getElem?_getD, texts_at h]
  rfl
end Go.Proofs.Ytbcjfdhphpckfaa
namespace Go.Proofs.Ytbcjfdhphpckfaa
open Go.RowKit

/-- what was told lies in memory that the glue has left -/
def ToldIs (B : Nat) (w : World) (hv : Value) (A : Option Addr) (L : List RowB) : Prop :=
  (∃ C c, w.ownsRow C 34 1 (.slice A L.length c) L.length (L.map RowB.v)) ∧ ∀ r ∈ L, TOk B w hv r
theorem ToldIs.later {B : Nat} {w v : World} {hv : Value} {A : Option Addr} {L : List RowB} (h : ToldIs B w hv A L) (hb : Below w.heap.size w v) : ToldIs B v hv A L := by
  obtain ⟨⟨C, c, a4⟩, a5⟩ := h
  exact ⟨⟨C, c, own_later2 a4 hb⟩, fun r hr => (a5 r hr).step (S := fun _ => False) (.of_below hb) (fun _ _ _ _ h => h) (GNext.refl _ _)⟩
theorem ToldIs.src {B : Nat} {w : World} {hv : Value} {A : Option Addr} {L : List RowB} (h : ToldIs B w hv A L) (hb : ∀ t ∈ texts L, ∀ x ∈ t, x < 256) : RSrc w A L := by
  obtain ⟨⟨C, c, h4⟩, h5⟩ := h
  have hok : ∀ r ∈ L, r.ok w := fun r hr => by
    have h9 := h5 r hr
    obtain ⟨g, cs, _, _, _, k1, k2, _⟩ := id h9
    exact ⟨h9.src, k1, k2, hb r.bs (List.mem_map.2 ⟨r, hr, rfl⟩)⟩
  rcases h4.2 with ⟨e, h0⟩ | ⟨g, cap, cur, e, _, _, h1, _, _⟩
  · intro h9
    omega
  · injection e with e1 e2 e3
    subst e1
    exact fun _ => ⟨_, rfl, fun k r hr => ⟨h4.cells (g := g) rfl k _ (by rw [List.getElem?_map, hr]; rfl), hok r (List.mem_of_getElem? hr)⟩⟩
theorem texts_one {L : List RowB} {t : List Nat} (h : texts L = [t]) : ∃ r, L = [r] ∧ r.bs = t := by
  match L, h with
  | [r], h =>
    refine ⟨r, rfl, ?_⟩
    simpa [texts] using h
theorem texts_nil {L : List RowB} (h : texts L = []) : L = [] := by
  simpa [texts] using h
/-- a row, marked or not -/
def RowF (w : World) (g : Nat) (t : TypeId) (cs : Array Value) : Prop := ∃ fr, w.heap[g]? = some (.cells cs t fr)
theorem RowF.of {w : World} {g : Nat} {t : TypeId} {cs : Array Value} (h : Row w g t cs) : RowF w g t cs := ⟨_, h⟩
theorem RowF.inside {w : World} {g : Nat} {t : TypeId} {cs : Array Value} (h : RowF w g t cs) : g < w.heap.size := by
  obtain ⟨fr, h⟩ := h
  rcases Nat.lt_or_ge g w.heap.size with h1 | h1
  · exact h1
  · exfalso
    rw [Array.getElem?_eq_none h1] at h
    cases h
theorem RowF.made (w : World) (t : TypeId) (cs : Array Value) (fr : Nat × Nat) : RowF (w.alloc (.cells cs t fr)) w.heap.size t cs := ⟨fr, heap_alloc_new w _⟩
theorem RowF.made1 (w : World) (o : Obj) (t : TypeId) (cs : Array Value) (fr : Nat × Nat) : RowF ((w.alloc o).alloc (.cells cs t fr)) (w.heap.size + 1) t cs := by
  have h := RowF.made (w.alloc o) t cs fr
  have e : (w.alloc o).heap.size = w.heap.size + 1 := by simp
  rw [e] at h
  exact h
theorem RowF.only {S : Nat → Prop} {w v : World} {g : Nat} {t : TypeId} {cs : Array Value} (h : RowF w g t cs) (ho : Only S w v) (hg : ¬ S g) : RowF v g t cs := by
  have hi := h.inside
  obtain ⟨fr, h⟩ := h
  exact ⟨fr, (ho.same g hi hg).trans h⟩
theorem RowF.later {w v : World} {g : Nat} {t : TypeId} {cs : Array Value} (h : RowF w g t cs) (hb : Below w.heap.size w v) : RowF v g t cs := h.only (S := fun _ => False) (.of_below hb) (fun h => h)
theorem RowF.more {w : World} {g : Nat} {t : TypeId} {cs : Array Value} (h : RowF w g t cs) (o : Obj) : RowF (w.alloc o) g t cs := h.later (bl_alloc (Below.refl _ _) o)
theorem RowF.src {w : World} {g : Nat} {l : List Nat} (h : RowF w g 5 (bts l).toArray) : Src w (some ⟨g, 0, none⟩) (bts l) := fun _ => ⟨_, rfl, fun j u hu => by
  obtain ⟨fr, h⟩ := h
  rw [add_zero_addr]
  exact (cell_of_row w g j _ 5 fr h).trans (by rw [List.getElem?_toArray]; exact hu)⟩
theorem g_ok {w : World} {g : Nat} {l : List Nat} (h : RowF w g 5 (bts l).toArray) (hb : ∀ b ∈ l, b < 256) (hl : l.length ≤ 9223372036854775807) : RowB.ok w ⟨some ⟨g, 0, none⟩, l.length, l⟩ := ⟨h.src, Nat.le_refl _, hl, hb⟩
theorem g_rsrc {w : World} {g : Nat} {L : List RowB} (h : Row w g 34 (L.map RowB.v).toArray) (hok : ∀ r ∈ L, r.ok w) : RSrc w (some ⟨g, 0, none⟩) L := fun _ => ⟨_, rfl, fun k r hr => ⟨by
  rw [add_zero_addr]
  exact h.read (by rw [List.getElem?_toArray, List.getElem?_map, hr]; rfl), hok r (List.mem_of_getElem? hr)⟩⟩
end Go.Proofs.Ytbcjfdhphpckfaa
namespace Go.Proofs.Ytbcjfdhphpckfaa
open Go.RowKit

theorem RowF.q {B : Nat} {w v : World} {g : Nat} {t : TypeId} {cs : Array Value} (h : RowF w g t cs) (h1 : t ≠ 51) (h2 : t ≠ 177) (ho : QOnly B w v) : RowF v g t cs :=
  h.only ho (fun ⟨_, t', cs', hr, ht⟩ => by
    obtain ⟨fr, h⟩ := h
    unfold Row at hr
    rw [h] at hr
    injection hr with hr
    injection hr with _ hr
    subst hr
    rcases ht with ht | ht
    · exact h1 ht
    · exact h2 ht)
theorem qb_src {w : World} {g : Nat} {l : List Nat} (h : QBytes w g l) : Src w (some ⟨g, 0, none⟩) (bts l) := by
  obtain ⟨cs, h1, h2⟩ := h
  intro _
  refine ⟨_, rfl, fun j u hu => ?_⟩
  have hj : j < l.length := by have := (List.getElem?_eq_some_iff.1 hu).1; rw [length_bts] at this; exact this
  have hb := bts_at (List.getElem?_eq_getElem hj)
  rw [hu] at hb
  injection hb with hb
  rw [hb, add_zero_addr]
  exact h1.read (h2 j _ (List.getElem?_eq_getElem hj))
theorem qb_conv {w : World} {g : Nat} {l : List Nat} (n c : Nat) (hl : l.length = n) (h : QBytes w g l) (hb : ∀ b ∈ l, b < 256) : (convert 34 9 (.slice (some ⟨g, 0, none⟩) n c)).run Try.prog w = .ok (.string (strOf l)) w := conv_src n c hl (qb_src h) hb
def us1 : Cf := ⟨1, 5, 16, 4, 0, 0, 0, 0, 0, 5000⟩
theorem us1_any (w : World) : Calls Try.prog 140 #[.int .i64 1] w fun e w' => e = .returned (.agg us1.a) ∧ Below w.heap.size w w' := pusual_any 1 w
end Go.Proofs.Ytbcjfdhphpckfaa
namespace Go.Proofs.Ytbcjfdhphpckfaa
open Go.RowKit

section
variable {w v : World} {p y B : Nat} {room : Int} {ts r : List Txt} {t : Txt} {E : List Ent} {e : Ent}
theorem both_qnew (h : QRep B w p room 0 []) (h1 : 1 ≤ room) (h2 : room ≤ 20000) (hB : B ≤ w.heap.size) : QB (w.alloc (.cells #[.int .i64 room, .slice none 0 0, .slice none 0 0, .slice none 0 0] 33)) p w.heap.size B room [] [] := by
  have hb := bl_alloc (Below.refl w.heap.size w) (.cells #[.int .i64 room, .slice none 0 0, .slice none 0 0, .slice none 0 0] 33)
  refine ⟨h.later hb, ⟨⟨none, 0, none, 0, none, 0, Row.made w _ _, ⟨World.ownsRow_nil _ _ _ _, World.ownsRow_nil _ _ _ _, World.ownsRow_nil _ _ _ _⟩⟩, (fun e he => by cases he), by simp⟩, hB, Nat.le_trans hB hb.size, rfl, by omega, h2, by simp [bytesF]; omega, by simp, fun e he => by cases he⟩
/-- an entry's bytes from where it is taken on, the first n of them, as a string -/
theorem Ent.conv (h : e.ok B w) (hb : ∀ b ∈ e.bs, b < 256) (n c : Nat) (hn : e.tk + n ≤ e.bs.length) : (convert 34 9 (.slice (some ⟨e.g, e.tk, none⟩) n c)).run Try.prog w = .ok (.string (strOf ((e.bs.drop e.tk).take n))) w := by
  obtain ⟨e1, e2, e3, e4, e5, e6, e7, cs, e8, e9⟩ := h
  refine conv_src n c (by rw [List.length_take, List.length_drop]; omega) (qsrc_src fun _ => ⟨e.g, e.tk, rfl, fun j u hu => ?_⟩) (fun b hb' => hb b (List.mem_of_mem_drop (List.mem_of_mem_take hb')))
  unfold qbts at hu
  rw [List.getElem?_map] at hu
  obtain ⟨b, hb', rfl⟩ := Option.map_eq_some_iff.1 hu
  rw [List.getElem?_take] at hb'
  split at hb'
  · rw [List.getElem?_drop] at hb'
    exact e8.read (e9 _ _ hb')
  · cases hb'
theorem Ent.conv_rest (h : e.ok B w) (hb : ∀ b ∈ e.bs, b < 256) (c : Nat) : (convert 34 9 (.slice (some ⟨e.g, e.tk, none⟩) (e.bs.drop e.tk).length c)).run Try.prog w = .ok (.string (strOf (e.bs.drop e.tk))) w := by
  have h1 := Ent.conv h hb (e.bs.drop e.tk).length c (by rw [List.length_drop]; have := h.2.2.1; omega)
  rw [List.take_length] at h1
  exact h1
/-- a row of no type of either queue's stays -/
theorem KR.other {X : TypeId → Prop} (h : KR X B w v) {g : Nat} {t : TypeId} {cs : Array Value} (hr : Row w g t cs) (ht : ¬ X t) : Row v g t cs := h.rows g t cs hr ht
end
end Go.Proofs.Ytbcjfdhphpckfaa
namespace Go.Proofs.Ytbcjfdhphpckfaa
open Go.RowKit Go.Maps

section
theorem cb_start {w : World} {p B : Nat} (h : QRep B w p 20000 0 []) (hB : B ≤ w.heap.size) : CB (w.alloc (.cells #[.int .i64 20000, .slice none 0 0, .slice none 0 0, .slice none 0 0] 33)) p w.heap.size B [] [] := by
  have h1 := both_qnew h (by decide) (by decide) hB
  exact ⟨QS.start h1.c (by decide), h1.r, h1.hy, h1.hB, rfl, h1.b8⟩
theorem not_xq_13 : ¬ XQ 55 ∧ ¬ XQ 58 := by unfold XQ; decide
theorem opr_cells3 {w : World} {g : Nat} {x : Value} {a b : Int} (h : Row w g 55 #[x, .int .i64 a, .int .i64 b]) : w.cell? ⟨g, 0, none⟩ = some x ∧ w.cell? ⟨g, 1, none⟩ = some (.int .i64 a) ∧ w.cell? ⟨g, 2, none⟩ = some (.int .i64 b) := ⟨h.read rfl, h.read rfl, h.read rfl⟩
theorem pc_cells3 {w : World} {g t : Nat} {x y z : Value} (h : Row w g t #[x, y, z]) : w.cell? ⟨g, 0, none⟩ = some x ∧ w.cell? ⟨g, 1, none⟩ = some y ∧ w.cell? ⟨g, 2, none⟩ = some z := ⟨h.read rfl, h.read rfl, h.read rfl⟩
set_option maxRecDepth 100000 in
set_option maxHeartbeats 25600000 in
theorem cbuilds_every (A0 : Option Addr) (n0 c0 : Nat) (l0 : List OpR) (W : World) (hl0 : l0.length = n0) (hm0 : n0 ≤ 9223372036854775807) (hs0 : BSrc13 W A0 l0) :
    Calls Try.prog 4 #[.slice A0 n0 c0] W fun e w' => e = .returned (.bool true) ∧ Below W.heap.size W w' := by
  have HN := Lib.hid (qnew_any W.heap.size 20000 W (Nat.le_refl _) (by decide) (by decide))
  have HA := Lib.hid calive_any
  have HS0 := Lib.hid hs0
  have HL0 := Lib.hid hl0
  clear hs0 hl0
  go_enter Try.func4, Try.ntmps4
  go_wp2_with (go_at_call 13; (with_reducible refine HN.out.mono ?_); rintro e w1 ⟨rfl, hq, hb⟩; (
    have HBO := Lib.hid (cb_start hq hb.size)
    have HBY := Lib.hid (bl_alloc hb (.cells #[.int .i64 20000, .slice none 0 0, .slice none 0 0, .slice none 0 0] 33))
    clear hq hb))
  generalize hY : w1.heap.size = y at *
  clear hY
  go_loopw [6] (fun s6 wr => ∃ (i : Nat) (ts : List Txt) (E : List Ent), i ≤ 60 ∧ i ≤ n0 ∧ s6 = .int .i64 i ∧ Hid (CB wr W.heap.size y W.heap.size ts E) ∧ Hid (E.length ≤ i) ∧ Hid (Below W.heap.size W wr)) (fun s6 _ => 60 - (intOf s6).toNat)
  case atStart => exact ⟨0, [], [], by omega, by omega, rfl, HBO, Lib.hid (by simp), HBY⟩
  case round =>
    obtain ⟨i, ts, E, hi, hin, rfl, HBr, HEi, HWr⟩ := hrel
    by_cases hlt : i < n0 ∧ i < 60
    · obtain ⟨hlt1, hlt2⟩ := hlt
      have hi1 : (i : Int) < n0 := by omega
      have hi2 : (i : Int) < 60 := by omega
      have hi0 : (0 : Int) ≤ i := by omega
      have HI := Lib.hid (And.intro hlt1 hlt2)
      obtain ⟨o, ho⟩ : ∃ o, l0[i]? = some o := ⟨_, List.getElem?_eq_getElem (by rw [HL0.out]; exact hlt1)⟩
      obtain ⟨bq, off, rfl, hq⟩ := HS0.out (by rw [HL0.out]; omega)
      obtain ⟨q0, q1, q2, q3⟩ := hq i o ho
      have z0 := kept_box HWr.out q0
      have z1 := kept_box HWr.out q1
      have z2 := kept_box HWr.out q2
      obtain ⟨rb, ra, rw_⟩ := o
      obtain ⟨A3, c3, l3⟩ := rb
      simp only [RowB.v] at z0 z1 z2 q3
      have HR3 := Lib.hid q3
      obtain ⟨n3, hn3⟩ : ∃ n3, l3.length = n3 := ⟨_, rfl⟩
      rw [hn3] at z0
      have HN3 := Lib.hid hn3
      have HOB := Lib.hid (Row.made wr 55 #[.slice A3 n3 c3, .int .i64 ra, .int .i64 rw_])
      have HXo := Lib.hid (HBr.out.later (bl_alloc (Below.refl _ _) (.cells #[.slice A3 n3 c3, .int .i64 ra, .int .i64 rw_] 55)))
      have HWo := Lib.hid (bl_alloc HWr.out (.cells #[.slice A3 n3 c3, .int .i64 ra, .int .i64 rw_] 55))
      clear ho hq q0 q1 q2 q3 hlt1 hlt2 hi hin hn3
      go_upto_region 9 with fail
      generalize hQ : (wr.alloc (.cells #[.slice A3 n3 c3, .int .i64 ra, .int .i64 rw_] 55)) = wq at *
      clear hQ
      generalize hOO : wr.heap.size = oo at *
      clear hOO z0 z1 z2
      obtain ⟨d0, d1, d2⟩ := opr_cells3 HOB.out
      by_cases hlong : 1100 < n3
      · have hl1 : (1100 : Int) < n3 := by omega
        go_wp2_with (go_at_call 30; (with_reducible refine (HA.out _).mono ?_); rintro e w3 ⟨rfl, hb⟩; (have HB2 := Lib.hid hb; clear hb))
        go_ret
        exact ⟨rfl, bl_step HWo.out HB2.out⟩
      · have hl1 : ¬ (1100 : Int) < n3 := by omega
        clear hlong
        rcases Nat.eq_zero_or_pos n3 with h30 | h30
        · subst h30
          have HFT := Lib.hid (cb_fits ra rw_ HXo.out)
          generalize hfb : fitsC ts ra rw_ = fb at HFT
          have HFB := Lib.hid hfb
          clear hfb
          go_wp2_with (first
            | (go_at_call 31; (with_reducible refine HFT.out.mono ?_); rintro e w3 ⟨rfl, hk3, hc3⟩; (
                have HK3 := Lib.hid hk3; have HO3 := Lib.hid (hk3.other HOB.out not_xq_13.1); have hcb := cb_build ra rw_ hc3; rw [HFB.out] at hcb; have HCB := Lib.hid hcb; clear hk3 hc3 hcb d0 d1 d2; obtain ⟨d0, d1, d2⟩ := opr_cells3 HO3.out))
            | (go_at_call 32; (with_reducible refine HCB.out.mono ?_); rintro e w4 ⟨er, fi, A4, n4, D4, m4, rfl, hfe, hk4, hc4⟩; (
                have HK4 := Lib.hid hk4
                have hbx := bl_alloc (Below.refl w4.heap.size w4) (.cells #[.int .i64 fi, .slice A4 n4 n4, .slice D4 m4 m4] 58)
                have HBX := Lib.hid hbx
                have HO4 := Lib.hid ((hk4.other HO3.out not_xq_13.1).later hbx)
                have HP4 := Lib.hid (Row.made w4 58 #[.int .i64 fi, .slice A4 n4 n4, .slice D4 m4 m4])
                have HC4 := Lib.hid (hc4 _ hbx)
                clear hk4 hc4 hbx d0 d1 d2; obtain ⟨d0, d1, d2⟩ := opr_cells3 HO4.out))
            | (go_at_call 33; (with_reducible refine HC4.out.mono ?_); rintro e w5 ⟨A5, c5, D5, dc5, rfl, hk5, ⟨ts5, E5, hc5, hm5⟩, L5, M5, l5, hp5⟩; (
                have HK5 := Lib.hid hk5
                have hbx := bl_alloc (Below.refl w5.heap.size w5) (.cells #[.int .i64 fi, .slice A5 n4 c5, .slice D5 m4 dc5] 61)
                have HB5 := Lib.hid hbx
                have HP5 := Lib.hid ((hk5.other HP4.out not_xq_13.2).later hbx)
                have HR5 := Lib.hid (Row.made w5 61 #[.int .i64 fi, .slice A5 n4 c5, .slice D5 m4 dc5])
                have HC5 := Lib.hid (hc5.later hbx)
                have HM5 := Lib.hid hm5
                have HS5 := Lib.hid (csame_any fi n4 m4 c5 dc5 (hp5.later hbx))
                clear hk5 hc5 hm5 hp5 hbx d0 d1 d2; obtain ⟨f0, f1, f2⟩ := pc_cells3 HP5.out; obtain ⟨r0, r1, r2⟩ := pc_cells3 HR5.out))
            | (go_at_call 34; (with_reducible refine HS5.out.mono ?_); rintro e w6 ⟨rfl, hb6⟩; (have HB6 := Lib.hid hb6; have HCY := Lib.hid (cb_bytes (HC5.out.later hb6)); clear hb6))
            | (go_at_call 26; (with_reducible refine HCY.out.mono ?_); rintro e w7 ⟨rfl, hb7, hc7⟩; (have HB7 := Lib.hid hb7; have HC7 := Lib.hid hc7; clear hb7 hc7))
            | (go_at_call 27; (with_reducible refine HC7.out.mono ?_); rintro e w8 ⟨rfl, hb8⟩; (have HB8 := Lib.hid hb8; clear hb8)))
          go_roundw
          case rel => exact ⟨i + 1, ts5, E5, by have := HI.out.2; omega, by have := HI.out.1; omega, by go_num, Lib.hid (((HC5.out.later HB6.out).later HB7.out).later HB8.out), Lib.hid (by have := HM5.out; have := HEi.out; omega), Lib.hid (bl_step (bl_step (bl_step (bl_step ((bl_step ((HWo.out.trans HK3.out.below).trans HK4.out.below) HBX.out).trans HK5.out.below) HB5.out) HB6.out) HB7.out) HB8.out)⟩
          case measure => have := HI.out.2; simp [intOf]; omega
        · have h31 : (0 : Int) < n3 := by omega
          have hcc := cb_push A3 l3 c3 HXo.out (by have := HEi.out; have := HI.out.2; omega) (Nat.le_trans HR3.out.2.1 HR3.out.2.2.1) HR3.out.2.2.2 (fun W' hk => (src_qsrc HR3.out.1).later (HWo.out.trans hk.below))
          rw [HN3.out] at hcc
          have HN1 := Lib.hid hcc
          clear hcc
          go_wp2_with (first
            | (go_at_call 15; (with_reducible refine HN1.out.mono ?_); rintro e w3 ⟨⟨nid, er, rfl⟩, hk3, hc3⟩; (have HK3 := Lib.hid hk3; have HN2 := Lib.hid hc3; have HO3 := Lib.hid (hk3.other HOB.out not_xq_13.1); clear hk3 hc3 d0 d1 d2; obtain ⟨d0, d1, d2⟩ := opr_cells3 HO3.out))
            | (go_at_call 16; (with_reducible refine HN2.out.mono ?_); rintro e w4 ⟨⟨nid2, er2, rfl⟩, hk4, ts4, E4, hq4, hl4⟩; (have HK4 := Lib.hid hk4; have HQ4 := Lib.hid hq4; have HL4 := Lib.hid hl4; clear hk4 hq4 hl4 d0 d1 d2)))
          go_roundw
          case rel => exact ⟨i + 1, ts4, E4, by have := HI.out.2; omega, by have := HI.out.1; omega, by go_num, HQ4, Lib.hid (by have := HL4.out; have := HEi.out; omega), Lib.hid ((HWo.out.trans HK3.out.below).trans HK4.out.below)⟩
          case measure => have := HI.out.2; simp [intOf]; omega
    · have HB3 := Lib.hid (bl_alloc (Below.refl wr.heap.size wr) (.cells #[.int .i64 0, .int .u64 0, .slice none 0 0] 51))
      have HZ3 := Lib.hid (Row.made wr 51 #[.int .i64 0, .int .u64 0, .slice none 0 0])
      have HBY0 := Lib.hid (fun V => (by
        have h9 := cutbytes_any (A := none) (D := none) (L := []) 0 11 0 0 0 0 V rfl (by omega) (fun h => absurd h (by simp)) (by simp [lens])
        rw [show bytesC (lens []) 11 = 0 from rfl] at h9
        exact h9 : Calls Try.prog 35 #[.agg #[.int .i64 0, .slice none 0 0, .slice none 0 0], .int .i64 11] V fun e w' => e = .returned (.int .i64 0) ∧ Below V.heap.size V w'))
      rcases Nat.lt_or_ge i n0 with hc | hc
      all_goals
        first
          | (have hi1 : (i : Int) < n0 := (by omega); have hi2 : ¬ (i : Int) < 60 := (by omega))
          | (have hi1 : ¬ (i : Int) < n0 := (by omega))
        clear hlt hc hi hin
        go_wp2_with (first
          | (go_at_call 32; (with_reducible refine (cbuild_nil 5 11 _).mono ?_); rintro e w4 ⟨rfl, hb⟩; (have HZ4 := Lib.hid (HZ3.out.later hb); have HB4 := Lib.hid (bl_step HB3.out hb); have HZ4a := Lib.hid (HZ4.out.later (bl_alloc (Below.refl _ _) (.cells #[.int .i64 0, .slice none 0 0, .slice none 0 0] 58))); have HB4a := Lib.hid (bl_alloc HB4.out (.cells #[.int .i64 0, .slice none 0 0, .slice none 0 0] 58)); clear hb))
          | (go_at_call 32; (with_reducible refine (cbuild_zero 5 11 HZ4a.out).mono ?_); rintro e w5 ⟨rfl, hb⟩; (have HZ5 := Lib.hid (HZ4a.out.later hb); have HB5 := Lib.hid (bl_step HB4a.out hb); have HZ5a := Lib.hid (HZ5.out.later (bl_alloc (Below.refl _ _) (.cells #[.int .i64 0, .slice none 0 0, .slice none 0 0] 58))); have HB5a := Lib.hid (bl_alloc HB5.out (.cells #[.int .i64 0, .slice none 0 0, .slice none 0 0] 58)); clear hb))
          | (go_at_call 30; (with_reducible refine (HA.out _).mono ?_); rintro e w6 ⟨rfl, hb⟩; (have HB6 := Lib.hid (bl_step HB5a.out hb); have HZ6 := Lib.hid (HZ5a.out.later hb); clear hb))
          | (go_at_call 31; (with_reducible refine (cfits_nil 5 11 _).mono ?_); rintro e _ ⟨rfl, rfl⟩)
          | (go_at_call 31; (with_reducible refine (cfits_zero 5 11 HZ6.out).mono ?_); rintro e _ ⟨rfl, rfl⟩)
          | (go_at_call 35; (with_reducible refine (HBY0.out _).mono ?_); rintro e w9 ⟨rfl, hb⟩; (have HB9 := Lib.hid (bl_step HB6.out hb); clear hb)))
        go_ret
        exact ⟨rfl, bl_step HWr.out HB9.out⟩
end
end Go.Proofs.Ytbcjfdhphpckfaa
namespace Go.Proofs.Ytbcjfdhphpckfaa
open Go.ChangeShapes Go.WideShapes Go.ChangeAt Go.RowKit

theorem lawOwn : ownKnob Try.prog.godebug = none := by kernel_rfl
theorem lawLaid : laidOutB Try.prog = true := by kernel_rfl

section
variable {H : Type} {enc : TypeId × Value → H} {P : Program}
/-- what was read in the old world is read in the new one -/
theorem args_stay (hl : laidOutB P = true) {W W' : World} (hb : Below W.heap.size W W') : ∀ (ts : List TypeId) (vs : List Value) (ds : List (DataW H)) (ps : List MemPlace),
    (∀ t ∈ ts, P.readableRec t = true ∧ t < P.types.size) → DataW.TrodAll enc P W 0 (fun _ => true) true ts vs ds ps → (∀ x ∈ ps, x.block < W.heap.size) →
    DataW.TrodAll enc P W' 0 (fun b => decide (b < W.heap.size)) true ts vs ds ps := by
  intro ts
  induction ts with
  | nil =>
    intro vs ds ps _ h _
    obtain ⟨rfl, rfl, rfl⟩ := trodAll_nil h
    exact trodAll_mk0
  | cons t ts ih =>
    intro vs ds ps hr h hlt
    obtain ⟨v, vs', d, ds', p, q, rfl, rfl, rfl, h1, h2⟩ := trodAll_cons h
    have ht := hr t (List.mem_cons_self ..)
    exact trodAll_cons_mk (Below.trod hl ht.1 ht.2 h1 hb fun x hx => hlt x (List.mem_append_left _ hx))
      (ih vs' ds' q (fun u hu => hr u (List.mem_cons_of_mem _ hu)) h2 fun x hx => hlt x (List.mem_append_right _ hx))

theorem law_post {f : Func} {s : ChangeSpec} {W W' : World} {args : Array Value} {ds gs : List (DataW H)} {before : List MemPlace} {B : TypeId}
    (hl : laidOutB P = true) (hr : f.params.toList.all (fun t => P.readableRec t && decide (t < P.types.size)) = true) (hv : s.vars = [])
    (hW : DataW.Whole enc P f.params.toList s.vars false W args.toList ds gs before)
    (hs : s.fn H (ds ++ gs) = { results := [.lit (.bool true)], args := ds }) (ht : f.resultTypes = #[B]) (hB : P.underlying B = some .bool)
    (hb : Below W.heap.size W W') : s.post enc P f false true false false W args (.bool true) W' := by
  have hW' := hW
  obtain ⟨p, q, hA, hV, rfl, _, _⟩ := hW
  rw [hv] at hV
  obtain ⟨rfl, rfl⟩ := trodVars_none hV
  refine ⟨ds, [], p ++ [], [], p, [], hW', ?_, ?_, ?_, hb.frame _, fun h => by cases h⟩
  · rw [hs, ht]
    exact trodAll_mk1 (shut_bool hB true)
  · rw [hs]
    exact args_stay hl hb _ _ _ _ (fun t h => by have := List.all_eq_true.1 hr t h; simpa using this) hA fun x hx => hW'.lt x (List.mem_append_left _ hx)
  · rw [hs, hv]
    exact rfl
end
end Go.Proofs.Ytbcjfdhphpckfaa
