/-
  rxwin: a window in memory; what its small calls answer. rxwin: what came reaches the end; the first number from a place on that is not whole. A list of the call's own of one-cell elements: one more (append); how it looks.
-/
import Derived.Test.YtgdpjaojlhdhdaaJRxwinOnce01
import Derived.Maps.OwnSet
import Derived.BigQuiet
import Derived.StillTailTactics
namespace Go.Proofs.Ytgdpjaojlhdhdaa
open Go.RowKit Go.Maps

theorem lawZ : Keyed Try.prog 3 := int_keyed Try.underlying3
theorem zeroZ (w : World) : (zeroValue 253).run Try.prog w = .ok (.agg #[]) w := by kernel_rfl
def XC (b size f st en : Int) (m : Nat) : Array Value := #[.int .i64 b, .int .i64 size, .int .i64 f, .int .i64 st, .int .i64 en, .map (some m)]
/-- a set of numbers in memory: just those of which p -/
def SetZ (w : World) (m : Nat) (k : Nat) (b : Int) (p : Int → Bool) : Prop :=
  ∃ D : DataW Unit, w.ownsMap Try.prog 3 unitElem m (Maps.size D) D ∧ Maps.size D = k ∧ ∀ n, Maps.has D (.int .i64 n) = (okn b n && p n)
structure RxR (w : World) (x m : Nat) (b size f st : Int) (l : List Bool) : Prop where
  row : Row w x 103 (XC b size f st ((f + l.length) % sz b) m)
  set : SetZ w m (l.count true) b (ak (sz b) f l)
  rt : rt b = true
  hf : okn b f = true
  hst : okn b st = true
  hs : 1 ≤ size
  hs2 : size ≤ sz b / 2
  hl : l.length ≤ size
def XM (x m k : Nat) : Prop := k = x ∨ k = m
section
variable {w v : World} {x m k : Nat} {b size f st n : Int} {l : List Bool} {p p' : Int → Bool}
theorem own_monoZ {D : DataW Unit} {j : Nat} (h : w.ownsMap Try.prog 3 unitElem m j D) : w.ownsMap Try.prog 3 unitElem m (Maps.size D) D := by
  obtain ⟨es, clock, hb, F, hs, rfl⟩ := h
  exact ⟨es, clock, hb, F, by simp [Maps.size, length_sorted], rfl⟩
theorem SetZ.mapped (h : SetZ w m k b p) : ∃ es c, w.heap[m]? = some (.map es c) := by
  obtain ⟨D, ⟨es, c, hb, _⟩, _⟩ := h
  exact ⟨es, c, hb⟩
theorem SetZ.inside (h : SetZ w m k b p) : m < w.heap.size := by
  obtain ⟨D, ho, _⟩ := h
  exact ho.lt
theorem SetZ.block (h : SetZ w m k b p) (he : v.heap[m]? = w.heap[m]?) : SetZ v m k b p := by
  obtain ⟨D, ⟨es, c, hb, r⟩, h2⟩ := h
  exact ⟨D, ⟨es, c, he.trans hb, r⟩, h2⟩
theorem SetZ.later (h : SetZ w m k b p) (hb : Below w.heap.size w v) : SetZ v m k b p := h.block (hb.block m h.inside)
theorem SetZ.only {S : Nat → Prop} (h : SetZ w m k b p) (ho : Only S w v) (hm : ¬ S m) : SetZ v m k b p := h.block (ho.same m h.inside hm)
theorem SetZ.row_ne {g : Nat} {t : TypeId} {cs : Array Value} (h : SetZ w m k b p) (hr : Row w g t cs) : g ≠ m := by
  rintro rfl
  obtain ⟨es, c, hb⟩ := h.mapped
  unfold Row at hr
  rw [hb] at hr
  cases hr
theorem SetZ.set (h : SetZ w m k b p) (a : Addr) (ha : m ≠ a.block) (u : Value) : SetZ (w.setCell a u) m k b p := h.block (by rw [Below.heap_setCell _ _ _ _ ha])
theorem SetZ.as (h : SetZ w m k b p) (hp : ∀ n, okn b n = true → p n = p' n) : SetZ w m k b p' := by
  obtain ⟨D, h1, h2, h3⟩ := h
  refine ⟨D, h1, h2, fun n => ?_⟩
  rw [h3 n]
  cases hn : okn b n
  · rfl
  · rw [hp n hn]
theorem RxR.later (h : RxR w x m b size f st l) (hb : Below w.heap.size w v) : RxR v x m b size f st l :=
  { h with row := h.row.later hb, set := h.set.later hb }
theorem RxR.only {S : Nat → Prop} (h : RxR w x m b size f st l) (ho : Only S w v) (hx : ¬ S x) (hm : ¬ S m) : RxR v x m b size f st l :=
  { h with row := h.row.only ho hx, set := h.set.only ho hm }
theorem RxR.pos (h : RxR w x m b size f st l) : 2 ≤ sz b ∧ sz b ≤ 65536 := rt_pos h.rt
theorem RxR.ne (h : RxR w x m b size f st l) : x ≠ m := h.set.row_ne h.row
theorem RxR.end_ok (h : RxR w x m b size f st l) : okn b ((f + l.length) % sz b) = true := okn_mod h.rt _
theorem okn_wf (h : okn b n = true) : (Lit.int .i64 n).wf = true := by
  have h1 := okn_true h
  have h2 := sz_bd b
  exact WalkArith.wf_i64 (by omega)
theorem XM_new {B : Nat} (h : B ≤ x ∧ B ≤ m) : ∀ k, k < B → ¬ XM x m k := by
  rintro k hk (rfl | rfl) <;> omega
set_option maxRecDepth 100000 in
set_option maxHeartbeats 800000 in
theorem xhas_row {f st en : Int} (hr : Row w x 103 (XC b size f st en m)) (hs : SetZ w m k b p) (hn : (Lit.int .i64 n).wf = true) : Calls Try.prog 195 #[.pointer (some ⟨x, 0, none⟩), .int .i64 n] w fun e w' => e = .returned (.bool (okn b n && p n)) ∧ Below w.heap.size w w' := by
  obtain ⟨D, hown, hsz, hD⟩ := hs
  have hkey := keyOf_int_mk Try.underlying3 hn
  have hh := hD n
  have c5 := hr.read (i := 5) (x := .map (some m)) rfl
  have HH := Lib.hid hh
  clear hr hD hh hsz
  go_enter Try.func195, Try.ntmps195
  go_wp2_with (first
    | (at_lookup; refine wpList_lookup_own_unit _ rfl _ _ 101 rfl 3 253 lawZ Try.underlying101 (zeroZ _) m _ D rfl hown _ _ rfl hkey ?_)
    | go_in)
  go_ret
  exact ⟨ret_bool HH.out, by repeat (first | exact Below.refl _ _ | refine bl_alloc ?_ _ | refine bl_drew ?_)⟩
theorem xhas_any (h : RxR w x m b size f st l) (hn : (Lit.int .i64 n).wf = true) : Calls Try.prog 195 #[.pointer (some ⟨x, 0, none⟩), .int .i64 n] w fun e w' => e = .returned (.bool (okn b n && ak (sz b) f l n)) ∧ Below w.heap.size w w' := xhas_row h.row h.set hn
theorem xhas_ok (h : RxR w x m b size f st l) (hn : okn b n = true) : Calls Try.prog 195 #[.pointer (some ⟨x, 0, none⟩), .int .i64 n] w fun e w' => e = .returned (.bool (ak (sz b) f l n)) ∧ Below w.heap.size w w' := by
  have h1 := xhas_any h (okn_wf hn)
  rw [hn, Bool.true_and] at h1
  exact h1
set_option maxRecDepth 100000 in
theorem xmap_ne (m : Nat) (W : World) : (binOp BinOp.neq 101 (.map (some m)) (.map none)).run Try.prog W = .ok (.bool true) W := rfl
set_option maxRecDepth 100000 in
theorem xmap_ne_nil (W : World) : (binOp BinOp.neq 101 (.map none) (.map none)).run Try.prog W = .ok (.bool false) W := rfl
set_option maxRecDepth 100000 in
set_option maxHeartbeats 800000 in
theorem xmade_any {en : Int} (hr : Row w x 103 (XC b size f st en m)) : Calls Try.prog 198 #[.pointer (some ⟨x, 0, none⟩)] w fun e w' => e = .returned (.bool true) ∧ Below w.heap.size w w' := by
  have c5 := hr.read (i := 5) (x := .map (some m)) rfl
  clear hr
  go_enter Try.func198, Try.ntmps198
  go_wp2_with (simp only [xmap_ne, Result.andThen_ok])
  go_ret
  exact ⟨rfl, Below.refl _ _⟩
set_option maxRecDepth 100000 in
set_option maxHeartbeats 800000 in
theorem xmade_zero (hr : Row w x 103 #[.int .i64 0, .int .i64 0, .int .i64 0, .int .i64 0, .int .i64 0, .map none]) : Calls Try.prog 198 #[.pointer (some ⟨x, 0, none⟩)] w fun e w' => e = .returned (.bool false) ∧ Below w.heap.size w w' := by
  have c5 := hr.read (i := 5) (x := .map none) rfl
  clear hr
  go_enter Try.func198, Try.ntmps198
  go_wp2_with (simp only [xmap_ne_nil, Result.andThen_ok])
  go_ret
  exact ⟨rfl, Below.refl _ _⟩
theorem xmade_nil (w : World) : Calls Try.prog 198 #[.pointer none] w fun e w' => e = .returned (.bool false) ∧ Below w.heap.size w w' := by
  go_enter Try.func198, Try.ntmps198
  go_wp2
  go_ret
  exact ⟨rfl, Below.refl _ _⟩
/-- how far -/
def farx (b f n : Int) : Int := if okn b n = true then (n - f) % sz b else -1
theorem farx_ix (h : okn b n = true) : farx b f n = (ix (sz b) f n : Int) := by
  unfold farx ix
  rw [if_pos h]
  have := okn_true h
  rw [Int.toNat_of_nonneg (Int.emod_nonneg _ (by omega))]
theorem farx_no (h : okn b n = false) : farx b f n = -1 := by unfold farx; rw [h]; rfl
theorem farx_at {k : Nat} (hr : rt b = true) (h : (k : Int) < sz b) : farx b f ((f + k) % sz b) = k := by
  rw [farx_ix (okn_mod hr _), ix_at h]
theorem end_farx (h : RxR w x m b size f st l) : farx b f ((f + l.length) % sz b) = l.length := by
  have h1 := h.hs2
  have h2 := h.hl
  have h3 := h.pos
  exact farx_at h.rt (by omega)
theorem xcells {en : Int} (hr : Row w x 103 (XC b size f st en m)) : w.cell? ⟨x, 0, none⟩ = some (.int .i64 b) ∧ w.cell? ⟨x, 1, none⟩ = some (.int .i64 size) ∧ w.cell? ⟨x, 2, none⟩ = some (.int .i64 f) ∧ w.cell? ⟨x, 3, none⟩ = some (.int .i64 st) ∧ w.cell? ⟨x, 4, none⟩ = some (.int .i64 en) ∧ w.cell? ⟨x, 5, none⟩ = some (.map (some m)) :=
  ⟨hr.read rfl, hr.read rfl, hr.read rfl, hr.read rfl, hr.read rfl, hr.read rfl⟩
theorem xc02 {en : Int} (hr : Row w x 103 (XC b size f st en m)) : w.cell? ⟨x, 0, none⟩ = some (.int .i64 b) ∧ w.cell? ⟨x, 2, none⟩ = some (.int .i64 f) := ⟨hr.read rfl, hr.read rfl⟩
set_option maxRecDepth 100000 in
set_option maxHeartbeats 800000 in
theorem xbehind_any {en : Int} (hr : Row w x 103 (XC b size f st en m)) (ht : rt b = true) (hn : okn b n = true) : Calls Try.prog 200 #[.pointer (some ⟨x, 0, none⟩), .int .i64 n] w fun e w' => e = .returned (.int .i64 ((n + 1) % sz b)) ∧ Below w.heap.size w w' := by
  obtain ⟨c0, c1, c2, c3, c4, c5⟩ := xcells hr
  have HG := Lib.hid (fun W => by have h := Go_any b n 1 W; rw [(go_val ht hn (c := 1) (by omega) (by omega)).1, (go_val ht hn (c := 1) (by omega) (by omega)).2] at h; exact h)
  clear hr ht hn
  go_enter Try.func200, Try.ntmps200
  go_wp2_with (go_at_call 159; (with_reducible refine (HG.out _).mono ?_); rintro e w1 ⟨rfl, hb1⟩)
  go_ret
  exact ⟨rfl, by repeat (first | exact Below.refl _ _ | refine bl_alloc ?_ _ | refine bl_drew ?_ | refine bl_step ?_ (by assumption))⟩
theorem farx_call (ht : rt b = true) (hf : okn b f = true) (W : World) : Calls Try.prog 199 #[.agg #[.int .i64 b], .int .i64 f, .int .i64 n] W fun e w' => e = .returned (.tuple #[.int .i64 (if okn b n = true then farx b f n else 0), .int .i64 (if okn b n = true then 0 else 1)]) ∧ Below W.heap.size W w' := by
  refine (qFar_any b f n W).mono ?_
  rintro e w' ⟨rfl, hb⟩
  refine ⟨?_, hb⟩
  cases ho : okn b n
  · have h1 : FarV b f n = 0 := by unfold FarV; rw [all2, ho, Bool.and_false, Bool.and_false]; rfl
    have h2 : flt b [f, n] = 1 := by unfold flt; rw [all2, hf, ho, ht]; rfl
    rw [h1, h2]; rfl
  · obtain ⟨h1, h2⟩ := far_val ht hf ho
    rw [h1, h2]
    unfold farx
    rw [if_pos ho]; rfl
set_option maxRecDepth 100000 in
set_option maxHeartbeats 800000 in
theorem xfar_row {en : Int} (hr : Row w x 103 (XC b size f st en m)) (ht : rt b = true) (hf : okn b f = true) (n : Int) : Calls Try.prog 55 #[.pointer (some ⟨x, 0, none⟩), .int .i64 n] w fun e w' => e = .returned (.int .i64 (farx b f n)) ∧ Below w.heap.size w w' := by
  have HM := Lib.hid (xmade_any (b := b) hr)
  have HR := Lib.hid hr
  have HF := Lib.hid (fun W => farx_call (n := n) ht hf W)
  cases ho : okn b n
  · rw [farx_no ho]
    rw [ho] at HF
    simp only [Bool.false_eq_true, if_false] at HF
    clear hr ht hf ho
    go_enter Try.func55, Try.ntmps55
    go_wp2_with (go_at_call 198; (with_reducible refine HM.out.mono ?_); rintro e w1 ⟨rfl, hb1⟩; (have HB1 := Lib.hid hb1; have HR1 := Lib.hid ((HR.out.later hb1).drawn); clear hb1))
    have k0 := xc02 HR1.out
    go_region_held3 (fun w' => w'.cell? ⟨x, 0, none⟩ = some (.int .i64 b) ∧ w'.cell? ⟨x, 2, none⟩ = some (.int .i64 f)) (first | assumption | exact k0 | exact xc02 HR2.out | go_keep)
      (first | (go_at_call 199; (with_reducible refine (HF.out _).mono ?_); rintro e w2 ⟨rfl, hb2⟩; (have HB2 := Lib.hid (bl_step (bl_drew HB1.out) hb2); have HR2 := Lib.hid (HR1.out.later hb2); clear hb2)))
    go_wp2
    go_ret
    exact ⟨rfl, HB2.out⟩
  · have h0 : 0 ≤ farx b f n := by rw [farx_ix ho]; omega
    rw [ho] at HF
    simp only [if_true] at HF
    generalize farx b f n = d at *
    clear hr ht hf ho h0
    go_enter Try.func55, Try.ntmps55
    go_wp2_with (go_at_call 198; (with_reducible refine HM.out.mono ?_); rintro e w1 ⟨rfl, hb1⟩; (have HB1 := Lib.hid hb1; have HR1 := Lib.hid ((HR.out.later hb1).drawn); clear hb1))
    have k0 := xc02 HR1.out
    go_region_held3 (fun w' => w'.cell? ⟨x, 0, none⟩ = some (.int .i64 b) ∧ w'.cell? ⟨x, 2, none⟩ = some (.int .i64 f)) (first | assumption | exact k0 | exact xc02 HR2.out | go_keep)
      (first | (go_at_call 199; (with_reducible refine (HF.out _).mono ?_); rintro e w2 ⟨rfl, hb2⟩; (have HB2 := Lib.hid (bl_step (bl_drew HB1.out) hb2); have HR2 := Lib.hid (HR1.out.later hb2); clear hb2)))
    go_wp2
    go_ret
    exact ⟨rfl, HB2.out⟩
theorem xfar_any (h : RxR w x m b size f st l) (n : Int) : Calls Try.prog 55 #[.pointer (some ⟨x, 0, none⟩), .int .i64 n] w fun e w' => e = .returned (.int .i64 (farx b f n)) ∧ Below w.heap.size w w' := xfar_row h.row h.rt h.hf n
/-- in the window -/
def inx (b size f n : Int) : Bool := okn b n && decide (farx b f n < size)
theorem inx_ix (h : okn b n = true) : inx b size f n = decide ((ix (sz b) f n : Int) < size) := by unfold inx; rw [h, farx_ix h, Bool.true_and]
theorem inx_no (h : okn b n = false) : inx b size f n = false := by unfold inx; rw [h, Bool.false_and]
set_option maxRecDepth 100000 in
set_option maxHeartbeats 800000 in
theorem xin_any (h : RxR w x m b size f st l) (n : Int) : Calls Try.prog 58 #[.pointer (some ⟨x, 0, none⟩), .int .i64 n] w fun e w' => e = .returned (.bool (inx b size f n)) ∧ Below w.heap.size w w' := by
  have HM := Lib.hid (xmade_any h.row)
  have HF := Lib.hid (fun W (hb : Below w.heap.size w W) => xfar_any (h.later hb) n)
  have HR := Lib.hid h.row
  unfold inx
  cases ho : okn b n
  · rw [farx_no ho] at HF
    rw [Bool.false_and]
    clear h ho
    go_enter Try.func58, Try.ntmps58
    go_wp2_with (first
      | (go_at_call 198; (with_reducible refine HM.out.mono ?_); rintro e w1 ⟨rfl, hb1⟩; (have HB1 := Lib.hid hb1; clear hb1))
      | (go_at_call 55; (with_reducible refine (HF.out _ HB1.out).mono ?_); rintro e w2 ⟨rfl, hb2⟩; (have HB2 := Lib.hid (bl_step HB1.out hb2); clear hb2)))
    go_ret
    exact ⟨rfl, HB2.out⟩
  · have h0 : 0 ≤ farx b f n := by rw [farx_ix ho]; omega
    rw [Bool.true_and]
    generalize farx b f n = d at *
    clear h ho
    go_enter Try.func58, Try.ntmps58
    go_wp2_with (first
      | (go_at_call 198; (with_reducible refine HM.out.mono ?_); rintro e w1 ⟨rfl, hb1⟩; (have HB1 := Lib.hid hb1; clear hb1))
      | (go_at_call 55; (with_reducible refine (HF.out _ HB1.out).mono ?_); rintro e w2 ⟨rfl, hb2⟩; (have HB2 := Lib.hid (bl_step HB1.out hb2); obtain ⟨c0, c1, c2, c3, c4, c5⟩ := xcells (HR.out.later HB2.out); clear hb2)))
    go_ret
    exact ⟨rfl, HB2.out⟩
set_option maxRecDepth 100000 in
set_option maxHeartbeats 800000 in
theorem xis_any (h : RxR w x m b size f st l) (hn : (Lit.int .i64 n).wf = true) : Calls Try.prog 56 #[.pointer (some ⟨x, 0, none⟩), .int .i64 n] w fun e w' => e = .returned (.bool (okn b n && ak (sz b) f l n)) ∧ Below w.heap.size w w' := by
  have HM := Lib.hid (xmade_any h.row)
  have HH := Lib.hid (fun W (hb : Below w.heap.size w W) => xhas_any (h.later hb) hn)
  generalize (okn b n && ak (sz b) f l n) = a at *
  clear h hn
  go_enter Try.func56, Try.ntmps56
  go_wp2_with (first
    | (go_at_call 198; (with_reducible refine HM.out.mono ?_); rintro e w1 ⟨rfl, hb1⟩; (have HB1 := Lib.hid hb1; clear hb1))
    | (go_at_call 195; (with_reducible refine (HH.out _ HB1.out).mono ?_); rintro e w2 ⟨rfl, hb2⟩; (have HB2 := Lib.hid (bl_step HB1.out hb2); clear hb2)))
  go_ret
  exact ⟨rfl, HB2.out⟩
set_option maxRecDepth 100000 in
set_option maxHeartbeats 800000 in
theorem xstate_any {en : Int} (hr : Row w x 103 (XC b size f st en m)) : Calls Try.prog 54 #[.pointer (some ⟨x, 0, none⟩)] w fun e w' => e = .returned (.agg #[.int .i64 f, .int .i64 st, .int .i64 en]) ∧ Below w.heap.size w w' := by
  have HR := Lib.hid hr
  clear hr
  go_enter Try.func54, Try.ntmps54
  go_wp2_with (first
    | (go_at_call 198; (with_reducible refine (xmade_any (HR.out.later (bl_alloc (Below.refl _ _) _))).mono ?_); rintro e w1 ⟨rfl, hb1⟩; (have HB1 := Lib.hid (bl_step (bl_alloc (Below.refl _ _) _) hb1); have hl := (Row.made w 88 #[.int .i64 0, .int .i64 0, .int .i64 0]).later hb1; obtain ⟨c0, c1, c2, c3, c4, c5⟩ := xcells (HR.out.later HB1.out); clear hb1)))
  have d0 := hl.read (i := 0) rfl
  have d1 := hl.read (i := 1) rfl
  have d2 := hl.read (i := 2) rfl
  have f0 := hl.free 0
  have f1 := hl.free 1
  have f2 := hl.free 2
  go_region
  go_wp2
  refine bodyPost_ret (results_cell_row rfl _ _ w.heap.size 88 #[.int .i64 f, .int .i64 st, .int .i64 en] (0, 0) _ rfl ((((hl.drawn).written 0 (.int .i64 f)).written 1 (.int .i64 st)).written 2 (.int .i64 en)) Try.underlying88 rfl (by kernel_rfl)) rfl ?_
  exact ⟨rfl, bl_drew ((((Only.of_below HB1.out).set (S := fun k => k = w.heap.size) (p := ⟨w.heap.size, 0, none⟩) (.inl rfl) _).set (p := ⟨w.heap.size, 1, none⟩) (.inl rfl) _).set (p := ⟨w.heap.size, 2, none⟩) (.inl rfl) _ |>.below (Nat.le_refl _) (fun k hk e => by rcases e with e | e <;> omega))⟩
/-- why nothing of a number may come -/
def fltx (b size f n : Int) : Int := if okn b n = true then (if farx b f n < size then 0 else 11) else 1
set_option maxRecDepth 100000 in
set_option maxHeartbeats 800000 in
theorem xfault_any (h : RxR w x m b size f st l) (n : Int) : Calls Try.prog 193 #[.pointer (some ⟨x, 0, none⟩), .int .i64 n] w fun e w' => e = .returned (.int .i64 (fltx b size f n)) ∧ Below w.heap.size w w' := by
  have HM := Lib.hid (xmade_any h.row)
  have HI := Lib.hid (fun W => sqis_any b n W)
  have HN := Lib.hid (fun W (hb : Below w.heap.size w W) => xin_any (h.later hb) n)
  have HR := Lib.hid h.row
  unfold fltx
  unfold inx at HN
  cases ho : okn b n
  · rw [ho] at HI
    clear h HN
    go_enter Try.func193, Try.ntmps193
    go_wp2_with (first
      | (go_at_call 198; (with_reducible refine HM.out.mono ?_); rintro e w1 ⟨rfl, hb1⟩; (have HB1 := Lib.hid hb1; obtain ⟨c0, c1, c2, c3, c4, c5⟩ := xcells (HR.out.later HB1.out); clear hb1))
      | (go_at_call 185; (with_reducible refine (HI.out _).mono ?_); rintro e w2 ⟨rfl, hb2⟩; (have HB2 := Lib.hid (bl_step HB1.out hb2); clear hb2)))
    go_ret
    exact ⟨rfl, HB2.out⟩
  · rw [ho] at HI HN
    generalize farx b f n = d at *
    by_cases hd : d < size
    · rw [decide_eq_true hd] at HN
      rw [if_pos rfl, if_pos hd]
      simp only [Bool.true_and] at HN
      clear h ho
      go_enter Try.func193, Try.ntmps193
      go_wp2_with (first
        | (go_at_call 198; (with_reducible refine HM.out.mono ?_); rintro e w1 ⟨rfl, hb1⟩; (have HB1 := Lib.hid hb1; obtain ⟨c0, c1, c2, c3, c4, c5⟩ := xcells (HR.out.later HB1.out); clear hb1))
        | (go_at_call 185; (with_reducible refine (HI.out _).mono ?_); rintro e w2 ⟨rfl, hb2⟩; (have HB2 := Lib.hid (bl_step HB1.out hb2); clear hb2))
        | (go_at_call 58; (with_reducible refine (HN.out _ HB2.out).mono ?_); rintro e w3 ⟨rfl, hb3⟩; (have HB3 := Lib.hid (bl_step HB2.out hb3); clear hb3)))
      go_ret
      exact ⟨rfl, HB3.out⟩
    · rw [decide_eq_false hd] at HN
      rw [if_pos rfl, if_neg hd]
      simp only [Bool.and_false] at HN
      clear h ho
      go_enter Try.func193, Try.ntmps193
      go_wp2_with (first
        | (go_at_call 198; (with_reducible refine HM.out.mono ?_); rintro e w1 ⟨rfl, hb1⟩; (have HB1 := Lib.hid hb1; obtain ⟨c0, c1, c2, c3, c4, c5⟩ := xcells (HR.out.later HB1.out); clear hb1))
        | (go_at_call 185; (with_reducible refine (HI.out _).mono ?_); rintro e w2 ⟨rfl, hb2⟩; (have HB2 := Lib.hid (bl_step HB1.out hb2); clear hb2))
        | (go_at_call 58; (with_reducible refine (HN.out _ HB2.out).mono ?_); rintro e w3 ⟨rfl, hb3⟩; (have HB3 := Lib.hid (bl_step HB2.out hb3); clear hb3)))
      go_ret
      exact ⟨rfl, HB3.out⟩
end
end Go.Proofs.Ytgdpjaojlhdhdaa
namespace Go.Proofs.Ytgdpjaojlhdhdaa
open Go.RowKit Go.Maps

section
variable {w v : World} {x m k : Nat} {b size f st n : Int} {l r : List Bool} {p : Int → Bool}
theorem sz_ix (h : RxR w x m b size f st l) {i : Nat} (hi : i ≤ size) : ix (sz b) f ((f + (i : Int)) % sz b) = i := ix_at (by have h1 := h.hs2; have h3 := h.pos; omega)
theorem ak_at (h : RxR w x m b size f st l) {i : Nat} (hi : i ≤ size) : ak (sz b) f l ((f + (i : Int)) % sz b) = l.getD i false := by unfold ak; rw [sz_ix h hi]
theorem ix_back (h : RxR w x m b size f st l) (hn : okn b n = true) : (f + (ix (sz b) f n : Nat)) % sz b = n := by
  have h3 := h.pos
  obtain ⟨n1, n2⟩ := okn_true hn
  exact at_ix (by omega) n1 n2
theorem RxR.grown (h : RxR w x m b size f st l) (hn : okn b n = true) (hi : (ix (sz b) f n : Int) < size) (hg : l.length ≤ ix (sz b) f n) : RxR (w.setCell ⟨x, 4, none⟩ (.int .i64 ((n + 1) % sz b))) x m b size f st (gro l (ix (sz b) f n + 1)) := by
  have hb := ix_back h hn
  generalize ix (sz b) f n = i at *
  have hl : (gro l (i + 1)).length = i + 1 := by rw [gro_length]; omega
  refine ⟨?_, ?_, h.rt, h.hf, h.hst, h.hs, h.hs2, by rw [hl]; omega⟩
  · have e : (f + ((gro l (i + 1)).length : Nat)) % sz b = (n + 1) % sz b := by
      rw [hl, ← hb, Int.emod_add_emod]
      congr 1
      omega
    rw [e]
    exact h.row.written 4 _
  · rw [gro_count]
    exact (h.set.set ⟨x, 4, none⟩ (Ne.symm h.ne) _).as fun n _ => ak_gro.symm
theorem xc04 {en : Int} (hr : Row w x 103 (XC b size f st en m)) : w.cell? ⟨x, 4, none⟩ = some (.int .i64 en) := hr.read rfl
theorem xc03 {en : Int} (hr : Row w x 103 (XC b size f st en m)) : w.cell? ⟨x, 3, none⟩ = some (.int .i64 st) := hr.read rfl
set_option maxRecDepth 100000 in
set_option maxHeartbeats 1600000 in
theorem xreach_any (h : RxR w x m b size f st l) (hn : okn b n = true) (hi : (ix (sz b) f n : Int) < size) : Calls Try.prog 194 #[.pointer (some ⟨x, 0, none⟩), .int .i64 n] w fun e w' => e = .returned (.tuple #[]) ∧ RxR w' x m b size f st (gro l (ix (sz b) f n + 1)) ∧ Only (XM x m) w w' := by
  have HF := Lib.hid (fun W (hb : Below w.heap.size w W) => by have h1 := xfar_any (h.later hb) n; rw [farx_ix hn] at h1; exact h1)
  have HF2 := Lib.hid (fun W (hb : Below w.heap.size w W) => by have h1 := xfar_any (h.later hb) ((f + l.length) % sz b); rw [end_farx h] at h1; exact h1)
  have HR := Lib.hid h.row
  have HB0 := Lib.hid (bl_drew (Below.refl w.heap.size w))
  have k0 := xc04 HR.out.drawn
  have HBe := Lib.hid (fun W (hb : Below w.heap.size w W) => xbehind_any (h.row.later hb) h.rt hn)
  have HW := Lib.hid h
  by_cases hg : l.length ≤ ix (sz b) f n
  · have HG := Lib.hid (fun W (hb : Below w.heap.size w W) => (h.later hb).grown hn hi hg)
    generalize (f + (l.length : Int)) % sz b = en at *
    generalize ix (sz b) f n = i at *
    generalize l.length = L at *
    have hgi : (L : Int) ≤ i := by omega
    clear h hn hi
    go_enter Try.func194, Try.ntmps194
    go_wp2
    go_region_held3 (fun w' => w'.cell? ⟨x, 4, none⟩ = some (.int .i64 en)) (first | assumption | exact k0 | exact xc04 HR1.out | exact xc04 HR2.out | go_keep)
      (first
        | (go_at_call 55; (with_reducible refine (HF.out _ HB0.out).mono ?_); rintro e w1 ⟨rfl, hb1⟩; (have HB1 := Lib.hid (bl_step HB0.out hb1); have HR1 := Lib.hid (HR.out.later (bl_step HB0.out hb1)); clear hb1))
        | (go_at_call 55; (with_reducible refine (HF2.out _ HB1.out).mono ?_); rintro e w2 ⟨rfl, hb2⟩; (have HB2 := Lib.hid (bl_step HB1.out hb2); have HR2 := Lib.hid (HR1.out.later hb2); clear hb2)))
    go_wp2_with (go_at_call 200; (with_reducible refine (HBe.out _ HB2.out).mono ?_); rintro e w3 ⟨rfl, hb3⟩; (have HB3 := Lib.hid (bl_step HB2.out hb3); have HR3 := Lib.hid (HR2.out.later hb3); have f4 := HR3.out.free 4; have c4 := xc04 HR3.out; clear hb3))
    go_end0
    exact ⟨rfl, HG.out _ HB3.out, (Only.of_below HB3.out).set (.inl (.inl rfl)) _⟩
  · have e : gro l (ix (sz b) f n + 1) = l := gro_at (by omega)
    rw [e]
    generalize (f + (l.length : Int)) % sz b = en at *
    generalize ix (sz b) f n = i at *
    generalize hL : l.length = L at *
    have hgi : ¬ ((L : Int) ≤ i) := by omega
    clear h hn hi hL e
    go_enter Try.func194, Try.ntmps194
    go_wp2
    go_region_held3 (fun w' => w'.cell? ⟨x, 4, none⟩ = some (.int .i64 en)) (first | assumption | exact k0 | exact xc04 HR1.out | exact xc04 HR2.out | go_keep)
      (first
        | (go_at_call 55; (with_reducible refine (HF.out _ HB0.out).mono ?_); rintro e w1 ⟨rfl, hb1⟩; (have HB1 := Lib.hid (bl_step HB0.out hb1); have HR1 := Lib.hid (HR.out.later (bl_step HB0.out hb1)); clear hb1))
        | (go_at_call 55; (with_reducible refine (HF2.out _ HB1.out).mono ?_); rintro e w2 ⟨rfl, hb2⟩; (have HB2 := Lib.hid (bl_step HB1.out hb2); have HR2 := Lib.hid (HR1.out.later hb2); clear hb2)))
    go_wp2
    go_end0
    exact ⟨rfl, HW.out.later HB2.out, Only.of_below HB2.out⟩
set_option maxRecDepth 100000 in
set_option maxHeartbeats 1600000 in
theorem xopen_at (h : RxR w x m b size f st l) {c : Nat} (hc : c ≤ l.length) (hq : n = (f + (c : Int)) % sz b) : Calls Try.prog 196 #[.pointer (some ⟨x, 0, none⟩), .int .i64 n] w fun e w' => e = .returned (.int .i64 ((f + (opn l c : Nat)) % sz b)) ∧ Below w.heap.size w w' := by
  have HL := Lib.hid h.hl
  have HA := Lib.hid (fun (i : Nat) (hi : (i : Int) ≤ size) => ak_at h hi)
  have HI := Lib.hid (fun (i : Nat) (hi : (i : Int) ≤ size) => sz_ix h hi)
  have HH := Lib.hid (fun W (n : Int) (hb : Below w.heap.size w W) (hn : okn b n = true) => xhas_ok (h.later hb) hn)
  have HBe := Lib.hid (fun W (n : Int) (hb : Below w.heap.size w W) (hn : okn b n = true) => xbehind_any (h.row.later hb) h.rt hn)
  have HM := Lib.hid (fun x => okn_mod h.rt x)
  have HB0 := Lib.hid (Below.refl w.heap.size w)
  have HQ := Lib.hid hq
  have HO := Lib.hid (show opn l c = opn l c from rfl)
  generalize hoc : opn l c = oc at HO ⊢
  have HOC := Lib.hid hoc
  clear h hq hoc
  go_enter Try.func196, Try.ntmps196
  go_wp2
  go_loopw [1] (fun s1 wr => ∃ (k : Nat) (ty : Int), k ≤ l.length ∧ s1 = .int .i64 ty ∧ Hid (ty = (f + (k : Int)) % sz b) ∧ Hid (opn l k = oc) ∧ Hid (Below w.heap.size w wr)) (fun s1 _ => l.length - ix (sz b) f (intOf s1))
  case atStart => exact ⟨c, n, hc, rfl, HQ, HOC, HB0⟩
  case round =>
    obtain ⟨k, ty, hk, rfl, HTY, HOP, HBr⟩ := hrel
    have HK := Lib.hid (show (k : Int) ≤ size by have := HL.out; omega)
    have hok : okn b ty = true := by rw [HTY.out]; exact HM.out _
    have hh := HH.out wr ty HBr.out hok
    have hat : ak (sz b) f l ty = l.getD k false := by rw [HTY.out]; exact HA.out k HK.out
    rw [hat] at hh
    have HIK := Lib.hid (show ix (sz b) f ty = k by rw [HTY.out]; exact HI.out k HK.out)
    cases hv : l.getD k false
    · rw [hv] at hh
      have HHH := Lib.hid hh
      have HE := Lib.hid (show ty = (f + (oc : Nat)) % sz b by rw [← HOP.out, opn_stop hv]; exact HTY.out)
      clear hh hat hok hv
      go_wp2_with (go_at_call 195; (with_reducible refine HHH.out.mono ?_); rintro e w2 ⟨rfl, hb2⟩; (have HB2 := Lib.hid (bl_step HBr.out hb2); clear hb2))
      go_ret
      exact ⟨by rw [← HE.out]; rfl, HB2.out⟩
    · rw [hv] at hh
      have HHH := Lib.hid hh
      have hkl := getD_lt hv
      have HN := Lib.hid (show opn l (k + 1) = oc by rw [← HOP.out, opn_step hv])
      have HB := Lib.hid (fun W (hb : Below w.heap.size w W) => HBe.out W ty hb hok)
      have HTN := Lib.hid (show (ty + 1) % sz b = (f + ((k + 1 : Nat) : Int)) % sz b by rw [HTY.out, Int.emod_add_emod, show f + (k : Int) + 1 = f + ((k + 1 : Nat) : Int) by omega])
      have HIN := Lib.hid (show ix (sz b) f ((ty + 1) % sz b) = k + 1 by rw [HTN.out]; exact HI.out (k + 1) (by have := HL.out; omega))
      clear hh hat hok hv
      go_wp2_with (first
        | (go_at_call 195; (with_reducible refine HHH.out.mono ?_); rintro e w2 ⟨rfl, hb2⟩; (have HB2 := Lib.hid (bl_step HBr.out hb2); clear hb2))
        | (go_at_call 200; (with_reducible refine (HB.out _ HB2.out).mono ?_); rintro e w3 ⟨rfl, hb3⟩; (have HB3 := Lib.hid (bl_step HB2.out hb3); clear hb3)))
      go_roundw
      case rel => exact ⟨k + 1, (ty + 1) % sz b, by omega, rfl, HTN, HN, HB3⟩
      case measure => simp only [intOf]; rw [HIK.out, HIN.out]; omega
end
end Go.Proofs.Ytgdpjaojlhdhdaa
namespace Go.Proofs.Ytgdpjaojlhdhdaa
open Go.RowKit

theorem wpList_is {P : Program} {ops : Array Oper} {rest : List Oper} {o : Oper} {a : Act} {w : World} {Q : Exit → Act → World → Prop} (hgd : o.guard = none) (s x : Operand) (t : TypeId)
    (ho : o.op = .call { callee := .builtin .append, args := #[s, x], argTypes := #[t, t] }) (v u : Value) (hs : a.eval s = v) (hx : a.eval x = u) {v' : Value} {w' : World}
    (hr : (Builtin.append_ #[t, t] o.type #[v, u]).run P w = .ok v' w') (h : wpList P ops Q rest (a.put o.dst v') w') : wpList P ops Q (o :: rest) a w :=
  wpList_plain hgd fun _ hK => by
    unfold Oper.wp execOp
    simp only [ho, resolve, invoke, builtin, Sem.run_bind, Sem.run_pure, Result.andThen_ok, List.map_toArray, List.map_cons, List.map_nil, hs, hx, hr]
    exact hK _ _ h
theorem add_zero_o (g j : Nat) : (⟨g, 0, none⟩ : Addr).add j = ⟨g, j, none⟩ := by
  unfold Addr.add
  split
  · rename_i h; rw [h]
  · simp
section
variable {m n : Nat} {w v : World} {x u z : Value} {xs : List Value} {T E by' : Nat}
theorem own_next (hT : Try.prog.underlying T = some (.slice E)) (hI : (Try.prog.info? E).map (fun i => (i.zero, i.size, i.bytes)) = some (some z, 1, by')) (hz : z.cells.size = 1) (hby : by' ≤ 24) (hu : u.oneCell' = true) (h : w.ownsRow m E 1 x n xs) (hm : m ≤ w.heap.size) (hn : n ≤ 100000) :
    ∃ A' c' w2, (Builtin.append_ #[T, T] T #[x, .slice (some ⟨w.heap.size, 0, none⟩) 1 1]).run Try.prog (w.alloc (.cells #[u] E)) = .ok (.slice A' (n + 1) c') w2 ∧
      w2.ownsRow m E 1 (.slice A' (n + 1) c') (n + 1) (xs ++ [u]) ∧ Only (fun k => x.ownBlock = some k) w w2 := by
  obtain ⟨i0, hi, hi0, hi1, hi2⟩ := info_parts hI
  have hbA := bl_alloc (Below.refl w.heap.size w) (.cells #[u] E)
  have a4' := own_only h (S := fun _ => False) (.of_below hbA) (fun _ _ hk => hk)
  obtain ⟨v', w2, hrun, hown, hgr, _, hat⟩ := run_append_own_at (P := Try.prog) (w := w.alloc (.cells #[u] E)) m T T E i0 z 1 by' hT hi hi0 hi1 hi2 hz (by omega) x n xs a4' ⟨w.heap.size, 0, none⟩ 1 1 [u] rfl
    (fun j u' hu' => by
      match j, hu' with
      | 0, hu' =>
        simp only [List.getElem?_cons_zero, Option.some.injEq] at hu'
        subst hu'
        rw [add_zero_o]
        exact (Row.made w E #[u]).read rfl
      | j + 1, hu' => simp at hu') (by intro y hy; simp at hy; subst hy; exact hu) (by unfold maxLen; omega) (by have := Nat.mul_le_mul (show n + 1 ≤ 100001 by omega) hby; omega) (by have := hbA.size; omega)
  have hon : Only (fun k => x.ownBlock = some k) w w2 := (Only.of_below hbA).andThen ((Only.refl _ _).grown hgr (fun k hk => .inl hk) : Only (fun k => x.ownBlock = some k) _ _) (fun k _ hk => hk)
  obtain ⟨A', c', rfl⟩ : ∃ A' c', v' = .slice A' (n + 1) c' := by
    rcases hown.2 with ⟨_, e⟩ | ⟨g, cap, cur, e, _⟩
    · omega
    · exact ⟨some ⟨g, 0, none⟩, cap, e⟩
  exact ⟨A', c', w2, hrun, hown, hon⟩
theorem own_shape (h : w.ownsRow m E 1 x n xs) : ∃ A c, x = .slice A n c ∧ n ≤ c ∧ c ≤ 9223372036854775807 := by
  rcases h.2 with ⟨rfl, rfl⟩ | ⟨g, cap, cur, rfl, _, _, h1, h2, _⟩
  · exact ⟨none, 0, rfl, Nat.le_refl _, by decide⟩
  · exact ⟨_, cap, rfl, h1, by unfold maxLen at h2; omega⟩
theorem own_after (h : w.ownsRow m E 1 x n xs) (hb : Below w.heap.size w v) : v.ownsRow m E 1 x n xs := own_only h (S := fun _ => False) (.of_below hb) (fun _ _ hk => hk)
/-- what lies behind a slice: in one block, that is not older than block m -/
def SlAt (m E : Nat) (w : World) (A : Option Addr) (xs : List Value) : Prop :=
  xs ≠ [] → ∃ (g : Nat) (cs : Array Value), A = some ⟨g, 0, none⟩ ∧ m ≤ g ∧ Row w g E cs ∧ ∀ (i : Nat) (u : Value), xs[i]? = some u → cs[i]? = some u
theorem own_at {A : Option Addr} {c : Nat} (h : w.ownsRow m E 1 (.slice A n c) n xs) : SlAt m E w A xs := by
  intro hne
  rcases h.2 with ⟨h1, h2⟩ | ⟨g, cap, cur, h1, h2, h3, h4, h5, h6, h7⟩
  · exfalso
    have := h.1
    rw [h2] at this
    exact hne (List.eq_nil_of_length_eq_zero (by omega))
  · injection h1 with hA _ _
    refine ⟨g, cur, hA, h2, h3, fun i u hu => ?_⟩
    have hi := (List.getElem?_eq_some_iff.1 hu).1
    have hl := h.1
    rw [← h7, List.getElem?_take] at hu
    split at hu
    · simpa using hu
    · cases hu
theorem SlAt.only {S : Nat → Prop} {A : Option Addr} (h : SlAt m E w A xs) (ho : Only S w v) (hS : ∀ g cs, Row w g E cs → m ≤ g → ¬ S g) : SlAt m E v A xs := by
  intro hne
  obtain ⟨g, cs, h1, h2, h3, h4⟩ := h hne
  exact ⟨g, cs, h1, h2, h3.only ho (hS g cs h3 h2), h4⟩
theorem SlAt.later {A : Option Addr} (h : SlAt m E w A xs) (hb : Below w.heap.size w v) : SlAt m E v A xs := h.only (S := fun _ => False) (.of_below hb) (fun _ _ _ _ hk => hk)
theorem SlAt.cell {A : Option Addr} (h : SlAt m E w A xs) {i : Nat} {u : Value} (hu : xs[i]? = some u) : ∃ g, A = some ⟨g, 0, none⟩ ∧ w.cell? ⟨g, i, none⟩ = some u := by
  obtain ⟨g, cs, h1, h2, h3, h4⟩ := h (by rintro rfl; simp at hu)
  exact ⟨g, h1, h3.read (h4 i u hu)⟩
end
end Go.Proofs.Ytgdpjaojlhdhdaa
