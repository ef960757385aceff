/-
  status: one miss is read. status: one miss is read, with a part. status: one miss is read, whatever the bits. status: a list of misses of a call's own, while it grows. status: a status is read: what stands at the jump.
-/
import Derived.Test.YtgdpjaojlhdhdaaJUmtxNumbers07
import Derived.BigRegion
import Derived.Deep.RegionWith
import Derived.Laws.ResultCell
import Derived.Test.YtgdpjaojlhdhdaaJUmtxNumbers04
namespace Go.Proofs.Ytgdpjaojlhdhdaa
open Go.RowKit

theorem Try.infomiss : (Try.prog.info? 378).map (·.size) = some 4 := by kernel_rfl
theorem Try.undermiss : (Try.prog.underlying 378).map (fun d => match d with | .struct _ => true | _ => false) = some true := by kernel_rfl
theorem undermiss_parts : ∃ fs, Try.prog.underlying 378 = some (.struct fs) := by
  obtain ⟨d, hd, h⟩ := Option.map_eq_some_iff.1 Try.undermiss
  cases d with
  | struct fs => exact ⟨fs, hd⟩
  | _ => simp at h
theorem st_results_cell {fn : Func} {p u v : Tmp} {ty : TypeId} (h : fn.results = #[.cell p ty, .tmp u, .tmp v]) (tmps : Array Value) (P : Program) (w : World) :
    (results fn tmps).run P w =
      ((asAddr (tmps.getD p undef)).run P w).andThen fun a w₁ => ((loadVar ty a).run P w₁).andThen fun x w₂ => .ok (.tuple #[x, tmps.getD u undef, tmps.getD v undef]) w₂ := by
  simp only [results, h]
  simp [Sem.run_bind, Result.andThen]
theorem st_results_three {fn : Func} {p u v : Tmp} {ty : TypeId} (h : fn.results = #[.cell p ty, .tmp u, .tmp v]) (tmps : Array Value) (w : World) (g : Nat) (t : TypeId) (cs : Array Value) (fs : Array Field)
    (hp : tmps.getD p undef = .pointer (some ⟨g, 0, none⟩)) (hg : Row w g t cs)
    (hu : Try.prog.underlying ty = some (.struct fs)) (hi : (Try.prog.info? ty).map (·.size) = some cs.size) :
    (results fn tmps).run Try.prog w = .ok (.tuple #[.agg cs, tmps.getD u undef, tmps.getD v undef]) w := by
  rw [st_results_cell h, hp]
  simp only [asAddr, Sem.run_pure, Result.andThen_ok, run_loadVar_row w g t ty cs (0, 0) (.struct fs) hg hu rfl hi]
theorem cells4 {w : World} {g : Nat} {t : TypeId} {a b c d : Value} (hr : Row w g t #[a, b, c, d]) : (w.cell? ⟨g, 0, none⟩ = some a ∧ w.cell? ⟨g, 1, none⟩ = some b ∧ w.cell? ⟨g, 2, none⟩ = some c ∧ w.cell? ⟨g, 3, none⟩ = some d) ∧ (w.frozen? ⟨g, 0, none⟩ = false ∧ w.frozen? ⟨g, 1, none⟩ = false ∧ w.frozen? ⟨g, 2, none⟩ = false ∧ w.frozen? ⟨g, 3, none⟩ = false) :=
  ⟨⟨hr.read rfl, hr.read rfl, hr.read rfl, hr.read rfl⟩, hr.free _, hr.free _, hr.free _, hr.free _⟩
theorem row_at2 (W : World) (k : Nat) (t : TypeId) (cs : Array Value) (h : W.heap.size = k) : Row (W.alloc (.cells cs t)) k t cs := by subst h; exact Row.made _ _ _
/-- a reader at block p reads the bits of bs from place i on; since w0 only what may has changed -/
def StR (B : Nat) (w0 : World) (p gb : Nat) (bs : List Nat) (i : Nat) (w : World) : Prop := RRep w p gb bs i ∧ KeepR B w0 w ∧ B ≤ w0.heap.size ∧ B ≤ p
section
variable {B p gb i j : Nat} {bs : List Nat} {w0 w1 w : World}
theorem StR.start (h : RRep w p gb bs i) (hp : B ≤ p) : StR B w p gb bs i w := ⟨h, KeepR.refl _ _, by have := h.1.inside; omega, hp⟩
theorem StR.more (h : StR B w0 p gb bs i w) {v : World} (hb : Below w.heap.size w v) : StR B w0 p gb bs i v := ⟨h.1.later hb, h.2.1.then_below h.2.2.1 hb, h.2.2⟩
theorem StR.next (h : StR B w0 p gb bs i w1) (k : StR B w1 p gb bs j w) : StR B w0 p gb bs j w := ⟨k.1, h.2.1.trans k.2.1, h.2.2⟩
theorem StR.set (h : StR B w0 p gb bs i w) {a : Addr} (ha : w0.heap.size ≤ a.block) {t : TypeId} {cs : Array Value} (hg : Row w a.block t cs) (h1 : t ≠ 5) (h2 : t ≠ 330) (x : Value) : StR B w0 p gb bs i (w.setCell a x) :=
  ⟨⟨h.1.1.elsewhere (fun e => hg.apart h.1.1 h2 e.symm) _, h.1.2.1.elsewhere (fun e => hg.apart h.1.2.1 h1 e.symm) _, h.1.2.2⟩, h.2.1.set_new h.2.2.1 ha x, h.2.2⟩
/-- numbers got, when there are enough bits -/
theorem StR.get {g n cap : Nat} {W : List Nat} (h : StR B w0 p gb bs i w) (hg : Row w g 3 (intsR W).toArray) (hW : W.length = n) (hn : n ≤ 3) (hw : ∀ x ∈ W, x ≤ 16) (hf : i + W.sum ≤ 8 * bs.length) :
    Calls Try.prog 335 #[.pointer (some ⟨p, 0, none⟩), .slice (some ⟨g, 0, none⟩) n cap] w fun e w' => ∃ g', e = .returned (.tuple #[.slice (some ⟨g', 0, none⟩) n n, .int .i64 0]) ∧ Row w' g' 3 (intsR (segs bs i W)).toArray ∧ w.heap.size ≤ g' ∧ StR B w0 p gb bs (i + W.sum) w' := by
  refine (sget_any n cap w h.1 h.2.2.2 hg hW hn hw).mono fun _ _ h1 => ?_
  obtain ⟨g', e1, e2, e3, e4⟩ := h1.1 hf
  rw [hW] at e1
  exact ⟨g', e1, e2, e3, e4, h.2.1.trans h1.2.2, h.2.2⟩
theorem StR.get_no {g n cap : Nat} {W : List Nat} (h : StR B w0 p gb bs i w) (hg : Row w g 3 (intsR W).toArray) (hW : W.length = n) (hn : n ≤ 3) (hw : ∀ x ∈ W, x ≤ 16) (hf : 8 * bs.length < i + W.sum) :
    Calls Try.prog 335 #[.pointer (some ⟨p, 0, none⟩), .slice (some ⟨g, 0, none⟩) n cap] w fun e w' => e = .returned (.tuple #[.slice none 0 0, .int .i64 8]) ∧ KeepR B w0 w' :=
  (sget_any n cap w h.1 h.2.2.2 hg hW hn hw).mono fun _ _ h1 => ⟨h1.2.1 hf, h.2.1.trans h1.2.2⟩
end
def set4 (w : World) (g : Nat) (a b c d : Value) : World := (((w.setCell ⟨g, 0, none⟩ a).setCell ⟨g, 1, none⟩ b).setCell ⟨g, 2, none⟩ c).setCell ⟨g, 3, none⟩ d
theorem row_set4 {w : World} {g : Nat} {t : TypeId} {a b c d a' b' c' d' : Value} (h : Row w g t #[a, b, c, d]) : Row (set4 w g a' b' c' d') g t #[a', b', c', d'] := (((h.written 0 a').written 1 b').written 2 c').written 3 d'
theorem cell_set4 {w : World} {g g' j : Nat} {t t' : TypeId} {cs cs' : Array Value} {x a b c d : Value} (h : Row w g t cs) (h' : Row w g' t' cs') (hne : t ≠ t') (hx : cs'[j]? = some x) : (set4 w g a b c d).cell? ⟨g', j, none⟩ = some x := by
  have e : g' ≠ g := fun e => h.apart h' hne e.symm
  exact ((((h'.elsewhere (p := ⟨g, 0, none⟩) e a).elsewhere (p := ⟨g, 1, none⟩) e b).elsewhere (p := ⟨g, 2, none⟩) e c).elsewhere (p := ⟨g, 3, none⟩) e d).read hx
theorem KeepR.set4 {B g : Nat} {w v : World} (h : KeepR B w v) (hB : B ≤ w.heap.size) (hg : w.heap.size ≤ g) (a b c d : Value) : KeepR B w (set4 v g a b c d) := (((h.set_new hB (p := ⟨g, 0, none⟩) hg a).set_new hB (p := ⟨g, 1, none⟩) hg b).set_new hB (p := ⟨g, 2, none⟩) hg c).set_new hB (p := ⟨g, 3, none⟩) hg d
theorem rrep_set4 {w : World} {p gb i g : Nat} {bs : List Nat} {t : TypeId} {cs : Array Value} (h : RRep w p gb bs i) (hg : Row w g t cs) (h1 : t ≠ 5) (h2 : t ≠ 330) (a b c d : Value) : RRep (set4 w g a b c d) p gb bs i := by
  have e1 : p ≠ g := fun e => hg.apart h.1 h2 e.symm
  have e2 : gb ≠ g := fun e => hg.apart h.2.1 h1 e.symm
  exact ⟨(((h.1.elsewhere (p := ⟨g, 0, none⟩) e1 a).elsewhere (p := ⟨g, 1, none⟩) e1 b).elsewhere (p := ⟨g, 2, none⟩) e1 c).elsewhere (p := ⟨g, 3, none⟩) e1 d, (((h.2.1.elsewhere (p := ⟨g, 0, none⟩) e2 a).elsewhere (p := ⟨g, 1, none⟩) e2 b).elsewhere (p := ⟨g, 2, none⟩) e2 c).elsewhere (p := ⟨g, 3, none⟩) e2 d, h.2.2⟩
set_option maxRecDepth 100000 in
set_option maxHeartbeats 1600000 in
theorem smiss_short {B p gb i : Nat} {bs : List Nat} (x : Nat) (w : World) (hr : RRep w p gb bs i) (hp : B ≤ p) (hx : x ≤ 16) (hf : 8 * bs.length < i + x + 1 + 1) :
    Calls Try.prog 336 #[.pointer (some ⟨p, 0, none⟩), .int .i64 x] w fun e w' => e = .returned (.tuple #[.agg #[.int .i64 0, .bool false, .int .i64 0, .int .i64 0], .bool false, .int .i64 8]) ∧ KeepR B w w' := by
  have ROW := Lib.hid (Row.made w 378 #[.int .i64 0, .bool false, .int .i64 0, .int .i64 0])
  have HSZ := Lib.hid (show (w.alloc (.cells #[.int .i64 0, .bool false, .int .i64 0, .int .i64 0] 378)).heap.size = w.heap.size + 1 by simp)
  have HBL := Lib.hid (show B ≤ w.heap.size by have := hr.1.inside; omega)
  have HK0 := Lib.hid ((KeepR.refl B w).alloc HBL.out (.cells #[.int .i64 0, .bool false, .int .i64 0, .int .i64 0] 378))
  have ST0 := Lib.hid (StR.start (B := B) (hr.later (bl_alloc (Below.refl _ _) (.cells #[.int .i64 0, .bool false, .int .i64 0, .int .i64 0] 378))) hp)
  have HG := Lib.hid ((ST0.out.more (bl_alloc (Below.refl _ _) (.cells #[.int .i64 x, .int .i64 1, .int .i64 1] 3))).get_no (g := w.heap.size + 1) (n := 3) (cap := 3) (W := [x, 1, 1]) (row_at2 _ _ 3 _ HSZ.out) rfl (by omega) (by intro y hy; simp at hy; omega) (by simp; omega))
  clear hr hf
  go_enter Try.func336, Try.ntmps336
  go_wp2_with (go_at_call 335; (with_reducible refine HG.out.mono ?_); rintro e w1 ⟨rfl, hk1⟩; (have KP := Lib.hid (HK0.out.trans hk1); have ROW1 := Lib.hid (hk1.row ROW.out (by decide)); clear hk1; obtain ⟨⟨c0, c1, c2, c3⟩, f0, f1, f2, f3⟩ := cells4 ROW1.out))
  obtain ⟨dd, hdd⟩ := undermiss_parts
  refine bodyPost_ret (st_results_three rfl _ _ w.heap.size 378 #[.int .i64 0, .bool false, .int .i64 0, .int .i64 0] dd rfl (row_set4 ROW1.out) hdd Try.infomiss) rfl ?_
  exact ⟨rfl, KP.out.set4 HBL.out (Nat.le_refl _) _ _ _ _⟩
theorem bit_is (b : Bool) : ((b.toNat : Int) == 1) = b := by cases b <;> rfl
set_option maxRecDepth 100000 in
set_option maxHeartbeats 3200000 in
theorem smiss_whole {B p gb i : Nat} {bs : List Nat} (x : Nat) (w : World) (hr : RRep w p gb bs i) (hp : B ≤ p) (hx : x ≤ 16) (hf : i + x + 1 + 1 ≤ 8 * bs.length) (hpt : bitAt bs (i + x + 1) = false) :
    Calls Try.prog 336 #[.pointer (some ⟨p, 0, none⟩), .int .i64 x] w fun e w' => e = .returned (.tuple #[.agg #[.int .i64 (val (seg bs i x) : Nat), .bool false, .int .i64 0, .int .i64 0], .bool (bitAt bs (i + x)), .int .i64 0]) ∧ RRep w' p gb bs (i + x + 1 + 1) ∧ KeepR B w w' := by
  have ROW := Lib.hid (Row.made w 378 #[.int .i64 0, .bool false, .int .i64 0, .int .i64 0])
  have HSZ := Lib.hid (show (w.alloc (.cells #[.int .i64 0, .bool false, .int .i64 0, .int .i64 0] 378)).heap.size = w.heap.size + 1 by simp)
  have HBL := Lib.hid (show B ≤ w.heap.size by have := hr.1.inside; omega)
  have HK0 := Lib.hid ((KeepR.refl B w).alloc HBL.out (.cells #[.int .i64 0, .bool false, .int .i64 0, .int .i64 0] 378))
  have ST0 := Lib.hid (StR.start (B := B) (hr.later (bl_alloc (Below.refl _ _) (.cells #[.int .i64 0, .bool false, .int .i64 0, .int .i64 0] 378))) hp)
  have hsg : segs bs i [x, 1, 1] = [val (seg bs i x), (bitAt bs (i + x)).toNat, (bitAt bs (i + x + 1)).toNat] := by
    simp only [segs]
    rw [val_one (by omega), val_one (by omega)]
  rw [hpt] at hsg
  have hG := (ST0.out.more (bl_alloc (Below.refl _ _) (.cells #[.int .i64 x, .int .i64 1, .int .i64 1] 3))).get (g := w.heap.size + 1) (n := 3) (cap := 3) (W := [x, 1, 1]) (row_at2 _ _ 3 _ HSZ.out) rfl (by omega) (by intro y hy; simp at hy; omega) (by simp; omega)
  rw [hsg, show i + [x, 1, 1].sum = i + x + 1 + 1 by simp; omega] at hG
  have HG := Lib.hid hG
  generalize val (seg bs i x) = sn at *
  generalize bitAt bs (i + x) = more at *
  have hbi := bit_is more
  clear hr hf hsg hpt hG
  go_enter Try.func336, Try.ntmps336
  go_wp2_with (go_at_call 335; (with_reducible refine HG.out.mono ?_); rintro e w1 ⟨g1, rfl, hrow1, hg1, hs1⟩; (have KP := Lib.hid (HK0.out.trans hs1.2.1); have ST1 := Lib.hid hs1; have ROW1 := Lib.hid (hs1.2.1.row ROW.out (by decide)); have ROWH := Lib.hid hrow1; clear hs1 hg1 hrow1))
  have d0 := ROWH.out.drawn.read (i := 0) (x := .int .i64 sn) rfl
  have d2 := ROWH.out.drawn.read (i := 2) (x := .int .i64 0) rfl
  go_region_held3 (fun w' => w'.cell? ⟨g1, 0, none⟩ = some (.int .i64 sn) ∧ w'.cell? ⟨g1, 2, none⟩ = some (.int .i64 0)) (first | assumption | exact ⟨d0, d2⟩ | exact ⟨cell_more _ d0, cell_more _ d2⟩ | go_keep) (fail)
  have HROWM := Lib.hid (show Row (w1.alloc (.cells #[.int .i64 sn, .bool false, .int .i64 0, .int .i64 0] 378)).drew w1.heap.size 378 #[.int .i64 sn, .bool false, .int .i64 0, .int .i64 0] from (Row.made w1 _ _).drawn)
  have HROWR := Lib.hid (show Row (w1.alloc (.cells #[.int .i64 sn, .bool false, .int .i64 0, .int .i64 0] 378)).drew w.heap.size 378 #[.int .i64 0, .bool false, .int .i64 0, .int .i64 0] from (ROW1.out.more _).drawn)
  have HROWH := Lib.hid (show Row (w1.alloc (.cells #[.int .i64 sn, .bool false, .int .i64 0, .int .i64 0] 378)).drew g1 3 (intsR [sn, more.toNat, 0]).toArray from (ROWH.out.more _).drawn)
  have HRR := Lib.hid (show StR B (w.alloc (.cells #[.int .i64 0, .bool false, .int .i64 0, .int .i64 0] 378)) p gb bs (i + x + 1 + 1) (w1.alloc (.cells #[.int .i64 sn, .bool false, .int .i64 0, .int .i64 0] 378)).drew from ST1.out.more (bl_drew (bl_alloc (Below.refl _ _) _)))
  have hne : w.heap.size < w1.heap.size := ROW1.out.inside
  clear d0 d2
  generalize w1.heap.size = q at *
  generalize (w1.alloc (.cells #[.int .i64 sn, .bool false, .int .i64 0, .int .i64 0] 378)).drew = W2 at *
  have e1 := HROWM.out.read (i := 1) (x := .bool false) rfl
  go_wp2_with fail
  clear e1
  obtain ⟨⟨m0, m1, m2, m3⟩, -⟩ := cells4 HROWM.out
  obtain ⟨⟨z0, z1, z2, z3⟩, f0, f1, f2, f3⟩ := cells4 HROWR.out
  have h1 := HROWH.out.read (i := 1) (x := .int .i64 more.toNat) rfl
  have HROWE := Lib.hid (show Row (set4 W2 w.heap.size (.int .i64 sn) (.bool false) (.int .i64 0) (.int .i64 0)) w.heap.size 378 #[.int .i64 sn, .bool false, .int .i64 0, .int .i64 0] from row_set4 HROWR.out)
  have HR3 := Lib.hid HROWR.out.drawn
  have HS3 := Lib.hid (HRR.out.more (bl_drew (Below.refl _ _)))
  have hx1 := cell_set4 (a := .int .i64 sn) (b := .bool false) (c := .int .i64 0) (d := .int .i64 0) HROWR.out HROWH.out (by decide) (j := 1) (x := .int .i64 more.toNat) rfl
  unfold set4 at hx1
  generalize hrr0 : w.heap.size = r at *
  have hrr := Lib.hid hrr0
  clear hrr0
  go_region
  go_wp2
  obtain ⟨dd, hdd⟩ := undermiss_parts
  have KE := (HK0.out.trans HRR.out.2.1).set4 (hrr.out ▸ HBL.out) (Nat.le_of_eq hrr.out) (.int .i64 sn) (.bool false) (.int .i64 0) (.int .i64 0)
  have RE := rrep_set4 HRR.out.1 HROWR.out (by decide) (by decide) (.int .i64 sn) (.bool false) (.int .i64 0) (.int .i64 0)
  refine bodyPost_ret (st_results_three rfl _ _ r 378 #[.int .i64 sn, .bool false, .int .i64 0, .int .i64 0] dd rfl HROWE.out.drawn hdd Try.infomiss) rfl ?_
  exact ⟨rfl, RE.later (bl_drew (Below.refl _ _)), KE.then_below (hrr.out ▸ HBL.out) (bl_drew (Below.refl _ _))⟩
end Go.Proofs.Ytgdpjaojlhdhdaa
namespace Go.Proofs.Ytgdpjaojlhdhdaa
open Go.RowKit

set_option maxRecDepth 100000 in
set_option maxHeartbeats 3200000 in
theorem smiss_part {B p gb i : Nat} {bs : List Nat} (x : Nat) (w : World) (hr : RRep w p gb bs i) (hp : B ≤ p) (hx : x ≤ 16) (hf : i + x + 1 + 1 + pbN x + pbN x ≤ 8 * bs.length) (hpt : bitAt bs (i + x + 1) = true) :
    Calls Try.prog 336 #[.pointer (some ⟨p, 0, none⟩), .int .i64 x] w fun e w' => e = .returned (.tuple #[.agg #[.int .i64 (val (seg bs i x) : Nat), .bool true, .int .i64 (val (seg bs (i + x + 1 + 1) (pbN x)) : Nat), .int .i64 (endF ((val (seg bs (i + x + 1 + 1 + pbN x) (pbN x)) : Nat) : Int) x)], .bool (bitAt bs (i + x)), .int .i64 0]) ∧ RRep w' p gb bs (i + x + 1 + 1 + pbN x + pbN x) ∧ KeepR B w w' := by
  have ROW := Lib.hid (Row.made w 378 #[.int .i64 0, .bool false, .int .i64 0, .int .i64 0])
  have HSZ := Lib.hid (show (w.alloc (.cells #[.int .i64 0, .bool false, .int .i64 0, .int .i64 0] 378)).heap.size = w.heap.size + 1 by simp)
  have HBL := Lib.hid (show B ≤ w.heap.size by have := hr.1.inside; omega)
  have HK0 := Lib.hid ((KeepR.refl B w).alloc HBL.out (.cells #[.int .i64 0, .bool false, .int .i64 0, .int .i64 0] 378))
  have ST0 := Lib.hid (StR.start (B := B) (hr.later (bl_alloc (Below.refl _ _) (.cells #[.int .i64 0, .bool false, .int .i64 0, .int .i64 0] 378))) hp)
  have hsg : segs bs i [x, 1, 1] = [val (seg bs i x), (bitAt bs (i + x)).toNat, (bitAt bs (i + x + 1)).toNat] := by
    simp only [segs]
    rw [val_one (by omega), val_one (by omega)]
  rw [hpt] at hsg
  have hG := (ST0.out.more (bl_alloc (Below.refl _ _) (.cells #[.int .i64 x, .int .i64 1, .int .i64 1] 3))).get (g := w.heap.size + 1) (n := 3) (cap := 3) (W := [x, 1, 1]) (row_at2 _ _ 3 _ HSZ.out) rfl (by omega) (by intro y hy; simp at hy; omega) (by simp; omega)
  rw [hsg, show i + [x, 1, 1].sum = i + x + 1 + 1 by simp; omega] at hG
  have HG := Lib.hid hG
  have hsg2 : segs bs (i + x + 1 + 1) [pbN x, pbN x] = [val (seg bs (i + x + 1 + 1) (pbN x)), val (seg bs (i + x + 1 + 1 + pbN x) (pbN x))] := rfl
  have hl2 : val (seg bs (i + x + 1 + 1 + pbN x) (pbN x)) < 2 ^ pbN x := seg_lt2 (by omega)
  have hl3 : val (seg bs (i + x + 1 + 1 + pbN x) (pbN x)) ≤ 65535 := by have := (pow_pbN x).2; omega
  have HG2 := Lib.hid (fun W (hst : StR B W p gb bs (i + x + 1 + 1) W) => (hst.more (bl_alloc (Below.refl _ _) (.cells #[.int .i64 (pbN x : Nat), .int .i64 (pbN x : Nat)] 3))).get (g := W.heap.size) (n := 2) (cap := 2) (W := [pbN x, pbN x]) (row_at2 _ _ 3 #[.int .i64 (pbN x : Nat), .int .i64 (pbN x : Nat)] rfl) rfl (by omega) (by have := pbN_bd x; intro y hy; simp at hy; omega) (by simp; omega))
  rw [hsg2, show i + x + 1 + 1 + [pbN x, pbN x].sum = i + x + 1 + 1 + pbN x + pbN x by simp; omega] at HG2
  have HEND := Lib.hid (fun W => send_any ((val (seg bs (i + x + 1 + 1 + pbN x) (pbN x)) : Nat) : Int) x W (by omega) (by omega))
  have HPB := Lib.hid (fun W => splace_any x W)
  rw [pbN_cast] at HPB
  have hto : 0 ≤ endF ((val (seg bs (i + x + 1 + 1 + pbN x) (pbN x)) : Nat) : Int) x := by unfold endF; split <;> omega
  generalize endF ((val (seg bs (i + x + 1 + 1 + pbN x) (pbN x)) : Nat) : Int) x = to at *
  generalize val (seg bs (i + x + 1 + 1 + pbN x) (pbN x)) = l at *
  generalize val (seg bs (i + x + 1 + 1) (pbN x)) = fr at *
  generalize i + x + 1 + 1 + pbN x + pbN x = jend at *
  generalize pbN x = pb at *
  generalize val (seg bs i x) = sn at *
  generalize bitAt bs (i + x) = more at *
  have hbi := bit_is more
  clear hr hf hsg hpt hG hsg2 hl2 hl3 hto
  go_enter Try.func336, Try.ntmps336
  go_wp2_with (go_at_call 335; (with_reducible refine HG.out.mono ?_); rintro e w1 ⟨g1, rfl, hrow1, hg1, hs1⟩; (have KP := Lib.hid (HK0.out.trans hs1.2.1); have ST1 := Lib.hid hs1; have ROW1 := Lib.hid (hs1.2.1.row ROW.out (by decide)); have ROWH := Lib.hid hrow1; clear hs1 hg1 hrow1))
  have d0 := ROWH.out.drawn.read (i := 0) (x := .int .i64 sn) rfl
  have d2 := ROWH.out.drawn.read (i := 2) (x := .int .i64 1) rfl
  go_region_held3 (fun w' => w'.cell? ⟨g1, 0, none⟩ = some (.int .i64 sn) ∧ w'.cell? ⟨g1, 2, none⟩ = some (.int .i64 1)) (first | assumption | exact ⟨d0, d2⟩ | exact ⟨cell_more _ d0, cell_more _ d2⟩ | go_keep) (fail)
  have HROWM := Lib.hid (show Row (w1.alloc (.cells #[.int .i64 sn, .bool true, .int .i64 0, .int .i64 0] 378)).drew w1.heap.size 378 #[.int .i64 sn, .bool true, .int .i64 0, .int .i64 0] from (Row.made w1 _ _).drawn)
  have HROWR := Lib.hid (show Row (w1.alloc (.cells #[.int .i64 sn, .bool true, .int .i64 0, .int .i64 0] 378)).drew w.heap.size 378 #[.int .i64 0, .bool false, .int .i64 0, .int .i64 0] from (ROW1.out.more _).drawn)
  have HROWH := Lib.hid (show Row (w1.alloc (.cells #[.int .i64 sn, .bool true, .int .i64 0, .int .i64 0] 378)).drew g1 3 (intsR [sn, more.toNat, 1]).toArray from (ROWH.out.more _).drawn)
  have HRR := Lib.hid (show StR B (w.alloc (.cells #[.int .i64 0, .bool false, .int .i64 0, .int .i64 0] 378)) p gb bs (i + x + 1 + 1) (w1.alloc (.cells #[.int .i64 sn, .bool true, .int .i64 0, .int .i64 0] 378)).drew from ST1.out.more (bl_drew (bl_alloc (Below.refl _ _) _)))
  have hne : w.heap.size < w1.heap.size := ROW1.out.inside
  have hqA := ST1.out.2.1.2.1
  rw [HSZ.out] at hqA
  clear d0 d2
  generalize w1.heap.size = q at *
  generalize (w1.alloc (.cells #[.int .i64 sn, .bool true, .int .i64 0, .int .i64 0] 378)).drew = W2 at *
  have e1 := HROWM.out.read (i := 1) (x := .bool true) rfl
  have HC2 := Lib.hid (HG2.out W2 (StR.start HRR.out.1 hp))
  go_wp2_with (first
    | (go_at_call 349; (with_reducible refine (HPB.out _).mono ?_); rintro e vx ⟨rfl, rfl⟩)
    | (go_at_call 335; (with_reducible refine HC2.out.mono ?_); rintro e w5 ⟨g5, rfl, hrow5, hg5, hs5⟩; (have HK5 := Lib.hid hs5.2.1; have HRR5 := Lib.hid (HRR.out.next hs5); have ROW5 := Lib.hid hrow5; clear hrow5 hg5 hs5)))
  have HM5 := Lib.hid (HK5.out.row HROWM.out (by decide))
  have HR5 := Lib.hid (HK5.out.row HROWR.out (by decide))
  have HH5 := Lib.hid (HK5.out.row HROWH.out (by decide))
  clear e1
  obtain ⟨⟨m0, m1, m2, m3⟩, g0, g1', g2, g3⟩ := cells4 HM5.out
  have p0 := ROW5.out.read (i := 0) (x := .int .i64 fr) rfl
  have p1 := ROW5.out.read (i := 1) (x := .int .i64 l) rfl
  go_region_with (go_at_call 350; (with_reducible refine (HEND.out _).mono ?_); rintro e vx ⟨rfl, rfl⟩)
  all_goals
    have HM6 := Lib.hid (show Row ((w5.setCell ⟨q, 2, none⟩ (.int .i64 fr)).setCell ⟨q, 3, none⟩ (.int .i64 to)).drew q 378 #[.int .i64 sn, .bool true, .int .i64 fr, .int .i64 to] from ((HM5.out.written 2 _).written 3 _).drawn)
    have HR6 := Lib.hid (show Row ((w5.setCell ⟨q, 2, none⟩ (.int .i64 fr)).setCell ⟨q, 3, none⟩ (.int .i64 to)).drew w.heap.size 378 #[.int .i64 0, .bool false, .int .i64 0, .int .i64 0] from ((HR5.out.elsewhere (p := ⟨q, 2, none⟩) (Nat.ne_of_lt hne) _).elsewhere (p := ⟨q, 3, none⟩) (Nat.ne_of_lt hne) _).drawn)
    have hgq : g1 ≠ q := HH5.out.apart HM5.out (by decide)
    have HH6 := Lib.hid (show Row ((w5.setCell ⟨q, 2, none⟩ (.int .i64 fr)).setCell ⟨q, 3, none⟩ (.int .i64 to)).drew g1 3 (intsR [sn, more.toNat, 1]).toArray from ((HH5.out.elsewhere (p := ⟨q, 2, none⟩) hgq _).elsewhere (p := ⟨q, 3, none⟩) hgq _).drawn)
    have HS6 := Lib.hid (show StR B (w.alloc (.cells #[.int .i64 0, .bool false, .int .i64 0, .int .i64 0] 378)) p gb bs jend ((w5.setCell ⟨q, 2, none⟩ (.int .i64 fr)).setCell ⟨q, 3, none⟩ (.int .i64 to)).drew from ((HRR5.out.set (a := ⟨q, 2, none⟩) (by rw [HSZ.out]; exact hqA) HM5.out (by decide) (by decide) _).set (a := ⟨q, 3, none⟩) (by rw [HSZ.out]; exact hqA) (HM5.out.written 2 _) (by decide) (by decide) _).more (bl_drew (Below.refl _ _)))
    clear m0 m1 m2 m3 g0 g1' g2 g3 p0 p1
    generalize ((w5.setCell ⟨q, 2, none⟩ (.int .i64 fr)).setCell ⟨q, 3, none⟩ (.int .i64 to)).drew = W6 at *
    obtain ⟨⟨m0, m1, m2, m3⟩, -⟩ := cells4 HM6.out
    obtain ⟨⟨z0, z1, z2, z3⟩, f0, f1, f2, f3⟩ := cells4 HR6.out
    have h1 := HH6.out.read (i := 1) (x := .int .i64 more.toNat) rfl
    have HROWE := Lib.hid (show Row (set4 W6 w.heap.size (.int .i64 sn) (.bool true) (.int .i64 fr) (.int .i64 to)) w.heap.size 378 #[.int .i64 sn, .bool true, .int .i64 fr, .int .i64 to] from row_set4 HR6.out)
    have hx1 := cell_set4 (a := .int .i64 sn) (b := .bool true) (c := .int .i64 fr) (d := .int .i64 to) HR6.out HH6.out (by decide) (j := 1) (x := .int .i64 more.toNat) rfl
    unfold set4 at hx1
    have KE := Lib.hid ((HK0.out.trans HS6.out.2.1).set4 HBL.out (Nat.le_refl _) (.int .i64 sn) (.bool true) (.int .i64 fr) (.int .i64 to))
    have RE := Lib.hid (rrep_set4 HS6.out.1 HR6.out (by decide) (by decide) (.int .i64 sn) (.bool true) (.int .i64 fr) (.int .i64 to))
    have HBL2 := Lib.hid HBL.out
    clear hne hqA hgq
    go_wp2_with fail
    go_region
    go_wp2
    obtain ⟨dd, hdd⟩ := undermiss_parts
    refine bodyPost_ret (st_results_three rfl _ _ w.heap.size 378 #[.int .i64 sn, .bool true, .int .i64 fr, .int .i64 to] dd rfl HROWE.out.drawn hdd Try.infomiss) rfl ?_
    exact ⟨rfl, RE.out.later (bl_drew (Below.refl _ _)), KE.out.then_below HBL2.out (bl_drew (Below.refl _ _))⟩
end Go.Proofs.Ytgdpjaojlhdhdaa
namespace Go.Proofs.Ytgdpjaojlhdhdaa
open Go.RowKit

set_option maxRecDepth 100000 in
set_option maxHeartbeats 3200000 in
theorem smiss_cut {B p gb i : Nat} {bs : List Nat} (x : Nat) (w : World) (hr : RRep w p gb bs i) (hp : B ≤ p) (hx : x ≤ 16) (hf : i + x + 1 + 1 ≤ 8 * bs.length) (hf2 : 8 * bs.length < i + x + 1 + 1 + pbN x + pbN x) (hpt : bitAt bs (i + x + 1) = true) :
    Calls Try.prog 336 #[.pointer (some ⟨p, 0, none⟩), .int .i64 x] w fun e w' => e = .returned (.tuple #[.agg #[.int .i64 0, .bool false, .int .i64 0, .int .i64 0], .bool false, .int .i64 8]) ∧ KeepR B w w' := by
  have ROW := Lib.hid (Row.made w 378 #[.int .i64 0, .bool false, .int .i64 0, .int .i64 0])
  have HSZ := Lib.hid (show (w.alloc (.cells #[.int .i64 0, .bool false, .int .i64 0, .int .i64 0] 378)).heap.size = w.heap.size + 1 by simp)
  have HBL := Lib.hid (show B ≤ w.heap.size by have := hr.1.inside; omega)
  have HK0 := Lib.hid ((KeepR.refl B w).alloc HBL.out (.cells #[.int .i64 0, .bool false, .int .i64 0, .int .i64 0] 378))
  have ST0 := Lib.hid (StR.start (B := B) (hr.later (bl_alloc (Below.refl _ _) (.cells #[.int .i64 0, .bool false, .int .i64 0, .int .i64 0] 378))) hp)
  have hsg : segs bs i [x, 1, 1] = [val (seg bs i x), (bitAt bs (i + x)).toNat, (bitAt bs (i + x + 1)).toNat] := by
    simp only [segs]
    rw [val_one (by omega), val_one (by omega)]
  rw [hpt] at hsg
  have hG := (ST0.out.more (bl_alloc (Below.refl _ _) (.cells #[.int .i64 x, .int .i64 1, .int .i64 1] 3))).get (g := w.heap.size + 1) (n := 3) (cap := 3) (W := [x, 1, 1]) (row_at2 _ _ 3 _ HSZ.out) rfl (by omega) (by intro y hy; simp at hy; omega) (by simp; omega)
  rw [hsg, show i + [x, 1, 1].sum = i + x + 1 + 1 by simp; omega] at hG
  have HG := Lib.hid hG
  have HG2 := Lib.hid (fun W (hst : StR B W p gb bs (i + x + 1 + 1) W) => (hst.more (bl_alloc (Below.refl _ _) (.cells #[.int .i64 (pbN x : Nat), .int .i64 (pbN x : Nat)] 3))).get_no (g := W.heap.size) (n := 2) (cap := 2) (W := [pbN x, pbN x]) (row_at2 _ _ 3 #[.int .i64 (pbN x : Nat), .int .i64 (pbN x : Nat)] rfl) rfl (by omega) (by have := pbN_bd x; intro y hy; simp at hy; omega) (by simp; omega))
  have HPB := Lib.hid (fun W => splace_any x W)
  rw [pbN_cast] at HPB
  generalize pbN x = pb at *
  generalize val (seg bs i x) = sn at *
  generalize bitAt bs (i + x) = more at *
  have hbi := bit_is more
  clear hr hf hf2 hsg hpt hG
  go_enter Try.func336, Try.ntmps336
  go_wp2_with (go_at_call 335; (with_reducible refine HG.out.mono ?_); rintro e w1 ⟨g1, rfl, hrow1, hg1, hs1⟩; (have KP := Lib.hid (HK0.out.trans hs1.2.1); have ST1 := Lib.hid hs1; have ROW1 := Lib.hid (hs1.2.1.row ROW.out (by decide)); have ROWH := Lib.hid hrow1; clear hs1 hg1 hrow1))
  have d0 := ROWH.out.drawn.read (i := 0) (x := .int .i64 sn) rfl
  have d2 := ROWH.out.drawn.read (i := 2) (x := .int .i64 1) rfl
  go_region_held3 (fun w' => w'.cell? ⟨g1, 0, none⟩ = some (.int .i64 sn) ∧ w'.cell? ⟨g1, 2, none⟩ = some (.int .i64 1)) (first | assumption | exact ⟨d0, d2⟩ | exact ⟨cell_more _ d0, cell_more _ d2⟩ | go_keep) (fail)
  have HROWM := Lib.hid (show Row (w1.alloc (.cells #[.int .i64 sn, .bool true, .int .i64 0, .int .i64 0] 378)).drew w1.heap.size 378 #[.int .i64 sn, .bool true, .int .i64 0, .int .i64 0] from (Row.made w1 _ _).drawn)
  have HROWR := Lib.hid (show Row (w1.alloc (.cells #[.int .i64 sn, .bool true, .int .i64 0, .int .i64 0] 378)).drew w.heap.size 378 #[.int .i64 0, .bool false, .int .i64 0, .int .i64 0] from (ROW1.out.more _).drawn)
  have HROWH := Lib.hid (show Row (w1.alloc (.cells #[.int .i64 sn, .bool true, .int .i64 0, .int .i64 0] 378)).drew g1 3 (intsR [sn, more.toNat, 1]).toArray from (ROWH.out.more _).drawn)
  have HRR := Lib.hid (show StR B (w.alloc (.cells #[.int .i64 0, .bool false, .int .i64 0, .int .i64 0] 378)) p gb bs (i + x + 1 + 1) (w1.alloc (.cells #[.int .i64 sn, .bool true, .int .i64 0, .int .i64 0] 378)).drew from ST1.out.more (bl_drew (bl_alloc (Below.refl _ _) _)))
  have hne : w.heap.size < w1.heap.size := ROW1.out.inside
  have hqA := ST1.out.2.1.2.1
  rw [HSZ.out] at hqA
  clear d0 d2
  generalize w1.heap.size = q at *
  generalize (w1.alloc (.cells #[.int .i64 sn, .bool true, .int .i64 0, .int .i64 0] 378)).drew = W2 at *
  have e1 := HROWM.out.read (i := 1) (x := .bool true) rfl
  have HC2 := Lib.hid (HG2.out W2 (StR.start HRR.out.1 hp))
  go_wp2_with (first
    | (go_at_call 349; (with_reducible refine (HPB.out _).mono ?_); rintro e vx ⟨rfl, rfl⟩)
    | (go_at_call 335; (with_reducible refine HC2.out.mono ?_); rintro e w5 ⟨rfl, hk5⟩; (have HK5 := Lib.hid hk5; have HR5 := Lib.hid (hk5.row HROWR.out (by decide)); clear hk5; clear e1; obtain ⟨⟨c0, c1, c2, c3⟩, f0, f1, f2, f3⟩ := cells4 HR5.out)))
  obtain ⟨dd, hdd⟩ := undermiss_parts
  refine bodyPost_ret (st_results_three rfl _ _ w.heap.size 378 #[.int .i64 0, .bool false, .int .i64 0, .int .i64 0] dd rfl (row_set4 HR5.out) hdd Try.infomiss) rfl ?_
  exact ⟨rfl, ((HK0.out.trans HRR.out.2.1).trans HK5.out).set4 HBL.out (Nat.le_refl _) _ _ _ _⟩
def MissOk (B : Nat) (w : World) (p gb : Nat) (bs : List Nat) (x i : Nat) (e : Ending) (w' : World) : Prop :=
  (∀ m more j, rdMiss bs x i = some (m, more, j) → e = .returned (.tuple #[m.v, .bool more, .int .i64 0]) ∧ RRep w' p gb bs j) ∧ (rdMiss bs x i = none → e = .returned (.tuple #[.agg #[.int .i64 0, .bool false, .int .i64 0, .int .i64 0], .bool false, .int .i64 8])) ∧ KeepR B w w'
theorem smiss_any {B p gb i : Nat} {bs : List Nat} (x : Nat) (w : World) (hr : RRep w p gb bs i) (hp : B ≤ p) (hx : x ≤ 16) :
    Calls Try.prog 336 #[.pointer (some ⟨p, 0, none⟩), .int .i64 x] w (MissOk B w p gb bs x i) := by
  by_cases h1 : 8 * bs.length < i + x + 1 + 1
  · have e : rdMiss bs x i = none := by unfold rdMiss; rw [if_pos h1]
    exact (smiss_short x w hr hp hx h1).mono fun _ _ h => ⟨(fun m more j hj => by rw [e] at hj; cases hj), fun _ => h.1, h.2⟩
  · cases hpt : bitAt bs (i + x + 1)
    · have e : rdMiss bs x i = some (⟨((val (seg bs i x) : Nat) : Int), false, 0, 0⟩, bitAt bs (i + x), i + x + 1 + 1) := by unfold rdMiss; rw [if_neg h1, hpt]; rfl
      refine (smiss_whole x w hr hp hx (by omega) hpt).mono fun _ _ h => ⟨fun m more j hj => ?_, (fun hn => by rw [e] at hn; cases hn), h.2.2⟩
      rw [e] at hj
      injection hj with hj
      injection hj with j1 hj
      injection hj with j2 j3
      subst j1 j2 j3
      exact ⟨h.1, h.2.1⟩
    · by_cases h2 : 8 * bs.length < i + x + 1 + 1 + pbN x + pbN x
      · have e : rdMiss bs x i = none := by unfold rdMiss; rw [if_neg h1, if_pos hpt, if_pos h2]
        exact (smiss_cut x w hr hp hx (by omega) h2 hpt).mono fun _ _ h => ⟨(fun m more j hj => by rw [e] at hj; cases hj), fun _ => h.1, h.2⟩
      · have e : rdMiss bs x i = some (⟨((val (seg bs i x) : Nat) : Int), true, ((val (seg bs (i + x + 1 + 1) (pbN x)) : Nat) : Int), endF ((val (seg bs (i + x + 1 + 1 + pbN x) (pbN x)) : Nat) : Int) x⟩, bitAt bs (i + x), i + x + 1 + 1 + pbN x + pbN x) := by unfold rdMiss; rw [if_neg h1, if_pos hpt, if_neg h2]
        refine (smiss_part x w hr hp hx (by omega) hpt).mono fun _ _ h => ⟨fun m more j hj => ?_, (fun hn => by rw [e] at hn; cases hn), h.2.2⟩
        rw [e] at hj
        injection hj with hj
        injection hj with j1 hj
        injection hj with j2 j3
        subst j1 j2 j3
        exact ⟨h.1, h.2.1⟩
end Go.Proofs.Ytgdpjaojlhdhdaa
namespace Go.Proofs.Ytgdpjaojlhdhdaa
open Go.RowKit

theorem Try.infomiss2 : (Try.prog.info? 378).map (fun i => (i.zero, i.size, i.bytes)) = some (some (.agg #[.int .i64 0, .bool false, .int .i64 0, .int .i64 0]), 4, 32) := by kernel_rfl
def mcells (L : List MissM) : List Value := L.flatMap fun m => [.int .i64 m.sn, .bool m.part, .int .i64 m.fr, .int .i64 m.to]
theorem mcells_cons (m : MissM) (t : List MissM) : mcells (m :: t) = .int .i64 m.sn :: .bool m.part :: .int .i64 m.fr :: .int .i64 m.to :: mcells t := rfl
theorem mcells_append (a b : List MissM) : mcells (a ++ b) = mcells a ++ mcells b := by simp [mcells]
theorem len_mcells (L : List MissM) : (mcells L).length = L.length * 4 := by
  induction L with
  | nil => rfl
  | cons m t ih => rw [mcells_cons]; simp [ih]; omega
theorem mcells_at {L : List MissM} {k : Nat} {m : MissM} (h : L[k]? = some m) : (mcells L)[k * 4]? = some (.int .i64 m.sn) ∧ (mcells L)[k * 4 + 1]? = some (.bool m.part) ∧ (mcells L)[k * 4 + 2]? = some (.int .i64 m.fr) ∧ (mcells L)[k * 4 + 3]? = some (.int .i64 m.to) := by
  induction L generalizing k with
  | nil => simp at h
  | cons z r ih =>
    cases k with
    | zero => simp at h; subst h; exact ⟨rfl, rfl, rfl, rfl⟩
    | succ k =>
      have h2 := ih (k := k) (by simpa using h)
      rw [mcells_cons, show (k + 1) * 4 = k * 4 + 1 + 1 + 1 + 1 by omega]
      simpa using h2
def OwnM (B : Nat) (w : World) (v : Value) (L : List MissM) : Prop := w.ownsRow B 378 4 v L.length (mcells L)
theorem OwnM.nil (B : Nat) (w : World) : OwnM B w (.slice none 0 0) [] := World.ownsRow_nil _ _ _ _
theorem OwnM.form {B : Nat} {w : World} {v : Value} {L : List MissM} (h : OwnM B w v L) : ∃ A c, v = .slice A L.length c ∧ L.length ≤ c ∧ c ≤ 9223372036854775807 := by
  rcases h.2 with ⟨rfl, h0⟩ | ⟨g, cap, cur, rfl, _, _, h1, h2, _⟩
  · exact ⟨none, 0, by rw [h0], by omega, by omega⟩
  · exact ⟨_, cap, rfl, h1, by unfold maxLen at h2; omega⟩
theorem OwnM.src {B : Nat} {w : World} {A : Option Addr} {n c : Nat} {L : List MissM} (h : OwnM B w (.slice A n c) L) : MSrc w A L := by
  intro h0
  obtain ⟨g, cap', hv, _, _⟩ := World.ownsRow.form h h0
  injection hv with hA _ _
  subst hA
  have hc := World.ownsRow.cells h (g := g) rfl
  refine ⟨g, 0, rfl, fun k m hm => ?_⟩
  obtain ⟨a, b, c, d⟩ := mcells_at hm
  have q := fun j u hu => hc j u hu
  refine ⟨?_, ?_, ?_, ?_⟩
  · have := q _ _ a; rw [add_zero_addr] at this; rw [Nat.zero_add]; exact this
  · have := q _ _ b; rw [add_zero_addr] at this; rw [Nat.zero_add]; exact this
  · have := q _ _ c; rw [add_zero_addr] at this; rw [Nat.zero_add]; exact this
  · have := q _ _ d; rw [add_zero_addr] at this; rw [Nat.zero_add]; exact this
theorem OwnM.next {B : Nat} {w : World} {v : Value} {L : List MissM} (h : OwnM B w v L) (hB : B ≤ w.heap.size) (m : MissM) (hl : L.length ≤ 1000) :
    ∃ g c w3, (Builtin.append_ #[294, 294] 294 #[v, .slice (some ⟨w.heap.size, 0, none⟩) 1 1]).run Try.prog (w.alloc (.cells #[.int .i64 m.sn, .bool m.part, .int .i64 m.fr, .int .i64 m.to] 378)) = .ok (.slice (some ⟨g, 0, none⟩) (L.length + 1) c) w3 ∧
      OwnM B w3 (.slice (some ⟨g, 0, none⟩) (L.length + 1) c) (L ++ [m]) ∧ Only (fun k => v.ownBlock = some k) w w3 := by
  obtain ⟨i0, hi, hi0, hi1, hi2⟩ := info_parts Try.infomiss2
  obtain ⟨g, cap, w3, hr3, h2, h3, _, _⟩ := run_append_lies (P := Try.prog) (w.alloc (.cells #[.int .i64 m.sn, .bool m.part, .int .i64 m.fr, .int .i64 m.to] 378)) 294 294 B 378 i0 _ 4 32 Try.underlying294 hi hi0 hi1 hi2 rfl (by omega) v L.length _ (World.ownsRow.alloc h _) ⟨w.heap.size, 0, none⟩ 1 1 [.int .i64 m.sn, .bool m.part, .int .i64 m.fr, .int .i64 m.to] rfl
    (World.news_of_block (cs := #[.int .i64 m.sn, .bool m.part, .int .i64 m.fr, .int .i64 m.to]) (heap_alloc_new w _)) (by intro u hu; simp at hu; rcases hu with rfl | rfl | rfl | rfl <;> rfl) (by omega) (by unfold maxLen; omega) (by omega) (by simp; omega) _ rfl
  refine ⟨g, cap, w3, hr3, ?_, ((Only.refl (fun k => v.ownBlock = some k) w).alloc (.cells #[.int .i64 m.sn, .bool m.part, .int .i64 m.fr, .int .i64 m.to] 378)).grown h3 (fun k hk => .inl hk)⟩
  unfold OwnM
  rw [List.length_append, mcells_append]
  exact h2
end Go.Proofs.Ytgdpjaojlhdhdaa
namespace Go.Proofs.Ytgdpjaojlhdhdaa
open Go.RowKit

theorem st_scope_through {P : Program} {a : Act} {w : World} {Q : Exit → Act → World → Prop} {c tail : Code} (l : Nat) (J : Act → World → Prop) (μ : Act → World → Nat) (hf : findLabel c l = some (.seq .skip tail))
    (first : (∀ a w, J a w → tail.wp P (Exit.jump l J Q) a w) → c.wp P (Exit.jump l J Q) a w)
    (pass : ∀ a w, J a w → tail.wp P (Exit.jump l (fun a' w' => J a' w' ∧ μ a' w' < μ a w) Q) a w) : (Code.scope c).wp P Q a w := by
  refine wp_scope_jumps l J μ hf (first fun a w h b k cs => ?_) (fun a w h => wp_seq (wp_skip (pass a w h)))
  obtain ⟨e, a', w', hq, harr⟩ := pass a w h b k cs
  refine ⟨e, a', w', ?_, harr⟩
  cases e <;> simp only [Exit.jump] at hq ⊢
  all_goals first | exact hq | exact ⟨hq.1, hq.2.1⟩
theorem srest_yes {p g : Nat} {bs : List Nat} {i : Nat} (w : World) (hr : RRep w p g bs i) (h : restOk bs i = true) :
    Calls Try.prog 322 #[.pointer (some ⟨p, 0, none⟩)] w fun e w' => ∃ g', e = .returned (.tuple #[.slice (some ⟨g', 0, none⟩) 0 0, .int .i64 0]) ∧ Only (fun k => k = p) w w' := by
  obtain ⟨h1, h2⟩ := restOk_iff.1 h
  refine (rest_ok w hr h2).mono ?_
  rintro e w' ⟨g', rfl, _, _, _, ho⟩
  exact ⟨g', by rw [h1, Nat.sub_self], ho⟩
def RestNo (w : World) (p : Nat) (e : Ending) (w' : World) : Prop := ∃ (A : Option Addr) (n : Nat) (er : Int), e = .returned (.tuple #[.slice A n n, .int .i64 er]) ∧ Only (fun k => k = p) w w' ∧ ((er = 0 ∧ 0 < n) ∨ er = 3)
theorem srest_no {p g : Nat} {bs : List Nat} {i : Nat} (w : World) (hr : RRep w p g bs i) (h : restOk bs i = false) :
    Calls Try.prog 322 #[.pointer (some ⟨p, 0, none⟩)] w (RestNo w p) := by
  have hi := hr.2.2.1
  rcases first_one (bitAt bs) (8 * up i - i) i with h1 | ⟨j, h1, h2, h3, h4⟩
  · have h' : ∀ k, i ≤ k → k < 8 * up i → bitAt bs k = false := fun k hk1 hk2 => h1 k hk1 (by omega)
    have hne : bs.length ≠ up i := fun e => by
      have := restOk_iff.2 ⟨e, h'⟩
      rw [h] at this
      cases this
    have hup : up i ≤ bs.length := by unfold up; omega
    refine (rest_ok w hr h').mono ?_
    rintro e w' ⟨g', rfl, _, _, _, ho⟩
    exact ⟨_, _, _, rfl, ho, .inl ⟨rfl, by omega⟩⟩
  · refine (rest_form w hr j h1 (by omega) h3 h4).mono ?_
    rintro e w' ⟨rfl, rfl⟩
    exact ⟨_, _, _, rfl, Only.refl _ _, .inr rfl⟩
theorem OwnM.keepR {B B' : Nat} {w w' : World} {v : Value} {L : List MissM} (h : OwnM B w v L) (k : KeepR B' w w') : OwnM B w' v L := by
  refine ⟨h.1, ?_⟩
  rcases h.2 with h0 | ⟨g, cap, cur, rfl, hb, hh, h1⟩
  · exact .inl h0
  · exact .inr ⟨g, cap, cur, rfl, hb, k.row hh (by decide), h1⟩
theorem OwnM.later {B : Nat} {w w' : World} {v : Value} {L : List MissM} (h : OwnM B w v L) (k : Below w.heap.size w w') : OwnM B w' v L := own_only h (.of_below k) (fun _ _ h => h)
/-- what stands at the jump -/
structure StL (w : World) (bs : List Nat) (p gb q : Nat) (ack : Int) (acc : List MissM) (mv : Value) (i : Nat) (w' : World) : Prop where
  rd : RRep w' p gb bs i
  res : Row w' w.heap.size 296 #[.int .i64 0, .slice none 0 0]
  box : Row w' q 296 #[.int .i64 ack, mv]
  own : OwnM (w.heap.size + 1) w' mv acc
  below : Below w.heap.size w w'
  above : w.heap.size + 1 ≤ p ∧ w.heap.size < q
section
variable {w w1 w2 : World} {bs : List Nat} {p gb q i j : Nat} {ack : Int} {acc : List MissM} {mv : Value}
theorem StL.keep (h : StL w bs p gb q ack acc mv i w1) (hr : RRep w2 p gb bs j) (k : KeepR (w.heap.size + 1) w1 w2) : StL w bs p gb q ack acc mv j w2 :=
  ⟨hr, k.row h.res (by decide), k.row h.box (by decide), h.own.keepR k, h.below.trans (k.1.mono (Nat.le_succ _)), h.above⟩
theorem StL.more (h : StL w bs p gb q ack acc mv i w1) (hb : Below w1.heap.size w1 w2) : StL w bs p gb q ack acc mv i w2 :=
  ⟨h.rd.later hb, h.res.later hb, h.box.later hb, h.own.later hb, bl_step h.below hb, h.above⟩
theorem StL.size (h : StL w bs p gb q ack acc mv i w1) : w.heap.size + 1 ≤ w1.heap.size := h.res.inside
/-- one miss more -/
theorem StL.next (h : StL w bs p gb q ack acc mv i w1) (m : MissM) (hl : acc.length ≤ 1000) :
    ∃ g c w3, (Builtin.append_ #[294, 294] 294 #[mv, .slice (some ⟨w1.heap.size, 0, none⟩) 1 1]).run Try.prog (w1.alloc (.cells #[.int .i64 m.sn, .bool m.part, .int .i64 m.fr, .int .i64 m.to] 378)) = .ok (.slice (some ⟨g, 0, none⟩) (acc.length + 1) c) w3 ∧
      w3.cell? ⟨q, 1, none⟩ = some mv ∧ w3.frozen? ⟨q, 1, none⟩ = false ∧
      StL w bs p gb q ack (acc ++ [m]) (.slice (some ⟨g, 0, none⟩) (acc.length + 1) c) i (w3.setCell ⟨q, 1, none⟩ (.slice (some ⟨g, 0, none⟩) (acc.length + 1) c)) := by
  obtain ⟨g, c, w3, h1, h2, h3⟩ := h.own.next h.size m hl
  have hne : ∀ k t cs, Row w1 k t cs → t ≠ 378 → ¬ mv.ownBlock = some k := fun k t cs hk ht => own_apart h.own hk (Ne.symm ht)
  have hb : Row w3 q 296 #[.int .i64 ack, mv] := h.box.only h3 (hne _ _ _ h.box (by decide))
  have hs : Row w3 w.heap.size 296 #[.int .i64 0, .slice none 0 0] := h.res.only h3 (hne _ _ _ h.res (by decide))
  have hr : RRep w3 p gb bs i := h.rd.only h3 (hne _ _ _ h.rd.1 (by decide)) (hne _ _ _ h.rd.2.1 (by decide))
  have hqr : p ≠ q := hr.1.apart hb (by decide)
  have hqg : gb ≠ q := hr.2.1.apart hb (by decide)
  refine ⟨g, c, w3, h1, hb.read rfl, hb.free _, ?_, ?_, ?_, ?_, ?_, h.above⟩
  · exact ⟨hr.1.elsewhere (p := ⟨q, 1, none⟩) hqr _, hr.2.1.elsewhere (p := ⟨q, 1, none⟩) hqg _, hr.2.2⟩
  · exact hs.elsewhere (p := ⟨q, 1, none⟩) (Nat.ne_of_lt h.above.2) _
  · exact hb.written 1 _
  · exact own_only h2 ((Only.refl (fun k => k = q) w3).set (p := ⟨q, 1, none⟩) (.inl rfl) _) (fun k hk hS => own_apart h2 hb (by decide) (by rw [hk]; exact congrArg some hS))
  · exact (h.below.trans (h3.below (Nat.le_of_succ_le h.size) (fun k hk hS => by have := (h.own.lt k hS).1; omega))).setCell (p := ⟨q, 1, none⟩) (Nat.le_of_lt h.above.2) _
end
theorem sclip_any {B : Nat} {W : World} {v : Value} {L : List MissM} (hown : OwnM B W v L) :
    Calls Try.prog 338 #[v] W fun e w' => (∃ A, e = .returned (.slice A L.length L.length) ∧ MSrc W A L) ∧ W = w' := by
  obtain ⟨A, c, rfl, hc, hcm⟩ := hown.form
  have HS := Lib.hid (OwnM.src hown)
  generalize hn : L.length = n at *
  have HN := Lib.hid hn
  clear hown hn
  cases A with
  | none =>
    go_enter Try.func338, Try.ntmps338
    go_wp2
    go_ret
    exact ⟨⟨_, rfl, HS.out⟩, rfl⟩
  | some ad =>
    go_enter Try.func338, Try.ntmps338
    go_wp2
    go_ret
    exact ⟨⟨_, rfl, HS.out⟩, rfl⟩
theorem Try.infostat : (Try.prog.info? 296).map (·.size) = some 2 := by kernel_rfl
theorem Try.understat : (Try.prog.underlying 296).map (fun d => match d with | .struct _ => true | _ => false) = some true := by kernel_rfl
theorem understat_parts : ∃ fs, Try.prog.underlying 296 = some (.struct fs) := by
  obtain ⟨d, hd, h⟩ := Option.map_eq_some_iff.1 Try.understat
  cases d with
  | struct fs => exact ⟨fs, hd⟩
  | _ => simp at h
theorem st_results_two {fn : Func} {p u : Tmp} {ty : TypeId} (h : fn.results = #[.cell p ty, .tmp u]) (tmps : Array Value) (w : World) (g : Nat) (t : TypeId) (cs : Array Value) (fs : Array Field)
    (hp : tmps.getD p undef = .pointer (some ⟨g, 0, none⟩)) (hg : Row w g t cs)
    (hu : Try.prog.underlying ty = some (.struct fs)) (hi : (Try.prog.info? ty).map (·.size) = some cs.size) :
    (results fn tmps).run Try.prog w = .ok (.tuple #[.agg cs, tmps.getD u undef]) w := by
  rw [results_cell_tmp h, hp]
  simp only [asAddr, Sem.run_pure, Result.andThen_ok, run_loadVar_row w g t ty cs (0, 0) (.struct fs) hg hu rfl hi]
end Go.Proofs.Ytgdpjaojlhdhdaa
