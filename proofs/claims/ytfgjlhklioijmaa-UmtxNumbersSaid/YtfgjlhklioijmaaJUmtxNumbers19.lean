/-
  A head of amd is got bit by bit. A head of amd is read: what it tells, of each width, of a part or not.
-/
import Derived.Test.YtfgjlhklioijmaaJUmtxNumbers16
import Derived.Test.YtfgjlhklioijmaaJUmtxNumbers17
namespace Go.Proofs.Ytfgjlhklioijmaa
open Go.RowKit

/-- a reader in a cell that a closure holds, and a packet's box, while a head is read -/
structure AdSt (B : Nat) (w0 : World) (pr p g q : Nat) (hd : List Nat) (i : Nat) (cs : Array Value) (w : World) : Prop where
  rd : RRep w p g hd i
  cell : Row w pr 267 #[.pointer (some ⟨p, 0, none⟩)]
  box : Row w q 24 cs
  below : Below B w0 w
  above : B ≤ p ∧ B ≤ q
  size : B ≤ w.heap.size
theorem get_clos {pr p g : Nat} {bs : List Nat} {i : Nat} (n : Nat) (ni : Int) (w : World) (e : ni = n) (hp : Row w pr 267 #[.pointer (some ⟨p, 0, none⟩)]) (hr : RRep w p g bs i) (hn : n ≤ 40) (h : i + n ≤ 8 * bs.length) :
    Calls Try.prog 237 #[.int .i64 ni, .pointer (some ⟨pr, 0, none⟩)] w fun e w' => e = .returned (.int .i64 (val (seg bs i n))) ∧ RRep w' p g bs (i + n) ∧ Only (fun k => k = p) w w' := by
  subst e
  have HG := Lib.hid (get_any n w hr (by omega) h)
  have hc : w.cell? ⟨pr, 0, none⟩ = some (.pointer (some ⟨p, 0, none⟩)) := hp.read rfl
  have hv : val (seg bs i n) < 9223372036854775808 := val_small (by rw [length_seg h]; omega)
  generalize val (seg bs i n) = v at *
  have hw : IntKind.i64.wrap (v : Int) = (v : Int) := by rw [IntKind.wrap_i64]; omega
  clear hr hp
  go_enter Try.func237, Try.ntmps237
  go_wp2_with (go_at_call 198; refine HG.out.mono ?_; rintro e w1 ⟨rfl, h1, h2⟩)
  go_ret
  exact ⟨ret_int (by first | rfl | exact hw), h1, h2⟩
section
variable {B pr p g q i : Nat} {w0 w : World} {hd : List Nat} {cs : Array Value}
theorem AdSt.get (h : AdSt B w0 pr p g q hd i cs w) (n i' : Nat) (ni v : Int) (e : ni = n) (hi : i + n = i') (hv : ((val (seg hd i n) : Nat) : Int) = v) (hn : n ≤ 40) (h2 : i' ≤ 8 * hd.length) :
    Calls Try.prog 237 #[.int .i64 ni, .pointer (some ⟨pr, 0, none⟩)] w fun e w' => e = .returned (.int .i64 v) ∧ AdSt B w0 pr p g q hd i' cs w' := by
  subst hi hv
  refine (get_clos n ni w e h.cell h.rd hn h2).mono ?_
  rintro e w' ⟨rfl, h3, h4⟩
  exact ⟨rfl, h3, h.cell.only h4 (h.cell.apart h.rd.1 (by decide)), h.box.only h4 (h.box.apart h.rd.1 (by decide)), h.below.trans (get_below h4 h.above.1 h.size), h.above, Nat.le_trans h.size h4.size⟩
theorem AdSt.set (h : AdSt B w0 pr p g q hd i cs w) (j : Nat) (x : Value) : AdSt B w0 pr p g q hd i (cs.setIfInBounds j x) (w.setCell ⟨q, j, none⟩ x) := by
  have h1 : q ≠ p := h.box.apart h.rd.1 (by decide)
  have h2 : q ≠ g := h.box.apart h.rd.2.1 (by decide)
  have h3 : q ≠ pr := h.box.apart h.cell (by decide)
  refine ⟨⟨h.rd.1.elsewhere (Ne.symm h1) x, h.rd.2.1.elsewhere (Ne.symm h2) x, h.rd.2.2⟩, h.cell.elsewhere (Ne.symm h3) x, h.box.written j x, h.below.setCell h.above.2 x, h.above, ?_⟩
  rw [show (w.setCell ⟨q, j, none⟩ x).heap.size = w.heap.size by simp [World.setCell]]
  exact h.size
end
theorem cells_box {w : World} {g : Nat} {a b c d e f s : Value} (hr : Row w g 24 #[a, b, c, d, e, f, s]) :
    (w.cell? ⟨g, 0, none⟩ = some a ∧ w.cell? ⟨g, 1, none⟩ = some b ∧ w.cell? ⟨g, 2, none⟩ = some c ∧ w.cell? ⟨g, 3, none⟩ = some d ∧ w.cell? ⟨g, 4, none⟩ = some e ∧ w.cell? ⟨g, 5, none⟩ = some f ∧ w.cell? ⟨g, 6, none⟩ = some s) ∧
    (w.frozen? ⟨g, 0, none⟩ = false ∧ w.frozen? ⟨g, 1, none⟩ = false ∧ w.frozen? ⟨g, 2, none⟩ = false ∧ w.frozen? ⟨g, 3, none⟩ = false ∧ w.frozen? ⟨g, 4, none⟩ = false ∧ w.frozen? ⟨g, 5, none⟩ = false ∧ w.frozen? ⟨g, 6, none⟩ = false) :=
  ⟨⟨hr.read rfl, hr.read rfl, hr.read rfl, hr.read rfl, hr.read rfl, hr.read rfl, hr.read rfl⟩, hr.free _, hr.free _, hr.free _, hr.free _, hr.free _, hr.free _, hr.free _⟩
theorem Try.infoamd : (Try.prog.info? 24).map (·.size) = some 7 := by kernel_rfl
theorem Try.underamd : (Try.prog.underlying 24).map (fun d => match d with | .struct _ => true | _ => false) = some true := by kernel_rfl
theorem underamd_parts : ∃ fs, Try.prog.underlying 24 = some (.struct fs) := by
  obtain ⟨d, hd, h⟩ := Option.map_eq_some_iff.1 Try.underamd
  cases d with
  | struct fs => exact ⟨fs, hd⟩
  | _ => simp at h
theorem results_cell_tmp2 {fn : Func} {p u v : Tmp} {ty : TypeId} (h : fn.results = #[.cell p ty, .tmp u, .tmp v]) (tmps : Array Value) (P : Program) (w : World) :
    (results fn tmps).run P w =
      ((asAddr (tmps.getD p undef)).run P w).andThen fun a w₁ => ((loadVar ty a).run P w₁).andThen fun x w₂ => .ok (.tuple #[x, tmps.getD u undef, tmps.getD v undef]) w₂ := by
  simp only [results, h]
  simp [Sem.run_bind, Result.andThen]
theorem results_three {fn : Func} {p u v : Tmp} {ty : TypeId} (h : fn.results = #[.cell p ty, .tmp u, .tmp v]) (tmps : Array Value) (w : World) (g : Nat) (t : TypeId) (cs : Array Value) (fs : Array Field)
    (hp : tmps.getD p undef = .pointer (some ⟨g, 0, none⟩)) (hg : Row w g t cs)
    (hu : Try.prog.underlying ty = some (.struct fs)) (hi : (Try.prog.info? ty).map (·.size) = some cs.size) :
    (results fn tmps).run Try.prog w = .ok (.tuple #[.agg cs, tmps.getD u undef, tmps.getD v undef]) w := by
  rw [results_cell_tmp2 h, hp]
  simp only [asAddr, Sem.run_pure, Result.andThen_ok, run_loadVar_row w g t ty cs (0, 0) (.struct fs) hg hu rfl hi]
end Go.Proofs.Ytfgjlhklioijmaa
namespace Go.Proofs.Ytfgjlhklioijmaa
open Go.RowKit

set_option maxRecDepth 100000 in
set_option maxHeartbeats 6400000 in
theorem aread_10tl0 {A : Option Addr} {hd : List Nat} (poll more : Bool) (fi sn off : Nat) (x0 : Int) (cap : Nat) (w : World) (hn : hd.length = 4) (hc : 4 ≤ cap) (hs : Src w A (bts hd)) (hb : ∀ b ∈ hd, b < 256) (hx0 : ((val (seg hd 0 1) : Nat) : Int) = x0) (hx1 : ((val (seg hd 1 1) : Nat) : Int) = 1) (hx2 : ((val (seg hd 2 1) : Nat) : Int) = (poll.toNat : Int)) (hx3 : ((val (seg hd 3 2) : Nat) : Int) = (fi : Int)) (hx4 : ((val (seg hd 5 1) : Nat) : Int) = (more.toNat : Int)) (hx7 : ((val (seg hd 6 10) : Nat) : Int) = (sn : Int)) (hx8 : ((val (seg hd 16 1) : Nat) : Int) = 0) (hx9 : ((val (seg hd 17 15) : Nat) : Int) = (off : Int)) :
    Calls Try.prog 147 #[.slice A 4 cap, .int .i64 10] w fun e w' => e = .returned (.tuple #[.agg #[.bool poll, .int .i64 fi, .int .i64 sn, .bool true, .bool false, .int .i64 off, .slice none 0 0], .bool more, .int .i64 0]) ∧ Below w.heap.size w w' := by
  have HRD := Lib.hid (fun W (hb1 : Below w.heap.size w W) => (show Calls Try.prog 196 #[.slice A 4 cap] W fun e w' => ∃ p g, e = .returned (.pointer (some ⟨p, 0, none⟩)) ∧ W.heap.size ≤ p ∧ W.heap.size ≤ g ∧ RRep w' p g hd 0 ∧ Below W.heap.size W w' from by
    have h9 := read_any A cap hd W (by omega) (by omega) (src_later hs hb1) hb
    rw [hn] at h9
    exact h9))
  have HN := Lib.hid hn
  have Hx0 := Lib.hid hx0
  have Hx1 := Lib.hid hx1
  have Hx2 := Lib.hid hx2
  have Hx3 := Lib.hid hx3
  have Hx4 := Lib.hid hx4
  have Hx7 := Lib.hid hx7
  have Hx8 := Lib.hid hx8
  have Hx9 := Lib.hid hx9
  clear hs hb hn hx0 hx1 hx2 hx3 hx4 hx7 hx8 hx9
  have hmo : ((more.toNat : Int) == 1) = more := bit_eq _
  have hpo : ((poll.toNat : Int) == 1) = poll := bit_eq _
  have HB0 := Lib.hid (bl_alloc (Below.refl w.heap.size w) (.cells #[.bool false, .int .i64 0, .int .i64 0, .bool false, .bool false, .int .i64 0, .slice none 0 0] 24))
  have ROW0 := Lib.hid (Row.made w 24 #[.bool false, .int .i64 0, .int .i64 0, .bool false, .bool false, .int .i64 0, .slice none 0 0])
  have HSZ0 := Lib.hid (show (w.alloc (.cells #[.bool false, .int .i64 0, .int .i64 0, .bool false, .bool false, .int .i64 0, .slice none 0 0] 24)).heap.size = w.heap.size + 1 by simp)
  go_enter Try.func147, Try.ntmps147
  go_wp2_with (first
    | (go_at_call 196; refine (HRD.out _ HB0.out).mono ?_; rintro e w1 ⟨p, g, rfl, hp1, hg1, hr1, hb1⟩; rw [HSZ0.out] at hp1 hg1 hb1; (have hz1 : w.heap.size + 1 ≤ w1.heap.size := by have := hb1.size; rw [HSZ0.out] at this; exact this); have ST0 := Lib.hid (show AdSt (w.heap.size + 1) (w.alloc (.cells #[.bool false, .int .i64 0, .int .i64 0, .bool false, .bool false, .int .i64 0, .slice none 0 0] 24)) w1.heap.size p g (w1.heap.size + 1) hd 0 #[.bool false, .int .i64 0, .int .i64 0, .bool false, .bool false, .int .i64 0, .slice none 0 0] ((w1.alloc (.cells #[.pointer (some ⟨p, 0, none⟩)] 267)).alloc (.cells #[.bool false, .int .i64 0, .int .i64 0, .bool false, .bool false, .int .i64 0, .slice none 0 0] 24)) from ⟨(hr1.later (bl_alloc (Below.refl _ _) _)).later (bl_alloc (Below.refl _ _) _), (Row.made _ _ _).more _, (by have h := Row.made (w1.alloc (.cells #[.pointer (some ⟨p, 0, none⟩)] 267)) 24 #[.bool false, .int .i64 0, .int .i64 0, .bool false, .bool false, .int .i64 0, .slice none 0 0]; rw [show (w1.alloc (.cells #[.pointer (some ⟨p, 0, none⟩)] 267)).heap.size = w1.heap.size + 1 by simp] at h; exact h), hb1.trans ((bl_alloc (bl_alloc (Below.refl w1.heap.size w1) _) _).mono hz1), ⟨hp1, by omega⟩, by simp; omega⟩); clear hp1 hg1 hr1 hb1; have CG0 := Lib.hid (ST0.out.get 1 1 1 x0 rfl rfl Hx0.out (by omega) (by rw [HN.out]; omega)))
    | ((with_reducible refine CG0.out.mono ?_); rintro e w2 ⟨rfl, hst⟩; have ST1 := Lib.hid (show AdSt _ _ _ _ _ _ _ 1 #[.bool false, .int .i64 0, .int .i64 0, .bool false, .bool false, .int .i64 0, .slice none 0 0] w2 from hst); clear hst CG0; obtain ⟨⟨c0, c1, c2, c3, c4, c5, c6⟩, f0, f1, f2, f3, f4, f5, f6⟩ := cells_box ST1.out.box; have CG1 := Lib.hid ((show AdSt _ _ _ _ _ _ _ 1 #[.bool false, .int .i64 0, .int .i64 0, .bool false, .bool false, .int .i64 0, .slice none 0 0] _ from ST1.out).get 1 2 1 1 rfl rfl Hx1.out (by omega) (by rw [HN.out]; omega)))
    | ((with_reducible refine CG1.out.mono ?_); rintro e w3 ⟨rfl, hst⟩; have ST2 := Lib.hid (show AdSt _ _ _ _ _ _ _ 2 #[.bool false, .int .i64 0, .int .i64 0, .bool false, .bool false, .int .i64 0, .slice none 0 0] w3 from hst); clear hst CG1 c0 c1 c2 c3 c4 c5 c6 f0 f1 f2 f3 f4 f5 f6; obtain ⟨⟨c0, c1, c2, c3, c4, c5, c6⟩, f0, f1, f2, f3, f4, f5, f6⟩ := cells_box ST2.out.box; have CG2 := Lib.hid ((show AdSt _ _ _ _ _ _ _ 2 #[.bool false, .int .i64 0, .int .i64 0, .bool true, .bool false, .int .i64 0, .slice none 0 0] _ from (ST2.out.set 3 (.bool true))).get 1 3 1 (poll.toNat : Int) rfl rfl Hx2.out (by omega) (by rw [HN.out]; omega)))
    | ((with_reducible refine CG2.out.mono ?_); rintro e w4 ⟨rfl, hst⟩; have ST3 := Lib.hid (show AdSt _ _ _ _ _ _ _ 3 #[.bool false, .int .i64 0, .int .i64 0, .bool true, .bool false, .int .i64 0, .slice none 0 0] w4 from hst); clear hst CG2 c0 c1 c2 c3 c4 c5 c6 f0 f1 f2 f3 f4 f5 f6; obtain ⟨⟨c0, c1, c2, c3, c4, c5, c6⟩, f0, f1, f2, f3, f4, f5, f6⟩ := cells_box ST3.out.box; have CG3 := Lib.hid ((show AdSt _ _ _ _ _ _ _ 3 #[.bool poll, .int .i64 0, .int .i64 0, .bool true, .bool false, .int .i64 0, .slice none 0 0] _ from (ST3.out.set 0 (.bool poll))).get 2 5 2 (fi : Int) rfl rfl Hx3.out (by omega) (by rw [HN.out]; omega)))
    | ((with_reducible refine CG3.out.mono ?_); rintro e w5 ⟨rfl, hst⟩; have ST4 := Lib.hid (show AdSt _ _ _ _ _ _ _ 5 #[.bool poll, .int .i64 0, .int .i64 0, .bool true, .bool false, .int .i64 0, .slice none 0 0] w5 from hst); clear hst CG3 c0 c1 c2 c3 c4 c5 c6 f0 f1 f2 f3 f4 f5 f6; obtain ⟨⟨c0, c1, c2, c3, c4, c5, c6⟩, f0, f1, f2, f3, f4, f5, f6⟩ := cells_box ST4.out.box; have CG4 := Lib.hid ((show AdSt _ _ _ _ _ _ _ 5 #[.bool poll, .int .i64 fi, .int .i64 0, .bool true, .bool false, .int .i64 0, .slice none 0 0] _ from (ST4.out.set 1 (.int .i64 fi))).get 1 6 1 (more.toNat : Int) rfl rfl Hx4.out (by omega) (by rw [HN.out]; omega)))
    | ((with_reducible refine CG4.out.mono ?_); rintro e w6 ⟨rfl, hst⟩; have ST5 := Lib.hid (show AdSt _ _ _ _ _ _ _ 6 #[.bool poll, .int .i64 fi, .int .i64 0, .bool true, .bool false, .int .i64 0, .slice none 0 0] w6 from hst); clear hst CG4 c0 c1 c2 c3 c4 c5 c6 f0 f1 f2 f3 f4 f5 f6; obtain ⟨⟨c0, c1, c2, c3, c4, c5, c6⟩, f0, f1, f2, f3, f4, f5, f6⟩ := cells_box ST5.out.box; have CG5 := Lib.hid ((show AdSt _ _ _ _ _ _ _ 6 #[.bool poll, .int .i64 fi, .int .i64 0, .bool true, .bool false, .int .i64 0, .slice none 0 0] _ from ST5.out).get 10 16 10 (sn : Int) rfl rfl Hx7.out (by omega) (by rw [HN.out]; omega)))
    | ((with_reducible refine CG5.out.mono ?_); rintro e w7 ⟨rfl, hst⟩; have ST6 := Lib.hid (show AdSt _ _ _ _ _ _ _ 16 #[.bool poll, .int .i64 fi, .int .i64 0, .bool true, .bool false, .int .i64 0, .slice none 0 0] w7 from hst); clear hst CG5 c0 c1 c2 c3 c4 c5 c6 f0 f1 f2 f3 f4 f5 f6; obtain ⟨⟨c0, c1, c2, c3, c4, c5, c6⟩, f0, f1, f2, f3, f4, f5, f6⟩ := cells_box ST6.out.box; have CG6 := Lib.hid ((show AdSt _ _ _ _ _ _ _ 16 #[.bool poll, .int .i64 fi, .int .i64 sn, .bool true, .bool false, .int .i64 0, .slice none 0 0] _ from (ST6.out.set 2 (.int .i64 sn))).get 1 17 1 0 rfl rfl Hx8.out (by omega) (by rw [HN.out]; omega)))
    | ((with_reducible refine CG6.out.mono ?_); rintro e w8 ⟨rfl, hst⟩; have ST7 := Lib.hid (show AdSt _ _ _ _ _ _ _ 17 #[.bool poll, .int .i64 fi, .int .i64 sn, .bool true, .bool false, .int .i64 0, .slice none 0 0] w8 from hst); clear hst CG6 c0 c1 c2 c3 c4 c5 c6 f0 f1 f2 f3 f4 f5 f6; obtain ⟨⟨c0, c1, c2, c3, c4, c5, c6⟩, f0, f1, f2, f3, f4, f5, f6⟩ := cells_box ST7.out.box; have CG7 := Lib.hid ((show AdSt _ _ _ _ _ _ _ 17 #[.bool poll, .int .i64 fi, .int .i64 sn, .bool true, .bool false, .int .i64 0, .slice none 0 0] _ from (ST7.out.set 4 (.bool false))).get 15 32 15 (off : Int) rfl rfl Hx9.out (by omega) (by rw [HN.out]; omega)))
    | ((with_reducible refine CG7.out.mono ?_); rintro e w9 ⟨rfl, hst⟩; have ST8 := Lib.hid (show AdSt _ _ _ _ _ _ _ 32 #[.bool poll, .int .i64 fi, .int .i64 sn, .bool true, .bool false, .int .i64 0, .slice none 0 0] w9 from hst); clear hst CG7 c0 c1 c2 c3 c4 c5 c6 f0 f1 f2 f3 f4 f5 f6; obtain ⟨⟨c0, c1, c2, c3, c4, c5, c6⟩, f0, f1, f2, f3, f4, f5, f6⟩ := cells_box ST8.out.box; obtain ⟨⟨d0, d1, d2, d3, d4, d5, d6⟩, e0, e1, e2, e3, e4, e5, e6⟩ := cells_box (ROW0.out.under ST8.out.below (Nat.lt_succ_self _)))
    | (go_at_call 226; (with_reducible refine (aoff_any _ _).mono ?_); rintro e v1 ⟨rfl, rfl⟩; rw [show owA 10 = 15 from rfl]))
  have HE := Lib.hid ((ST8.out.set 5 (.int .i64 off)).below)
  have RR := Lib.hid ((Row.made w 24 #[.bool false, .int .i64 0, .int .i64 0, .bool false, .bool false, .int .i64 0, .slice none 0 0]).under HE.out (Nat.lt_succ_self _))
  obtain ⟨dd, hdd⟩ := underamd_parts
  have HB9 := Lib.hid (HB0.out.trans (HE.out.mono (Nat.le_succ _)))
  refine bodyPost_ret (results_three rfl _ _ w.heap.size 24 #[.bool poll, .int .i64 fi, .int .i64 sn, .bool true, .bool false, .int .i64 off, .slice none 0 0] dd rfl (((((((RR.out.written 0 (.bool poll)).written 1 (.int .i64 fi)).written 2 (.int .i64 sn)).written 3 (.bool true)).written 4 (.bool false)).written 5 (.int .i64 off)).written 6 (.slice none 0 0)) hdd Try.infoamd) rfl ?_
  exact ⟨rfl, (((((((HB9.out.setCell (p := ⟨w.heap.size, 0, none⟩) (Nat.le_refl _) (.bool poll)).setCell (p := ⟨w.heap.size, 1, none⟩) (Nat.le_refl _) (.int .i64 fi)).setCell (p := ⟨w.heap.size, 2, none⟩) (Nat.le_refl _) (.int .i64 sn)).setCell (p := ⟨w.heap.size, 3, none⟩) (Nat.le_refl _) (.bool true)).setCell (p := ⟨w.heap.size, 4, none⟩) (Nat.le_refl _) (.bool false)).setCell (p := ⟨w.heap.size, 5, none⟩) (Nat.le_refl _) (.int .i64 off)).setCell (p := ⟨w.heap.size, 6, none⟩) (Nat.le_refl _) (.slice none 0 0))⟩
set_option maxRecDepth 100000 in
set_option maxHeartbeats 6400000 in
theorem aread_10tl1 {A : Option Addr} {hd : List Nat} (poll more : Bool) (fi sn off : Nat) (x0 : Int) (cap : Nat) (w : World) (hn : hd.length = 4) (hc : 4 ≤ cap) (hs : Src w A (bts hd)) (hb : ∀ b ∈ hd, b < 256) (hx0 : ((val (seg hd 0 1) : Nat) : Int) = x0) (hx1 : ((val (seg hd 1 1) : Nat) : Int) = 1) (hx2 : ((val (seg hd 2 1) : Nat) : Int) = (poll.toNat : Int)) (hx3 : ((val (seg hd 3 2) : Nat) : Int) = (fi : Int)) (hx4 : ((val (seg hd 5 1) : Nat) : Int) = (more.toNat : Int)) (hx7 : ((val (seg hd 6 10) : Nat) : Int) = (sn : Int)) (hx8 : ((val (seg hd 16 1) : Nat) : Int) = 1) (hx9 : ((val (seg hd 17 15) : Nat) : Int) = (off : Int)) :
    Calls Try.prog 147 #[.slice A 4 cap, .int .i64 10] w fun e w' => e = .returned (.tuple #[.agg #[.bool poll, .int .i64 fi, .int .i64 sn, .bool true, .bool true, .int .i64 off, .slice none 0 0], .bool more, .int .i64 0]) ∧ Below w.heap.size w w' := by
  have HRD := Lib.hid (fun W (hb1 : Below w.heap.size w W) => (show Calls Try.prog 196 #[.slice A 4 cap] W fun e w' => ∃ p g, e = .returned (.pointer (some ⟨p, 0, none⟩)) ∧ W.heap.size ≤ p ∧ W.heap.size ≤ g ∧ RRep w' p g hd 0 ∧ Below W.heap.size W w' from by
    have h9 := read_any A cap hd W (by omega) (by omega) (src_later hs hb1) hb
    rw [hn] at h9
    exact h9))
  have HN := Lib.hid hn
  have Hx0 := Lib.hid hx0
  have Hx1 := Lib.hid hx1
  have Hx2 := Lib.hid hx2
  have Hx3 := Lib.hid hx3
  have Hx4 := Lib.hid hx4
  have Hx7 := Lib.hid hx7
  have Hx8 := Lib.hid hx8
  have Hx9 := Lib.hid hx9
  clear hs hb hn hx0 hx1 hx2 hx3 hx4 hx7 hx8 hx9
  have hmo : ((more.toNat : Int) == 1) = more := bit_eq _
  have hpo : ((poll.toNat : Int) == 1) = poll := bit_eq _
  have HB0 := Lib.hid (bl_alloc (Below.refl w.heap.size w) (.cells #[.bool false, .int .i64 0, .int .i64 0, .bool false, .bool false, .int .i64 0, .slice none 0 0] 24))
  have ROW0 := Lib.hid (Row.made w 24 #[.bool false, .int .i64 0, .int .i64 0, .bool false, .bool false, .int .i64 0, .slice none 0 0])
  have HSZ0 := Lib.hid (show (w.alloc (.cells #[.bool false, .int .i64 0, .int .i64 0, .bool false, .bool false, .int .i64 0, .slice none 0 0] 24)).heap.size = w.heap.size + 1 by simp)
  go_enter Try.func147, Try.ntmps147
  go_wp2_with (first
    | (go_at_call 196; refine (HRD.out _ HB0.out).mono ?_; rintro e w1 ⟨p, g, rfl, hp1, hg1, hr1, hb1⟩; rw [HSZ0.out] at hp1 hg1 hb1; (have hz1 : w.heap.size + 1 ≤ w1.heap.size := by have := hb1.size; rw [HSZ0.out] at this; exact this); have ST0 := Lib.hid (show AdSt (w.heap.size + 1) (w.alloc (.cells #[.bool false, .int .i64 0, .int .i64 0, .bool false, .bool false, .int .i64 0, .slice none 0 0] 24)) w1.heap.size p g (w1.heap.size + 1) hd 0 #[.bool false, .int .i64 0, .int .i64 0, .bool false, .bool false, .int .i64 0, .slice none 0 0] ((w1.alloc (.cells #[.pointer (some ⟨p, 0, none⟩)] 267)).alloc (.cells #[.bool false, .int .i64 0, .int .i64 0, .bool false, .bool false, .int .i64 0, .slice none 0 0] 24)) from ⟨(hr1.later (bl_alloc (Below.refl _ _) _)).later (bl_alloc (Below.refl _ _) _), (Row.made _ _ _).more _, (by have h := Row.made (w1.alloc (.cells #[.pointer (some ⟨p, 0, none⟩)] 267)) 24 #[.bool false, .int .i64 0, .int .i64 0, .bool false, .bool false, .int .i64 0, .slice none 0 0]; rw [show (w1.alloc (.cells #[.pointer (some ⟨p, 0, none⟩)] 267)).heap.size = w1.heap.size + 1 by simp] at h; exact h), hb1.trans ((bl_alloc (bl_alloc (Below.refl w1.heap.size w1) _) _).mono hz1), ⟨hp1, by omega⟩, by simp; omega⟩); clear hp1 hg1 hr1 hb1; have CG0 := Lib.hid (ST0.out.get 1 1 1 x0 rfl rfl Hx0.out (by omega) (by rw [HN.out]; omega)))
    | ((with_reducible refine CG0.out.mono ?_); rintro e w2 ⟨rfl, hst⟩; have ST1 := Lib.hid (show AdSt _ _ _ _ _ _ _ 1 #[.bool false, .int .i64 0, .int .i64 0, .bool false, .bool false, .int .i64 0, .slice none 0 0] w2 from hst); clear hst CG0; obtain ⟨⟨c0, c1, c2, c3, c4, c5, c6⟩, f0, f1, f2, f3, f4, f5, f6⟩ := cells_box ST1.out.box; have CG1 := Lib.hid ((show AdSt _ _ _ _ _ _ _ 1 #[.bool false, .int .i64 0, .int .i64 0, .bool false, .bool false, .int .i64 0, .slice none 0 0] _ from ST1.out).get 1 2 1 1 rfl rfl Hx1.out (by omega) (by rw [HN.out]; omega)))
    | ((with_reducible refine CG1.out.mono ?_); rintro e w3 ⟨rfl, hst⟩; have ST2 := Lib.hid (show AdSt _ _ _ _ _ _ _ 2 #[.bool false, .int .i64 0, .int .i64 0, .bool false, .bool false, .int .i64 0, .slice none 0 0] w3 from hst); clear hst CG1 c0 c1 c2 c3 c4 c5 c6 f0 f1 f2 f3 f4 f5 f6; obtain ⟨⟨c0, c1, c2, c3, c4, c5, c6⟩, f0, f1, f2, f3, f4, f5, f6⟩ := cells_box ST2.out.box; have CG2 := Lib.hid ((show AdSt _ _ _ _ _ _ _ 2 #[.bool false, .int .i64 0, .int .i64 0, .bool true, .bool false, .int .i64 0, .slice none 0 0] _ from (ST2.out.set 3 (.bool true))).get 1 3 1 (poll.toNat : Int) rfl rfl Hx2.out (by omega) (by rw [HN.out]; omega)))
    | ((with_reducible refine CG2.out.mono ?_); rintro e w4 ⟨rfl, hst⟩; have ST3 := Lib.hid (show AdSt _ _ _ _ _ _ _ 3 #[.bool false, .int .i64 0, .int .i64 0, .bool true, .bool false, .int .i64 0, .slice none 0 0] w4 from hst); clear hst CG2 c0 c1 c2 c3 c4 c5 c6 f0 f1 f2 f3 f4 f5 f6; obtain ⟨⟨c0, c1, c2, c3, c4, c5, c6⟩, f0, f1, f2, f3, f4, f5, f6⟩ := cells_box ST3.out.box; have CG3 := Lib.hid ((show AdSt _ _ _ _ _ _ _ 3 #[.bool poll, .int .i64 0, .int .i64 0, .bool true, .bool false, .int .i64 0, .slice none 0 0] _ from (ST3.out.set 0 (.bool poll))).get 2 5 2 (fi : Int) rfl rfl Hx3.out (by omega) (by rw [HN.out]; omega)))
    | ((with_reducible refine CG3.out.mono ?_); rintro e w5 ⟨rfl, hst⟩; have ST4 := Lib.hid (show AdSt _ _ _ _ _ _ _ 5 #[.bool poll, .int .i64 0, .int .i64 0, .bool true, .bool false, .int .i64 0, .slice none 0 0] w5 from hst); clear hst CG3 c0 c1 c2 c3 c4 c5 c6 f0 f1 f2 f3 f4 f5 f6; obtain ⟨⟨c0, c1, c2, c3, c4, c5, c6⟩, f0, f1, f2, f3, f4, f5, f6⟩ := cells_box ST4.out.box; have CG4 := Lib.hid ((show AdSt _ _ _ _ _ _ _ 5 #[.bool poll, .int .i64 fi, .int .i64 0, .bool true, .bool false, .int .i64 0, .slice none 0 0] _ from (ST4.out.set 1 (.int .i64 fi))).get 1 6 1 (more.toNat : Int) rfl rfl Hx4.out (by omega) (by rw [HN.out]; omega)))
    | ((with_reducible refine CG4.out.mono ?_); rintro e w6 ⟨rfl, hst⟩; have ST5 := Lib.hid (show AdSt _ _ _ _ _ _ _ 6 #[.bool poll, .int .i64 fi, .int .i64 0, .bool true, .bool false, .int .i64 0, .slice none 0 0] w6 from hst); clear hst CG4 c0 c1 c2 c3 c4 c5 c6 f0 f1 f2 f3 f4 f5 f6; obtain ⟨⟨c0, c1, c2, c3, c4, c5, c6⟩, f0, f1, f2, f3, f4, f5, f6⟩ := cells_box ST5.out.box; have CG5 := Lib.hid ((show AdSt _ _ _ _ _ _ _ 6 #[.bool poll, .int .i64 fi, .int .i64 0, .bool true, .bool false, .int .i64 0, .slice none 0 0] _ from ST5.out).get 10 16 10 (sn : Int) rfl rfl Hx7.out (by omega) (by rw [HN.out]; omega)))
    | ((with_reducible refine CG5.out.mono ?_); rintro e w7 ⟨rfl, hst⟩; have ST6 := Lib.hid (show AdSt _ _ _ _ _ _ _ 16 #[.bool poll, .int .i64 fi, .int .i64 0, .bool true, .bool false, .int .i64 0, .slice none 0 0] w7 from hst); clear hst CG5 c0 c1 c2 c3 c4 c5 c6 f0 f1 f2 f3 f4 f5 f6; obtain ⟨⟨c0, c1, c2, c3, c4, c5, c6⟩, f0, f1, f2, f3, f4, f5, f6⟩ := cells_box ST6.out.box; have CG6 := Lib.hid ((show AdSt _ _ _ _ _ _ _ 16 #[.bool poll, .int .i64 fi, .int .i64 sn, .bool true, .bool false, .int .i64 0, .slice none 0 0] _ from (ST6.out.set 2 (.int .i64 sn))).get 1 17 1 1 rfl rfl Hx8.out (by omega) (by rw [HN.out]; omega)))
    | ((with_reducible refine CG6.out.mono ?_); rintro e w8 ⟨rfl, hst⟩; have ST7 := Lib.hid (show AdSt _ _ _ _ _ _ _ 17 #[.bool poll, .int .i64 fi, .int .i64 sn, .bool true, .bool false, .int .i64 0, .slice none 0 0] w8 from hst); clear hst CG6 c0 c1 c2 c3 c4 c5 c6 f0 f1 f2 f3 f4 f5 f6; obtain ⟨⟨c0, c1, c2, c3, c4, c5, c6⟩, f0, f1, f2, f3, f4, f5, f6⟩ := cells_box ST7.out.box; have CG7 := Lib.hid ((show AdSt _ _ _ _ _ _ _ 17 #[.bool poll, .int .i64 fi, .int .i64 sn, .bool true, .bool true, .int .i64 0, .slice none 0 0] _ from (ST7.out.set 4 (.bool true))).get 15 32 15 (off : Int) rfl rfl Hx9.out (by omega) (by rw [HN.out]; omega)))
    | ((with_reducible refine CG7.out.mono ?_); rintro e w9 ⟨rfl, hst⟩; have ST8 := Lib.hid (show AdSt _ _ _ _ _ _ _ 32 #[.bool poll, .int .i64 fi, .int .i64 sn, .bool true, .bool true, .int .i64 0, .slice none 0 0] w9 from hst); clear hst CG7 c0 c1 c2 c3 c4 c5 c6 f0 f1 f2 f3 f4 f5 f6; obtain ⟨⟨c0, c1, c2, c3, c4, c5, c6⟩, f0, f1, f2, f3, f4, f5, f6⟩ := cells_box ST8.out.box; obtain ⟨⟨d0, d1, d2, d3, d4, d5, d6⟩, e0, e1, e2, e3, e4, e5, e6⟩ := cells_box (ROW0.out.under ST8.out.below (Nat.lt_succ_self _)))
    | (go_at_call 226; (with_reducible refine (aoff_any _ _).mono ?_); rintro e v1 ⟨rfl, rfl⟩; rw [show owA 10 = 15 from rfl]))
  have HE := Lib.hid ((ST8.out.set 5 (.int .i64 off)).below)
  have RR := Lib.hid ((Row.made w 24 #[.bool false, .int .i64 0, .int .i64 0, .bool false, .bool false, .int .i64 0, .slice none 0 0]).under HE.out (Nat.lt_succ_self _))
  obtain ⟨dd, hdd⟩ := underamd_parts
  have HB9 := Lib.hid (HB0.out.trans (HE.out.mono (Nat.le_succ _)))
  refine bodyPost_ret (results_three rfl _ _ w.heap.size 24 #[.bool poll, .int .i64 fi, .int .i64 sn, .bool true, .bool true, .int .i64 off, .slice none 0 0] dd rfl (((((((RR.out.written 0 (.bool poll)).written 1 (.int .i64 fi)).written 2 (.int .i64 sn)).written 3 (.bool true)).written 4 (.bool true)).written 5 (.int .i64 off)).written 6 (.slice none 0 0)) hdd Try.infoamd) rfl ?_
  exact ⟨rfl, (((((((HB9.out.setCell (p := ⟨w.heap.size, 0, none⟩) (Nat.le_refl _) (.bool poll)).setCell (p := ⟨w.heap.size, 1, none⟩) (Nat.le_refl _) (.int .i64 fi)).setCell (p := ⟨w.heap.size, 2, none⟩) (Nat.le_refl _) (.int .i64 sn)).setCell (p := ⟨w.heap.size, 3, none⟩) (Nat.le_refl _) (.bool true)).setCell (p := ⟨w.heap.size, 4, none⟩) (Nat.le_refl _) (.bool true)).setCell (p := ⟨w.heap.size, 5, none⟩) (Nat.le_refl _) (.int .i64 off)).setCell (p := ⟨w.heap.size, 6, none⟩) (Nat.le_refl _) (.slice none 0 0))⟩
end Go.Proofs.Ytfgjlhklioijmaa
