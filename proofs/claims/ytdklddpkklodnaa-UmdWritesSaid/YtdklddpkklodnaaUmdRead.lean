/-
  The packet that bytes are.
-/
import Derived.Test.YtdklddpkklodnaaFldRead
import Derived.Test.YtdklddpkklodnaaUmdWrite
import Derived.Laws.ResultCell
namespace Go.Proofs.Ytdklddpkklodnaa
open Go.RowKit


theorem get54 {pr p g : Nat} {bs : List Nat} {i : Nat} (n : Nat) (ni : Int) (w : World) (e : ni = n) (hp : Row w pr 87 #[.pointer (some ⟨p, 0, none⟩)]) (hr : RRep w p g bs i) (hn : n ≤ 40) (h : i + n ≤ 8 * bs.length) :
    Calls Try.prog 54 #[.int .i64 ni, .pointer (some ⟨pr, 0, none⟩)] w fun e w' => e = .returned (.int .i64 (val (seg bs i n))) ∧ RRep w' p g bs (i + n) ∧ Only (fun k => k = p) w w' := by
  subst e
  have HG := Lib.hid (get_any n w hr (by omega) h)
  have hc : w.cell? ⟨pr, 0, none⟩ = some (.pointer (some ⟨p, 0, none⟩)) := hp.read rfl
  have hv : val (seg bs i n) < 9223372036854775808 := val_small (by rw [length_seg h]; omega)
  generalize val (seg bs i n) = v at *
  have hw : IntKind.i64.wrap (v : Int) = (v : Int) := by rw [IntKind.wrap_i64]; omega
  clear hr hp
  go_enter Try.func54, Try.ntmps54
  go_wp2_with (go_at_call 55; refine HG.out.mono ?_; rintro e w1 ⟨rfl, h1, h2⟩)
  go_ret
  exact ⟨ret_int (by first | rfl | exact hw), h1, h2⟩
/-- what a packet's bytes tell: why they are none, FI, the number, the fields -/
def umdRd (bs : List Nat) (wd : Nat) : Int × Nat × Nat × List (List Nat) :=
  if wd = 5 ∨ wd = 10 then
    if 4000 < bs.length then (2, 0, 0, [])
    else if bs.length < wd / 5 then (8, 0, 0, [])
    else if val (seg (bs.take (wd / 5)) 0 (if wd = 10 then 3 else 0)) ≠ 0 then (3, 0, 0, [])
    else if (fldR (bs.drop (wd / 5)) (bitAt (bs.take (wd / 5)) ((if wd = 10 then 3 else 0) + 2)) 11).1 = 0 then
      (0, val (seg (bs.take (wd / 5)) (if wd = 10 then 3 else 0) 2), val (seg (bs.take (wd / 5)) ((if wd = 10 then 3 else 0) + 2 + 1) wd), (fldR (bs.drop (wd / 5)) (bitAt (bs.take (wd / 5)) ((if wd = 10 then 3 else 0) + 2)) 11).2)
    else ((fldR (bs.drop (wd / 5)) (bitAt (bs.take (wd / 5)) ((if wd = 10 then 3 else 0) + 2)) 11).1, 0, 0, [])
  else (9, 0, 0, [])
def UrdAns (B : Nat) (w : World) (r : Int × Nat × Nat × List (List Nat)) (e : Ending) (w' : World) : Prop :=
  ((r.1 = 0 ∧ ∃ v L, r.2.2.2 = texts L ∧ e = .returned (.tuple #[.agg #[.int .i64 r.2.1, .int .i64 r.2.2.1, v], .int .i64 0]) ∧ OwnR B w' v L) ∨ (r.1 ≠ 0 ∧ e = .returned (.tuple #[.agg #[.int .i64 0, .int .i64 0, .slice none 0 0], .int .i64 r.1]))) ∧ Below B w w'
theorem urd_bad {B : Nat} {w w' : World} {er : Int} {r : Int × Nat × Nat × List (List Nat)} (h : r.1 = er) (h0 : er ≠ 0) (hb : Below B w w') : UrdAns B w r (.returned (.tuple #[.agg #[.int .i64 0, .int .i64 0, .slice none 0 0], .int .i64 er])) w' := by
  subst h
  exact ⟨.inr ⟨h0, rfl⟩, hb⟩
theorem fread_any {A : Option Addr} {bs : List Nat} (more : Bool) (wd n cap : Nat) (wi : Int) (w : World) (hw : wd = 11 ∨ wd = 15) (e : wi = wd) (hn : bs.length = n) (hm : n ≤ 8192) (hc : n ≤ cap) (hcm : cap ≤ 9223372036854775807) (hs : Src w A (bts bs)) (hb : ∀ b ∈ bs, b < 256) :
    Calls Try.prog 56 #[.slice A n cap, .bool more, .int .i64 wi] w (FldAns w.heap.size w (fldR bs more wd)) := by
  cases more
  · exact fread_no wd n cap wi w hn hm hc hcm hs hb
  · exact fread_yes wd n cap wi w hw e hn hm hc hcm hs hb
theorem OwnR.down {B B' : Nat} {w : World} {v : Value} {L : List RowB} (h : OwnR B w v L) (hb : B' ≤ B) : OwnR B' w v L := ⟨own_down h.own hb, fun r hr => (h.mine r hr).down hb⟩
/-- a reader while a head is read -/
structure RdSt (B : Nat) (w0 : World) (pr p g : Nat) (hd : List Nat) (i : Nat) (w : World) : Prop where
  rd : RRep w p g hd i
  cell : Row w pr 87 #[.pointer (some ⟨p, 0, none⟩)]
  below : Below B w0 w
  above : B ≤ p
  size : B ≤ w.heap.size
theorem RdSt.get {B pr p g i : Nat} {w0 w : World} {hd : List Nat} (h : RdSt B w0 pr p g hd i w) (n : Nat) (ni : Int) (e : ni = n) (hn : n ≤ 40) (h2 : i + n ≤ 8 * hd.length) :
    Calls Try.prog 54 #[.int .i64 ni, .pointer (some ⟨pr, 0, none⟩)] w fun e w' => e = .returned (.int .i64 (val (seg hd i n))) ∧ RdSt B w0 pr p g hd (i + n) w' := by
  refine (get54 n ni w e h.cell h.rd hn h2).mono ?_
  rintro e w' ⟨rfl, h3, h4⟩
  exact ⟨rfl, h3, h.cell.only h4 (h.cell.apart h.rd.1 (by decide)), h.below.trans (get_below h4 h.above h.size), h.above, Nat.le_trans h.size h4.size⟩
theorem one_bit {bs : List Nat} {i : Nat} (h : i < 8 * bs.length) : ((val (seg bs i 1) : Nat) : Int) = ((bitAt bs i).toNat : Int) := by rw [val_one h]
theorem bit_eq (b : Bool) : (((b.toNat : Nat) : Int) == 1) = b := by cases b <;> rfl

theorem Try.info24s : (Try.prog.info? 24).map (·.size) = some 3 := by kernel_rfl
theorem Try.under24s : (Try.prog.underlying 24).map (fun d => match d with | .struct _ => true | _ => false) = some true := by kernel_rfl
theorem under24_parts : ∃ fs, Try.prog.underlying 24 = some (.struct fs) := by
  obtain ⟨d, hd, h⟩ := Option.map_eq_some_iff.1 Try.under24s
  cases d with
  | struct fs => exact ⟨fs, hd⟩
  | _ => simp at h
theorem results_two {fn : Func} {p u : Tmp} {ty : TypeId} (h : fn.results = #[.cell p ty, .tmp u]) (tmps : Array Value) (w : World) (g : Nat) (t : TypeId) (cs : Array Value) (fs : Array Field)
    (hp : tmps.getD p undef = .pointer (some ⟨g, 0, none⟩)) (hg : Row w g t cs)
    (hu : Try.prog.underlying ty = some (.struct fs)) (hi : (Try.prog.info? ty).map (·.size) = some cs.size) :
    (results fn tmps).run Try.prog w = .ok (.tuple #[.agg cs, tmps.getD u undef]) w := by
  rw [results_cell_tmp h, hp]
  simp only [asAddr, Sem.run_pure, Result.andThen_ok, run_loadVar_row w g t ty cs (0, 0) (.struct fs) hg hu rfl hi]

set_option maxRecDepth 100000 in
set_option maxHeartbeats 1600000 in
theorem uread_kind {A : Option Addr} {bs : List Nat} (n cap : Nat) (wd : Int) (w : World) (h5 : wd ≠ 5) (h10 : wd ≠ 10) :
    Calls Try.prog 21 #[.slice A n cap, .int .i64 wd] w fun e w' => e = .returned (.tuple #[.agg #[.int .i64 0, .int .i64 0, .slice none 0 0], .int .i64 9]) ∧ Below w.heap.size w w' := by
  have hh : headN wd = (0, 0) := by unfold headN; rw [if_neg h5, if_neg h10]
  have HSH := Lib.hid (fun W => shape_any wd W)
  rw [hh] at HSH
  clear hh h5 h10
  go_enter Try.func21, Try.ntmps21
  go_wp2_with (go_at_call 40; refine (HSH.out _).mono ?_; rintro e w1 ⟨rfl, rfl⟩)
  exact bodyPost_ret (v := .tuple #[.agg #[.int .i64 0, .int .i64 0, .slice none 0 0], .int .i64 9]) (by simp [results, Try.results21, go_sem]) rfl ⟨rfl, by first | exact bl_alloc (Below.refl _ _) _ | exact (bl_alloc (Below.refl _ _) _).setCell (by simp) _⟩
end Go.Proofs.Ytdklddpkklodnaa
