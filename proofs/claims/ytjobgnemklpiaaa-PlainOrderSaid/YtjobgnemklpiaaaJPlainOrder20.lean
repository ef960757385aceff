/-
  The packet that bytes are. How many bytes a head of amd has. A head of amd is written: its bytes, of each width, of a part or not. A packet of amd is written: its bytes, or why it has none. A head of amd is got bit by bit. A head of amd is read: what it tells, of each width, of a part or not.
-/
import Derived.Test.YtjobgnemklpiaaaJPlainOrder19
import Derived.Laws.ResultCell
import Derived.Test.YtjobgnemklpiaaaJPlainOrder18
namespace Go.Proofs.Ytjobgnemklpiaaa
open Go.RowKit


theorem get54 {pr p g : Nat} {bs : List Nat} {i : Nat} (n : Nat) (ni : Int) (w : World) (e : ni = n) (hp : Row w pr 211 #[.pointer (some ⟨p, 0, none⟩)]) (hr : RRep w p g bs i) (hn : n ≤ 40) (h : i + n ≤ 8 * bs.length) :
    Calls Try.prog 142 #[.int .i64 ni, .pointer (some ⟨pr, 0, none⟩)] w fun e w' => e = .returned (.int .i64 (val (seg bs i n))) ∧ RRep w' p g bs (i + n) ∧ Only (fun k => k = p) w w' := by
  subst e
  have HG := Lib.hid (get_any n w hr (by omega) h)
  have hc : w.cell? ⟨pr, 0, none⟩ = some (.pointer (some ⟨p, 0, none⟩)) := hp.read rfl
  have hv : val (seg bs i n) < 9223372036854775808 := val_small (by rw [length_seg h]; omega)
  generalize val (seg bs i n) = v at *
  have hw : IntKind.i64.wrap (v : Int) = (v : Int) := by rw [IntKind.wrap_i64]; omega
  clear hr hp
  go_enter Try.func142, Try.ntmps142
  go_wp2_with (go_at_call 143; refine HG.out.mono ?_; rintro e w1 ⟨rfl, h1, h2⟩)
  go_ret
  exact ⟨ret_int (by first | rfl | exact hw), h1, h2⟩
/-- what a packet's bytes tell: why they are none, FI, the number, the fields -/
def umdRd (bs : List Nat) (wd : Nat) : Int × Nat × Nat × List (List Nat) :=
  if wd = 5 ∨ wd = 10 then
    if 4000 < bs.length then (2, 0, 0, [])
    else if bs.length < wd / 5 then (8, 0, 0, [])
    else if val (seg (bs.take (wd / 5)) 0 (if wd = 10 then 3 else 0)) ≠ 0 then (3, 0, 0, [])
    else if (fldR (bs.drop (wd / 5)) (bitAt (bs.take (wd / 5)) ((if wd = 10 then 3 else 0) + 2)) 11).1 = 0 then
      (0, val (seg (bs.take (wd / 5)) (if wd = 10 then 3 else 0) 2), val (seg (bs.take (wd / 5)) ((if wd = 10 then 3 else 0) + 2 + 1) wd), (fldR (bs.drop (wd / 5)) (bitAt (bs.take (wd / 5)) ((if wd = 10 then 3 else 0) + 2)) 11).2)
    else ((fldR (bs.drop (wd / 5)) (bitAt (bs.take (wd / 5)) ((if wd = 10 then 3 else 0) + 2)) 11).1, 0, 0, [])
  else (9, 0, 0, [])
def UrdAns (B : Nat) (w : World) (r : Int × Nat × Nat × List (List Nat)) (e : Ending) (w' : World) : Prop :=
  ((r.1 = 0 ∧ ∃ v L, r.2.2.2 = texts L ∧ e = .returned (.tuple #[.agg #[.int .i64 r.2.1, .int .i64 r.2.2.1, v], .int .i64 0]) ∧ OwnR B w' v L) ∨ (r.1 ≠ 0 ∧ e = .returned (.tuple #[.agg #[.int .i64 0, .int .i64 0, .slice none 0 0], .int .i64 r.1]))) ∧ Below B w w'
theorem urd_bad {B : Nat} {w w' : World} {er : Int} {r : Int × Nat × Nat × List (List Nat)} (h : r.1 = er) (h0 : er ≠ 0) (hb : Below B w w') : UrdAns B w r (.returned (.tuple #[.agg #[.int .i64 0, .int .i64 0, .slice none 0 0], .int .i64 er])) w' := by
  subst h
  exact ⟨.inr ⟨h0, rfl⟩, hb⟩
theorem fread_any {A : Option Addr} {bs : List Nat} (more : Bool) (wd n cap : Nat) (wi : Int) (w : World) (hw : wd = 11 ∨ wd = 15) (e : wi = wd) (hn : bs.length = n) (hm : n ≤ 8192) (hc : n ≤ cap) (hcm : cap ≤ 9223372036854775807) (hs : Src w A (bts bs)) (hb : ∀ b ∈ bs, b < 256) :
    Calls Try.prog 144 #[.slice A n cap, .bool more, .int .i64 wi] w (FldAns w.heap.size w (fldR bs more wd)) := by
  cases more
  · exact fread_no wd n cap wi w hn hm hc hcm hs hb
  · exact fread_yes wd n cap wi w hw e hn hm hc hcm hs hb
theorem OwnR.down {B B' : Nat} {w : World} {v : Value} {L : List RowB} (h : OwnR B w v L) (hb : B' ≤ B) : OwnR B' w v L := ⟨own_down h.own hb, fun r hr => (h.mine r hr).down hb⟩
/-- a reader while a head is read -/
structure RdSt (B : Nat) (w0 : World) (pr p g : Nat) (hd : List Nat) (i : Nat) (w : World) : Prop where
  rd : RRep w p g hd i
  cell : Row w pr 211 #[.pointer (some ⟨p, 0, none⟩)]
  below : Below B w0 w
  above : B ≤ p
  size : B ≤ w.heap.size
theorem RdSt.get {B pr p g i : Nat} {w0 w : World} {hd : List Nat} (h : RdSt B w0 pr p g hd i w) (n : Nat) (ni : Int) (e : ni = n) (hn : n ≤ 40) (h2 : i + n ≤ 8 * hd.length) :
    Calls Try.prog 142 #[.int .i64 ni, .pointer (some ⟨pr, 0, none⟩)] w fun e w' => e = .returned (.int .i64 (val (seg hd i n))) ∧ RdSt B w0 pr p g hd (i + n) w' := by
  refine (get54 n ni w e h.cell h.rd hn h2).mono ?_
  rintro e w' ⟨rfl, h3, h4⟩
  exact ⟨rfl, h3, h.cell.only h4 (h.cell.apart h.rd.1 (by decide)), h.below.trans (get_below h4 h.above h.size), h.above, Nat.le_trans h.size h4.size⟩
theorem one_bit {bs : List Nat} {i : Nat} (h : i < 8 * bs.length) : ((val (seg bs i 1) : Nat) : Int) = ((bitAt bs i).toNat : Int) := by rw [val_one h]
theorem bit_eq (b : Bool) : (((b.toNat : Nat) : Int) == 1) = b := by cases b <;> rfl

theorem Try.info152s : (Try.prog.info? 152).map (·.size) = some 3 := by kernel_rfl
theorem Try.under152s : (Try.prog.underlying 152).map (fun d => match d with | .struct _ => true | _ => false) = some true := by kernel_rfl
theorem under152_parts : ∃ fs, Try.prog.underlying 152 = some (.struct fs) := by
  obtain ⟨d, hd, h⟩ := Option.map_eq_some_iff.1 Try.under152s
  cases d with
  | struct fs => exact ⟨fs, hd⟩
  | _ => simp at h
theorem results_two {fn : Func} {p u : Tmp} {ty : TypeId} (h : fn.results = #[.cell p ty, .tmp u]) (tmps : Array Value) (w : World) (g : Nat) (t : TypeId) (cs : Array Value) (fs : Array Field)
    (hp : tmps.getD p undef = .pointer (some ⟨g, 0, none⟩)) (hg : Row w g t cs)
    (hu : Try.prog.underlying ty = some (.struct fs)) (hi : (Try.prog.info? ty).map (·.size) = some cs.size) :
    (results fn tmps).run Try.prog w = .ok (.tuple #[.agg cs, tmps.getD u undef]) w := by
  rw [results_cell_tmp h, hp]
  simp only [asAddr, Sem.run_pure, Result.andThen_ok, run_loadVar_row w g t ty cs (0, 0) (.struct fs) hg hu rfl hi]

set_option maxRecDepth 100000 in
set_option maxHeartbeats 1600000 in
theorem uread_kind {A : Option Addr} {bs : List Nat} (n cap : Nat) (wd : Int) (w : World) (h5 : wd ≠ 5) (h10 : wd ≠ 10) :
    Calls Try.prog 88 #[.slice A n cap, .int .i64 wd] w fun e w' => e = .returned (.tuple #[.agg #[.int .i64 0, .int .i64 0, .slice none 0 0], .int .i64 9]) ∧ Below w.heap.size w w' := by
  have hh : headN wd = (0, 0) := by unfold headN; rw [if_neg h5, if_neg h10]
  have HSH := Lib.hid (fun W => shape_any wd W)
  rw [hh] at HSH
  clear hh h5 h10
  go_enter Try.func88, Try.ntmps88
  go_wp2_with (go_at_call 140; refine (HSH.out _).mono ?_; rintro e w1 ⟨rfl, rfl⟩)
  exact bodyPost_ret (v := .tuple #[.agg #[.int .i64 0, .int .i64 0, .slice none 0 0], .int .i64 9]) (by simp [results, Try.results88, go_sem]) rfl ⟨rfl, by first | exact bl_alloc (Below.refl _ _) _ | exact (bl_alloc (Below.refl _ _) _).setCell (by simp) _⟩
end Go.Proofs.Ytjobgnemklpiaaa
namespace Go.Proofs.Ytjobgnemklpiaaa
open Go.RowKit

/-- how many bytes a head has, or what is wrong -/
def headR (bs : List Nat) (wd : Nat) : Nat × Int :=
  if wd = 10 ∨ wd = 16 then
    if 4000 < bs.length then (0, 2) else if bs.length = 0 then (0, 8) else if bitAt bs 0 = false then (0, 4) else if bs.length < headNA (bitAt bs 1) wd then (0, 8) else (headNA (bitAt bs 1) wd, 0)
  else (0, 9)
theorem headA_nat {wd : Nat} (part : Bool) (hw : wd = 10 ∨ wd = 16) : headA part (wd : Int) = (headNA part wd : Int) := by
  rcases hw with rfl | rfl <;> cases part <;> rfl
theorem byte_one {bs : List Nat} {b : Nat} (h : bs[0]? = some b) (hb : b < 256) : bitAt bs 0 = !(((b : Int) / 128) == 0) ∧ bitAt bs 1 = (b / 64 % 2 == 1) := by
  refine ⟨?_, bitAt_eq (bs := bs) (i := 1) h⟩
  rw [bitAt_eq (bs := bs) (i := 0) h]
  have e : b / 2 ^ (7 - 0 % 8) % 2 = b / 128 := by
    have : (2 : Nat) ^ (7 - 0 % 8) = 128 := by decide
    rw [this]; omega
  rw [e]
  rcases Nat.lt_or_ge b 128 with h1 | h1
  · have h2 : b / 128 = 0 := by omega
    have h3 : (b : Int) / 128 = 0 := by omega
    rw [h2, h3]; rfl
  · have h2 : b / 128 = 1 := by omega
    have h3 : (b : Int) / 128 = 1 := by omega
    rw [h2, h3]; rfl
set_option maxRecDepth 100000 in
set_option maxHeartbeats 1600000 in
theorem headOf_any {A : Option Addr} {bs : List Nat} (wd n cap : Nat) (w : World) (hw : wd = 10 ∨ wd = 16) (hn : bs.length = n) (hs : Src w A (bts bs)) (hb : ∀ b ∈ bs, b < 256) :
    Calls Try.prog 194 #[.slice A n cap, .int .i64 wd] w fun e w' => e = .returned (.tuple #[.int .i64 (headR bs wd).1, .int .i64 (headR bs wd).2]) ∧ w = w' := by
  obtain ⟨_, _, hh0⟩ : lwA (wd : Int) = lwA (wd : Int) ∧ True ∧ headA false (wd : Int) ≠ 0 := ⟨rfl, trivial, by rcases hw with rfl | rfl <;> decide⟩
  have h0 : (headA false (wd : Int) == 0) = false := by simpa using hh0
  have HSH := Lib.hid (fun W => ahead_any false wd W)
  generalize headA false (wd : Int) = hf at *
  clear hh0
  rcases Nat.lt_or_ge 4000 n with h1 | h1
  · have HF := Lib.hid (show headR bs wd = (0, 2) by unfold headR; rw [if_pos hw, if_pos (by omega)])
    have h1' : (4000 : Int) < n := by omega
    clear hs hb hn hw
    go_enter Try.func194, Try.ntmps194
    go_wp2_with (go_at_call 209; refine (HSH.out _).mono ?_; rintro e w1 ⟨rfl, rfl⟩)
    go_ret2
    exact ⟨by rw [HF.out]; rfl, rfl⟩
  · have h1' : ¬ (4000 : Int) < n := by omega
    rcases Nat.eq_zero_or_pos n with h2 | h2
    · have HF := Lib.hid (show headR bs wd = (0, 8) by unfold headR; rw [if_pos hw, if_neg (by omega), if_pos (by omega)])
      subst h2
      clear hs hb hn hw
      go_enter Try.func194, Try.ntmps194
      go_wp2_with (go_at_call 209; refine (HSH.out _).mono ?_; rintro e w1 ⟨rfl, rfl⟩)
      go_ret2
      exact ⟨by rw [HF.out]; rfl, rfl⟩
    · have hnz : ((n : Int) == 0) = false := by simp; omega
      obtain ⟨ad, rfl, hc⟩ := hs (by rw [length_bts]; omega)
      obtain ⟨b, hb0⟩ : ∃ b, bs[0]? = some b := ⟨bs[0]'(by omega), List.getElem?_eq_getElem (by omega)⟩
      have hb1 : b < 256 := hb b (List.mem_of_getElem? hb0)
      have ca := hc 0 _ (bts_at hb0)
      have cb := ca
      rw [addr_zero] at cb
      obtain ⟨e0, e1⟩ := byte_one hb0 hb1
      have hF : headR bs wd = if bitAt bs 0 = false then (0, 4) else if n < headNA (bitAt bs 1) wd then (0, 8) else (headNA (bitAt bs 1) wd, 0) := by
        unfold headR
        rw [if_pos hw, if_neg (by omega), if_neg (by omega), hn]
      have hd6 : bits .and .u8 ((b : Int) / 64) 1 = (((bitAt bs 1).toNat : Nat) : Int) := by
        have := bit_u8 b 6 hb1
        rw [e1]
        exact this
      have HS2 := Lib.hid (fun p W => (show Calls Try.prog 209 #[.bool p, .int .i64 wd] W fun e w' => e = .returned (.int .i64 (headNA p wd)) ∧ W = w' from by
        have h := ahead_any p wd W
        rw [headA_nat p hw] at h
        exact h))
      have HF := Lib.hid hF
      generalize headR bs wd = F at *
      have hp : ((((bitAt bs 1).toNat : Nat) : Int) == 1) = bitAt bs 1 := bit_eq _
      generalize bitAt bs 1 = part at *
      clear hs hb hn hw hc hb0 hF e1
      cases hz : bitAt bs 0
      · rw [hz] at HF e0
        have hz2 : (((b : Int) / 128) == 0) = true := by
          cases h9 : (((b : Int) / 128) == 0)
          · rw [h9] at e0; cases e0
          · rfl
        clear e0 hz
        go_enter Try.func194, Try.ntmps194
        go_wp2_with (go_at_call 209; refine (HSH.out _).mono ?_; rintro e w1 ⟨rfl, rfl⟩)
        go_ret2
        exact ⟨by rw [HF.out]; rfl, rfl⟩
      · rw [hz] at HF e0
        have hz2 : (((b : Int) / 128) == 0) = false := by
          cases h9 : (((b : Int) / 128) == 0)
          · rfl
          · rw [h9] at e0; cases e0
        clear e0 hz
        rcases Nat.lt_or_ge n (headNA part wd) with h3 | h3
        · have HF2 := Lib.hid (show F = (0, 8) by rw [HF.out, if_neg (by decide), if_pos h3])
          have h3' : decide (n < headNA part wd) = true := decide_eq_true h3
          go_enter Try.func194, Try.ntmps194
          go_wp2_with (first
            | (go_at_call 209; (with_reducible refine (HSH.out _).mono ?_); rintro e w1 ⟨rfl, rfl⟩)
            | (go_at_call 209; (with_reducible refine (HS2.out _ _).mono ?_); rintro e w1 ⟨rfl, rfl⟩))
          go_ret2
          exact ⟨by rw [HF2.out]; rfl, rfl⟩
        · have HF2 := Lib.hid (show F = (headNA part wd, 0) by rw [HF.out, if_neg (by decide), if_neg (by omega)])
          have h3' : decide (n < headNA part wd) = false := decide_eq_false (by omega)
          go_enter Try.func194, Try.ntmps194
          go_wp2_with (first
            | (go_at_call 209; (with_reducible refine (HSH.out _).mono ?_); rintro e w1 ⟨rfl, rfl⟩)
            | (go_at_call 209; (with_reducible refine (HS2.out _ _).mono ?_); rintro e w1 ⟨rfl, rfl⟩))
          go_ret2
          exact ⟨by rw [HF2.out]; rfl, rfl⟩
end Go.Proofs.Ytjobgnemklpiaaa
namespace Go.Proofs.Ytjobgnemklpiaaa
open Go.RowKit

theorem WrSt.drew {B pr p t : Nat} {w0 w : World} {kp : List (Nat × Nat)} (h : WrSt B w0 pr p kp t w) : WrSt B w0 pr p kp t w.drew := by
  obtain ⟨sv, h1⟩ := h.rep
  exact ⟨⟨sv, h1.later (bl_drew (Below.refl _ _))⟩, h.cell, h.below.drew, h.size, h.len⟩
theorem byt_st {B pr p t : Nat} {w0 w : World} {kp : List (Nat × Nat)} (h : WrSt B w0 pr p kp t w) (ht : t ≤ 1000) :
    Calls Try.prog 153 #[.pointer (some ⟨p, 0, none⟩)] w fun e w' => ∃ g, e = .returned (.slice (some ⟨g, 0, none⟩) (packLen t) (packLen t)) ∧ w.heap.size ≤ g ∧ Row w' g 5 (bts (pack (bitsP kp))).toArray ∧ Below w.heap.size w w' := by
  obtain ⟨sv, hr⟩ := h.rep
  have h1 := bytes_any hr (by rw [h.len]; omega)
  rw [h.len] at h1
  exact h1
end Go.Proofs.Ytjobgnemklpiaaa
namespace Go.Proofs.Ytjobgnemklpiaaa
open Go.RowKit

def lwNA (wd : Nat) : Nat := if wd = 10 then 11 else 15
def owNA (wd : Nat) : Nat := if wd = 10 then 15 else 16
def amdBytes (poll part last : Bool) (fi sn off : Nat) (L : List RowB) (wd : Nat) : List Nat := pack (bitsP (putsA poll part last fi sn off (decide (1 < L.length)) wd)) ++ tailF (lens L) (lwNA wd) ++ flat L
theorem okn_pow {wd sn : Nat} (hw : wd = 10 ∨ wd = 16) (h : okn (wd : Int) (sn : Int) = true) : sn < 2 ^ wd := by
  have h1 := (okn_true h).2
  rcases hw with rfl | rfl
  · have e : sz ((10 : Nat) : Int) = 1024 := by decide
    rw [e] at h1; omega
  · have e : sz ((16 : Nat) : Int) = 65536 := by decide
    rw [e] at h1; omega
theorem placed_off {part last : Bool} {off wd : Nat} (hw : wd = 10 ∨ wd = 16) (h : placedA part last (off : Int) (wd : Int) = true) : off < 2 ^ owNA wd := by
  unfold placedA at h
  unfold owNA
  cases part
  · simp at h
    have h0 : off = 0 := by omega
    subst h0
    exact Nat.two_pow_pos _
  · simp only [if_true] at h
    have h2 := (of_decide_eq_true h).2
    rcases hw with rfl | rfl
    · have e : topA ((10 : Nat) : Int) = 32768 := rfl
      rw [e] at h2
      rw [if_pos rfl]
      omega
    · have e : topA ((16 : Nat) : Int) = 65536 := rfl
      rw [e] at h2
      rw [if_neg (by decide)]
      omega
theorem lwA_cast {wd : Nat} (hw : wd = 10 ∨ wd = 16) : lwA (wd : Int) = (lwNA wd : Int) ∧ (lwNA wd = 11 ∨ lwNA wd = 15) ∧ headA false (wd : Int) ≠ 0 := by
  rcases hw with rfl | rfl
  · exact ⟨rfl, .inl rfl, by decide⟩
  · exact ⟨rfl, .inr rfl, by decide⟩
end Go.Proofs.Ytjobgnemklpiaaa
namespace Go.Proofs.Ytjobgnemklpiaaa
open Go.RowKit

/-- a reader in a cell that a closure holds, and a packet's box, while a head is read -/
structure AdSt (B : Nat) (w0 : World) (pr p g q : Nat) (hd : List Nat) (i : Nat) (cs : Array Value) (w : World) : Prop where
  rd : RRep w p g hd i
  cell : Row w pr 211 #[.pointer (some ⟨p, 0, none⟩)]
  box : Row w q 192 cs
  below : Below B w0 w
  above : B ≤ p ∧ B ≤ q
  size : B ≤ w.heap.size
theorem get_clos {pr p g : Nat} {bs : List Nat} {i : Nat} (n : Nat) (ni : Int) (w : World) (e : ni = n) (hp : Row w pr 211 #[.pointer (some ⟨p, 0, none⟩)]) (hr : RRep w p g bs i) (hn : n ≤ 40) (h : i + n ≤ 8 * bs.length) :
    Calls Try.prog 210 #[.int .i64 ni, .pointer (some ⟨pr, 0, none⟩)] w fun e w' => e = .returned (.int .i64 (val (seg bs i n))) ∧ RRep w' p g bs (i + n) ∧ Only (fun k => k = p) w w' := by
  subst e
  have HG := Lib.hid (get_any n w hr (by omega) h)
  have hc : w.cell? ⟨pr, 0, none⟩ = some (.pointer (some ⟨p, 0, none⟩)) := hp.read rfl
  have hv : val (seg bs i n) < 9223372036854775808 := val_small (by rw [length_seg h]; omega)
  generalize val (seg bs i n) = v at *
  have hw : IntKind.i64.wrap (v : Int) = (v : Int) := by rw [IntKind.wrap_i64]; omega
  clear hr hp
  go_enter Try.func210, Try.ntmps210
  go_wp2_with (go_at_call 143; refine HG.out.mono ?_; rintro e w1 ⟨rfl, h1, h2⟩)
  go_ret
  exact ⟨ret_int (by first | rfl | exact hw), h1, h2⟩
section
variable {B pr p g q i : Nat} {w0 w : World} {hd : List Nat} {cs : Array Value}
theorem AdSt.get (h : AdSt B w0 pr p g q hd i cs w) (n i' : Nat) (ni v : Int) (e : ni = n) (hi : i + n = i') (hv : ((val (seg hd i n) : Nat) : Int) = v) (hn : n ≤ 40) (h2 : i' ≤ 8 * hd.length) :
    Calls Try.prog 210 #[.int .i64 ni, .pointer (some ⟨pr, 0, none⟩)] w fun e w' => e = .returned (.int .i64 v) ∧ AdSt B w0 pr p g q hd i' cs w' := by
  subst hi hv
  refine (get_clos n ni w e h.cell h.rd hn h2).mono ?_
  rintro e w' ⟨rfl, h3, h4⟩
  exact ⟨rfl, h3, h.cell.only h4 (h.cell.apart h.rd.1 (by decide)), h.box.only h4 (h.box.apart h.rd.1 (by decide)), h.below.trans (get_below h4 h.above.1 h.size), h.above, Nat.le_trans h.size h4.size⟩
theorem AdSt.set (h : AdSt B w0 pr p g q hd i cs w) (j : Nat) (x : Value) : AdSt B w0 pr p g q hd i (cs.setIfInBounds j x) (w.setCell ⟨q, j, none⟩ x) := by
  have h1 : q ≠ p := h.box.apart h.rd.1 (by decide)
  have h2 : q ≠ g := h.box.apart h.rd.2.1 (by decide)
  have h3 : q ≠ pr := h.box.apart h.cell (by decide)
  refine ⟨⟨h.rd.1.elsewhere (Ne.symm h1) x, h.rd.2.1.elsewhere (Ne.symm h2) x, h.rd.2.2⟩, h.cell.elsewhere (Ne.symm h3) x, h.box.written j x, h.below.setCell h.above.2 x, h.above, ?_⟩
  rw [show (w.setCell ⟨q, j, none⟩ x).heap.size = w.heap.size by simp [World.setCell]]
  exact h.size
end
theorem cells_box {w : World} {g : Nat} {a b c d e f s : Value} (hr : Row w g 192 #[a, b, c, d, e, f, s]) :
    (w.cell? ⟨g, 0, none⟩ = some a ∧ w.cell? ⟨g, 1, none⟩ = some b ∧ w.cell? ⟨g, 2, none⟩ = some c ∧ w.cell? ⟨g, 3, none⟩ = some d ∧ w.cell? ⟨g, 4, none⟩ = some e ∧ w.cell? ⟨g, 5, none⟩ = some f ∧ w.cell? ⟨g, 6, none⟩ = some s) ∧
    (w.frozen? ⟨g, 0, none⟩ = false ∧ w.frozen? ⟨g, 1, none⟩ = false ∧ w.frozen? ⟨g, 2, none⟩ = false ∧ w.frozen? ⟨g, 3, none⟩ = false ∧ w.frozen? ⟨g, 4, none⟩ = false ∧ w.frozen? ⟨g, 5, none⟩ = false ∧ w.frozen? ⟨g, 6, none⟩ = false) :=
  ⟨⟨hr.read rfl, hr.read rfl, hr.read rfl, hr.read rfl, hr.read rfl, hr.read rfl, hr.read rfl⟩, hr.free _, hr.free _, hr.free _, hr.free _, hr.free _, hr.free _, hr.free _⟩
theorem Try.infoamd : (Try.prog.info? 192).map (·.size) = some 7 := by kernel_rfl
theorem Try.underamd : (Try.prog.underlying 192).map (fun d => match d with | .struct _ => true | _ => false) = some true := by kernel_rfl
theorem underamd_parts : ∃ fs, Try.prog.underlying 192 = some (.struct fs) := by
  obtain ⟨d, hd, h⟩ := Option.map_eq_some_iff.1 Try.underamd
  cases d with
  | struct fs => exact ⟨fs, hd⟩
  | _ => simp at h
theorem results_cell_tmp2 {fn : Func} {p u v : Tmp} {ty : TypeId} (h : fn.results = #[.cell p ty, .tmp u, .tmp v]) (tmps : Array Value) (P : Program) (w : World) :
    (results fn tmps).run P w =
      ((asAddr (tmps.getD p undef)).run P w).andThen fun a w₁ => ((loadVar ty a).run P w₁).andThen fun x w₂ => .ok (.tuple #[x, tmps.getD u undef, tmps.getD v undef]) w₂ := by
  simp only [results, h]
  simp [Sem.run_bind, Result.andThen]
theorem results_three {fn : Func} {p u v : Tmp} {ty : TypeId} (h : fn.results = #[.cell p ty, .tmp u, .tmp v]) (tmps : Array Value) (w : World) (g : Nat) (t : TypeId) (cs : Array Value) (fs : Array Field)
    (hp : tmps.getD p undef = .pointer (some ⟨g, 0, none⟩)) (hg : Row w g t cs)
    (hu : Try.prog.underlying ty = some (.struct fs)) (hi : (Try.prog.info? ty).map (·.size) = some cs.size) :
    (results fn tmps).run Try.prog w = .ok (.tuple #[.agg cs, tmps.getD u undef, tmps.getD v undef]) w := by
  rw [results_cell_tmp2 h, hp]
  simp only [asAddr, Sem.run_pure, Result.andThen_ok, run_loadVar_row w g t ty cs (0, 0) (.struct fs) hg hu rfl hi]
end Go.Proofs.Ytjobgnemklpiaaa
namespace Go.Proofs.Ytjobgnemklpiaaa
open Go.RowKit

set_option maxRecDepth 100000 in
set_option maxHeartbeats 6400000 in
theorem aread_10tl0 {A : Option Addr} {hd : List Nat} (poll more : Bool) (fi sn off : Nat) (x0 : Int) (cap : Nat) (w : World) (hn : hd.length = 4) (hc : 4 ≤ cap) (hs : Src w A (bts hd)) (hb : ∀ b ∈ hd, b < 256) (hx0 : ((val (seg hd 0 1) : Nat) : Int) = x0) (hx1 : ((val (seg hd 1 1) : Nat) : Int) = 1) (hx2 : ((val (seg hd 2 1) : Nat) : Int) = (poll.toNat : Int)) (hx3 : ((val (seg hd 3 2) : Nat) : Int) = (fi : Int)) (hx4 : ((val (seg hd 5 1) : Nat) : Int) = (more.toNat : Int)) (hx7 : ((val (seg hd 6 10) : Nat) : Int) = (sn : Int)) (hx8 : ((val (seg hd 16 1) : Nat) : Int) = 0) (hx9 : ((val (seg hd 17 15) : Nat) : Int) = (off : Int)) :
    Calls Try.prog 195 #[.slice A 4 cap, .int .i64 10] w fun e w' => e = .returned (.tuple #[.agg #[.bool poll, .int .i64 fi, .int .i64 sn, .bool true, .bool false, .int .i64 off, .slice none 0 0], .bool more, .int .i64 0]) ∧ Below w.heap.size w w' := by
  have HRD := Lib.hid (fun W (hb1 : Below w.heap.size w W) => (show Calls Try.prog 141 #[.slice A 4 cap] W fun e w' => ∃ p g, e = .returned (.pointer (some ⟨p, 0, none⟩)) ∧ W.heap.size ≤ p ∧ W.heap.size ≤ g ∧ RRep w' p g hd 0 ∧ Below W.heap.size W w' from by
    have h9 := read_any A cap hd W (by omega) (by omega) (src_later hs hb1) hb
    rw [hn] at h9
    exact h9))
  have HN := Lib.hid hn
  have Hx0 := Lib.hid hx0
  have Hx1 := Lib.hid hx1
  have Hx2 := Lib.hid hx2
  have Hx3 := Lib.hid hx3
  have Hx4 := Lib.hid hx4
  have Hx7 := Lib.hid hx7
  have Hx8 := Lib.hid hx8
  have Hx9 := Lib.hid hx9
  clear hs hb hn hx0 hx1 hx2 hx3 hx4 hx7 hx8 hx9
  have hmo : ((more.toNat : Int) == 1) = more := bit_eq _
  have hpo : ((poll.toNat : Int) == 1) = poll := bit_eq _
  have HB0 := Lib.hid (bl_alloc (Below.refl w.heap.size w) (.cells #[.bool false, .int .i64 0, .int .i64 0, .bool false, .bool false, .int .i64 0, .slice none 0 0] 192))
  have ROW0 := Lib.hid (Row.made w 192 #[.bool false, .int .i64 0, .int .i64 0, .bool false, .bool false, .int .i64 0, .slice none 0 0])
  have HSZ0 := Lib.hid (show (w.alloc (.cells #[.bool false, .int .i64 0, .int .i64 0, .bool false, .bool false, .int .i64 0, .slice none 0 0] 192)).heap.size = w.heap.size + 1 by simp)
  go_enter Try.func195, Try.ntmps195
  go_wp2_with (first
    | (go_at_call 141; refine (HRD.out _ HB0.out).mono ?_; rintro e w1 ⟨p, g, rfl, hp1, hg1, hr1, hb1⟩; rw [HSZ0.out] at hp1 hg1 hb1; (have hz1 : w.heap.size + 1 ≤ w1.heap.size := by have := hb1.size; rw [HSZ0.out] at this; exact this); have ST0 := Lib.hid (show AdSt (w.heap.size + 1) (w.alloc (.cells #[.bool false, .int .i64 0, .int .i64 0, .bool false, .bool false, .int .i64 0, .slice none 0 0] 192)) w1.heap.size p g (w1.heap.size + 1) hd 0 #[.bool false, .int .i64 0, .int .i64 0, .bool false, .bool false, .int .i64 0, .slice none 0 0] ((w1.alloc (.cells #[.pointer (some ⟨p, 0, none⟩)] 211)).alloc (.cells #[.bool false, .int .i64 0, .int .i64 0, .bool false, .bool false, .int .i64 0, .slice none 0 0] 192)) from ⟨(hr1.later (bl_alloc (Below.refl _ _) _)).later (bl_alloc (Below.refl _ _) _), (Row.made _ _ _).more _, (by have h := Row.made (w1.alloc (.cells #[.pointer (some ⟨p, 0, none⟩)] 211)) 192 #[.bool false, .int .i64 0, .int .i64 0, .bool false, .bool false, .int .i64 0, .slice none 0 0]; rw [show (w1.alloc (.cells #[.pointer (some ⟨p, 0, none⟩)] 211)).heap.size = w1.heap.size + 1 by simp] at h; exact h), hb1.trans ((bl_alloc (bl_alloc (Below.refl w1.heap.size w1) _) _).mono hz1), ⟨hp1, by omega⟩, by simp; omega⟩); clear hp1 hg1 hr1 hb1; have CG0 := Lib.hid (ST0.out.get 1 1 1 x0 rfl rfl Hx0.out (by omega) (by rw [HN.out]; omega)))
    | ((with_reducible refine CG0.out.mono ?_); rintro e w2 ⟨rfl, hst⟩; have ST1 := Lib.hid (show AdSt _ _ _ _ _ _ _ 1 #[.bool false, .int .i64 0, .int .i64 0, .bool false, .bool false, .int .i64 0, .slice none 0 0] w2 from hst); clear hst CG0; obtain ⟨⟨c0, c1, c2, c3, c4, c5, c6⟩, f0, f1, f2, f3, f4, f5, f6⟩ := cells_box ST1.out.box; have CG1 := Lib.hid ((show AdSt _ _ _ _ _ _ _ 1 #[.bool false, .int .i64 0, .int .i64 0, .bool false, .bool false, .int .i64 0, .slice none 0 0] _ from ST1.out).get 1 2 1 1 rfl rfl Hx1.out (by omega) (by rw [HN.out]; omega)))
    | ((with_reducible refine CG1.out.mono ?_); rintro e w3 ⟨rfl, hst⟩; have ST2 := Lib.hid (show AdSt _ _ _ _ _ _ _ 2 #[.bool false, .int .i64 0, .int .i64 0, .bool false, .bool false, .int .i64 0, .slice none 0 0] w3 from hst); clear hst CG1 c0 c1 c2 c3 c4 c5 c6 f0 f1 f2 f3 f4 f5 f6; obtain ⟨⟨c0, c1, c2, c3, c4, c5, c6⟩, f0, f1, f2, f3, f4, f5, f6⟩ := cells_box ST2.out.box; have CG2 := Lib.hid ((show AdSt _ _ _ _ _ _ _ 2 #[.bool false, .int .i64 0, .int .i64 0, .bool true, .bool false, .int .i64 0, .slice none 0 0] _ from (ST2.out.set 3 (.bool true))).get 1 3 1 (poll.toNat : Int) rfl rfl Hx2.out (by omega) (by rw [HN.out]; omega)))
    | ((with_reducible refine CG2.out.mono ?_); rintro e w4 ⟨rfl, hst⟩; have ST3 := Lib.hid (show AdSt _ _ _ _ _ _ _ 3 #[.bool false, .int .i64 0, .int .i64 0, .bool true, .bool false, .int .i64 0, .slice none 0 0] w4 from hst); clear hst CG2 c0 c1 c2 c3 c4 c5 c6 f0 f1 f2 f3 f4 f5 f6; obtain ⟨⟨c0, c1, c2, c3, c4, c5, c6⟩, f0, f1, f2, f3, f4, f5, f6⟩ := cells_box ST3.out.box; have CG3 := Lib.hid ((show AdSt _ _ _ _ _ _ _ 3 #[.bool poll, .int .i64 0, .int .i64 0, .bool true, .bool false, .int .i64 0, .slice none 0 0] _ from (ST3.out.set 0 (.bool poll))).get 2 5 2 (fi : Int) rfl rfl Hx3.out (by omega) (by rw [HN.out]; omega)))
    | ((with_reducible refine CG3.out.mono ?_); rintro e w5 ⟨rfl, hst⟩; have ST4 := Lib.hid (show AdSt _ _ _ _ _ _ _ 5 #[.bool poll, .int .i64 0, .int .i64 0, .bool true, .bool false, .int .i64 0, .slice none 0 0] w5 from hst); clear hst CG3 c0 c1 c2 c3 c4 c5 c6 f0 f1 f2 f3 f4 f5 f6; obtain ⟨⟨c0, c1, c2, c3, c4, c5, c6⟩, f0, f1, f2, f3, f4, f5, f6⟩ := cells_box ST4.out.box; have CG4 := Lib.hid ((show AdSt _ _ _ _ _ _ _ 5 #[.bool poll, .int .i64 fi, .int .i64 0, .bool true, .bool false, .int .i64 0, .slice none 0 0] _ from (ST4.out.set 1 (.int .i64 fi))).get 1 6 1 (more.toNat : Int) rfl rfl Hx4.out (by omega) (by rw [HN.out]; omega)))
    | ((with_reducible refine CG4.out.mono ?_); rintro e w6 ⟨rfl, hst⟩; have ST5 := Lib.hid (show AdSt _ _ _ _ _ _ _ 6 #[.bool poll, .int .i64 fi, .int .i64 0, .bool true, .bool false, .int .i64 0, .slice none 0 0] w6 from hst); clear hst CG4 c0 c1 c2 c3 c4 c5 c6 f0 f1 f2 f3 f4 f5 f6; obtain ⟨⟨c0, c1, c2, c3, c4, c5, c6⟩, f0, f1, f2, f3, f4, f5, f6⟩ := cells_box ST5.out.box; have CG5 := Lib.hid ((show AdSt _ _ _ _ _ _ _ 6 #[.bool poll, .int .i64 fi, .int .i64 0, .bool true, .bool false, .int .i64 0, .slice none 0 0] _ from ST5.out).get 10 16 10 (sn : Int) rfl rfl Hx7.out (by omega) (by rw [HN.out]; omega)))
    | ((with_reducible refine CG5.out.mono ?_); rintro e w7 ⟨rfl, hst⟩; have ST6 := Lib.hid (show AdSt _ _ _ _ _ _ _ 16 #[.bool poll, .int .i64 fi, .int .i64 0, .bool true, .bool false, .int .i64 0, .slice none 0 0] w7 from hst); clear hst CG5 c0 c1 c2 c3 c4 c5 c6 f0 f1 f2 f3 f4 f5 f6; obtain ⟨⟨c0, c1, c2, c3, c4, c5, c6⟩, f0, f1, f2, f3, f4, f5, f6⟩ := cells_box ST6.out.box; have CG6 := Lib.hid ((show AdSt _ _ _ _ _ _ _ 16 #[.bool poll, .int .i64 fi, .int .i64 sn, .bool true, .bool false, .int .i64 0, .slice none 0 0] _ from (ST6.out.set 2 (.int .i64 sn))).get 1 17 1 0 rfl rfl Hx8.out (by omega) (by rw [HN.out]; omega)))
    | ((with_reducible refine CG6.out.mono ?_); rintro e w8 ⟨rfl, hst⟩; have ST7 := Lib.hid (show AdSt _ _ _ _ _ _ _ 17 #[.bool poll, .int .i64 fi, .int .i64 sn, .bool true, .bool false, .int .i64 0, .slice none 0 0] w8 from hst); clear hst CG6 c0 c1 c2 c3 c4 c5 c6 f0 f1 f2 f3 f4 f5 f6; obtain ⟨⟨c0, c1, c2, c3, c4, c5, c6⟩, f0, f1, f2, f3, f4, f5, f6⟩ := cells_box ST7.out.box; have CG7 := Lib.hid ((show AdSt _ _ _ _ _ _ _ 17 #[.bool poll, .int .i64 fi, .int .i64 sn, .bool true, .bool false, .int .i64 0, .slice none 0 0] _ from (ST7.out.set 4 (.bool false))).get 15 32 15 (off : Int) rfl rfl Hx9.out (by omega) (by rw [HN.out]; omega)))
    | ((with_reducible refine CG7.out.mono ?_); rintro e w9 ⟨rfl, hst⟩; have ST8 := Lib.hid (show AdSt _ _ _ _ _ _ _ 32 #[.bool poll, .int .i64 fi, .int .i64 sn, .bool true, .bool false, .int .i64 0, .slice none 0 0] w9 from hst); clear hst CG7 c0 c1 c2 c3 c4 c5 c6 f0 f1 f2 f3 f4 f5 f6; obtain ⟨⟨c0, c1, c2, c3, c4, c5, c6⟩, f0, f1, f2, f3, f4, f5, f6⟩ := cells_box ST8.out.box; obtain ⟨⟨d0, d1, d2, d3, d4, d5, d6⟩, e0, e1, e2, e3, e4, e5, e6⟩ := cells_box (ROW0.out.under ST8.out.below (Nat.lt_succ_self _)))
    | (go_at_call 211; (with_reducible refine (aoff_any _ _).mono ?_); rintro e v1 ⟨rfl, rfl⟩; rw [show owA 10 = 15 from rfl]))
  have HE := Lib.hid ((ST8.out.set 5 (.int .i64 off)).below)
  have RR := Lib.hid ((Row.made w 192 #[.bool false, .int .i64 0, .int .i64 0, .bool false, .bool false, .int .i64 0, .slice none 0 0]).under HE.out (Nat.lt_succ_self _))
  obtain ⟨dd, hdd⟩ := underamd_parts
  have HB9 := Lib.hid (HB0.out.trans (HE.out.mono (Nat.le_succ _)))
  refine bodyPost_ret (results_three rfl _ _ w.heap.size 192 #[.bool poll, .int .i64 fi, .int .i64 sn, .bool true, .bool false, .int .i64 off, .slice none 0 0] dd rfl (((((((RR.out.written 0 (.bool poll)).written 1 (.int .i64 fi)).written 2 (.int .i64 sn)).written 3 (.bool true)).written 4 (.bool false)).written 5 (.int .i64 off)).written 6 (.slice none 0 0)) hdd Try.infoamd) rfl ?_
  exact ⟨rfl, (((((((HB9.out.setCell (p := ⟨w.heap.size, 0, none⟩) (Nat.le_refl _) (.bool poll)).setCell (p := ⟨w.heap.size, 1, none⟩) (Nat.le_refl _) (.int .i64 fi)).setCell (p := ⟨w.heap.size, 2, none⟩) (Nat.le_refl _) (.int .i64 sn)).setCell (p := ⟨w.heap.size, 3, none⟩) (Nat.le_refl _) (.bool true)).setCell (p := ⟨w.heap.size, 4, none⟩) (Nat.le_refl _) (.bool false)).setCell (p := ⟨w.heap.size, 5, none⟩) (Nat.le_refl _) (.int .i64 off)).setCell (p := ⟨w.heap.size, 6, none⟩) (Nat.le_refl _) (.slice none 0 0))⟩
set_option maxRecDepth 100000 in
set_option maxHeartbeats 6400000 in
theorem aread_10tl1 {A : Option Addr} {hd : List Nat} (poll more : Bool) (fi sn off : Nat) (x0 : Int) (cap : Nat) (w : World) (hn : hd.length = 4) (hc : 4 ≤ cap) (hs : Src w A (bts hd)) (hb : ∀ b ∈ hd, b < 256) (hx0 : ((val (seg hd 0 1) : Nat) : Int) = x0) (hx1 : ((val (seg hd 1 1) : Nat) : Int) = 1) (hx2 : ((val (seg hd 2 1) : Nat) : Int) = (poll.toNat : Int)) (hx3 : ((val (seg hd 3 2) : Nat) : Int) = (fi : Int)) (hx4 : ((val (seg hd 5 1) : Nat) : Int) = (more.toNat : Int)) (hx7 : ((val (seg hd 6 10) : Nat) : Int) = (sn : Int)) (hx8 : ((val (seg hd 16 1) : Nat) : Int) = 1) (hx9 : ((val (seg hd 17 15) : Nat) : Int) = (off : Int)) :
    Calls Try.prog 195 #[.slice A 4 cap, .int .i64 10] w fun e w' => e = .returned (.tuple #[.agg #[.bool poll, .int .i64 fi, .int .i64 sn, .bool true, .bool true, .int .i64 off, .slice none 0 0], .bool more, .int .i64 0]) ∧ Below w.heap.size w w' := by
  have HRD := Lib.hid (fun W (hb1 : Below w.heap.size w W) => (show Calls Try.prog 141 #[.slice A 4 cap] W fun e w' => ∃ p g, e = .returned (.pointer (some ⟨p, 0, none⟩)) ∧ W.heap.size ≤ p ∧ W.heap.size ≤ g ∧ RRep w' p g hd 0 ∧ Below W.heap.size W w' from by
    have h9 := read_any A cap hd W (by omega) (by omega) (src_later hs hb1) hb
    rw [hn] at h9
    exact h9))
  have HN := Lib.hid hn
  have Hx0 := Lib.hid hx0
  have Hx1 := Lib.hid hx1
  have Hx2 := Lib.hid hx2
  have Hx3 := Lib.hid hx3
  have Hx4 := Lib.hid hx4
  have Hx7 := Lib.hid hx7
  have Hx8 := Lib.hid hx8
  have Hx9 := Lib.hid hx9
  clear hs hb hn hx0 hx1 hx2 hx3 hx4 hx7 hx8 hx9
  have hmo : ((more.toNat : Int) == 1) = more := bit_eq _
  have hpo : ((poll.toNat : Int) == 1) = poll := bit_eq _
  have HB0 := Lib.hid (bl_alloc (Below.refl w.heap.size w) (.cells #[.bool false, .int .i64 0, .int .i64 0, .bool false, .bool false, .int .i64 0, .slice none 0 0] 192))
  have ROW0 := Lib.hid (Row.made w 192 #[.bool false, .int .i64 0, .int .i64 0, .bool false, .bool false, .int .i64 0, .slice none 0 0])
  have HSZ0 := Lib.hid (show (w.alloc (.cells #[.bool false, .int .i64 0, .int .i64 0, .bool false, .bool false, .int .i64 0, .slice none 0 0] 192)).heap.size = w.heap.size + 1 by simp)
  go_enter Try.func195, Try.ntmps195
  go_wp2_with (first
    | (go_at_call 141; refine (HRD.out _ HB0.out).mono ?_; rintro e w1 ⟨p, g, rfl, hp1, hg1, hr1, hb1⟩; rw [HSZ0.out] at hp1 hg1 hb1; (have hz1 : w.heap.size + 1 ≤ w1.heap.size := by have := hb1.size; rw [HSZ0.out] at this; exact this); have ST0 := Lib.hid (show AdSt (w.heap.size + 1) (w.alloc (.cells #[.bool false, .int .i64 0, .int .i64 0, .bool false, .bool false, .int .i64 0, .slice none 0 0] 192)) w1.heap.size p g (w1.heap.size + 1) hd 0 #[.bool false, .int .i64 0, .int .i64 0, .bool false, .bool false, .int .i64 0, .slice none 0 0] ((w1.alloc (.cells #[.pointer (some ⟨p, 0, none⟩)] 211)).alloc (.cells #[.bool false, .int .i64 0, .int .i64 0, .bool false, .bool false, .int .i64 0, .slice none 0 0] 192)) from ⟨(hr1.later (bl_alloc (Below.refl _ _) _)).later (bl_alloc (Below.refl _ _) _), (Row.made _ _ _).more _, (by have h := Row.made (w1.alloc (.cells #[.pointer (some ⟨p, 0, none⟩)] 211)) 192 #[.bool false, .int .i64 0, .int .i64 0, .bool false, .bool false, .int .i64 0, .slice none 0 0]; rw [show (w1.alloc (.cells #[.pointer (some ⟨p, 0, none⟩)] 211)).heap.size = w1.heap.size + 1 by simp] at h; exact h), hb1.trans ((bl_alloc (bl_alloc (Below.refl w1.heap.size w1) _) _).mono hz1), ⟨hp1, by omega⟩, by simp; omega⟩); clear hp1 hg1 hr1 hb1; have CG0 := Lib.hid (ST0.out.get 1 1 1 x0 rfl rfl Hx0.out (by omega) (by rw [HN.out]; omega)))
    | ((with_reducible refine CG0.out.mono ?_); rintro e w2 ⟨rfl, hst⟩; have ST1 := Lib.hid (show AdSt _ _ _ _ _ _ _ 1 #[.bool false, .int .i64 0, .int .i64 0, .bool false, .bool false, .int .i64 0, .slice none 0 0] w2 from hst); clear hst CG0; obtain ⟨⟨c0, c1, c2, c3, c4, c5, c6⟩, f0, f1, f2, f3, f4, f5, f6⟩ := cells_box ST1.out.box; have CG1 := Lib.hid ((show AdSt _ _ _ _ _ _ _ 1 #[.bool false, .int .i64 0, .int .i64 0, .bool false, .bool false, .int .i64 0, .slice none 0 0] _ from ST1.out).get 1 2 1 1 rfl rfl Hx1.out (by omega) (by rw [HN.out]; omega)))
    | ((with_reducible refine CG1.out.mono ?_); rintro e w3 ⟨rfl, hst⟩; have ST2 := Lib.hid (show AdSt _ _ _ _ _ _ _ 2 #[.bool false, .int .i64 0, .int .i64 0, .bool false, .bool false, .int .i64 0, .slice none 0 0] w3 from hst); clear hst CG1 c0 c1 c2 c3 c4 c5 c6 f0 f1 f2 f3 f4 f5 f6; obtain ⟨⟨c0, c1, c2, c3, c4, c5, c6⟩, f0, f1, f2, f3, f4, f5, f6⟩ := cells_box ST2.out.box; have CG2 := Lib.hid ((show AdSt _ _ _ _ _ _ _ 2 #[.bool false, .int .i64 0, .int .i64 0, .bool true, .bool false, .int .i64 0, .slice none 0 0] _ from (ST2.out.set 3 (.bool true))).get 1 3 1 (poll.toNat : Int) rfl rfl Hx2.out (by omega) (by rw [HN.out]; omega)))
    | ((with_reducible refine CG2.out.mono ?_); rintro e w4 ⟨rfl, hst⟩; have ST3 := Lib.hid (show AdSt _ _ _ _ _ _ _ 3 #[.bool false, .int .i64 0, .int .i64 0, .bool true, .bool false, .int .i64 0, .slice none 0 0] w4 from hst); clear hst CG2 c0 c1 c2 c3 c4 c5 c6 f0 f1 f2 f3 f4 f5 f6; obtain ⟨⟨c0, c1, c2, c3, c4, c5, c6⟩, f0, f1, f2, f3, f4, f5, f6⟩ := cells_box ST3.out.box; have CG3 := Lib.hid ((show AdSt _ _ _ _ _ _ _ 3 #[.bool poll, .int .i64 0, .int .i64 0, .bool true, .bool false, .int .i64 0, .slice none 0 0] _ from (ST3.out.set 0 (.bool poll))).get 2 5 2 (fi : Int) rfl rfl Hx3.out (by omega) (by rw [HN.out]; omega)))
    | ((with_reducible refine CG3.out.mono ?_); rintro e w5 ⟨rfl, hst⟩; have ST4 := Lib.hid (show AdSt _ _ _ _ _ _ _ 5 #[.bool poll, .int .i64 0, .int .i64 0, .bool true, .bool false, .int .i64 0, .slice none 0 0] w5 from hst); clear hst CG3 c0 c1 c2 c3 c4 c5 c6 f0 f1 f2 f3 f4 f5 f6; obtain ⟨⟨c0, c1, c2, c3, c4, c5, c6⟩, f0, f1, f2, f3, f4, f5, f6⟩ := cells_box ST4.out.box; have CG4 := Lib.hid ((show AdSt _ _ _ _ _ _ _ 5 #[.bool poll, .int .i64 fi, .int .i64 0, .bool true, .bool false, .int .i64 0, .slice none 0 0] _ from (ST4.out.set 1 (.int .i64 fi))).get 1 6 1 (more.toNat : Int) rfl rfl Hx4.out (by omega) (by rw [HN.out]; omega)))
    | ((with_reducible refine CG4.out.mono ?_); rintro e w6 ⟨rfl, hst⟩; have ST5 := Lib.hid (show AdSt _ _ _ _ _ _ _ 6 #[.bool poll, .int .i64 fi, .int .i64 0, .bool true, .bool false, .int .i64 0, .slice none 0 0] w6 from hst); clear hst CG4 c0 c1 c2 c3 c4 c5 c6 f0 f1 f2 f3 f4 f5 f6; obtain ⟨⟨c0, c1, c2, c3, c4, c5, c6⟩, f0, f1, f2, f3, f4, f5, f6⟩ := cells_box ST5.out.box; have CG5 := Lib.hid ((show AdSt _ _ _ _ _ _ _ 6 #[.bool poll, .int .i64 fi, .int .i64 0, .bool true, .bool false, .int .i64 0, .slice none 0 0] _ from ST5.out).get 10 16 10 (sn : Int) rfl rfl Hx7.out (by omega) (by rw [HN.out]; omega)))
    | ((with_reducible refine CG5.out.mono ?_); rintro e w7 ⟨rfl, hst⟩; have ST6 := Lib.hid (show AdSt _ _ _ _ _ _ _ 16 #[.bool poll, .int .i64 fi, .int .i64 0, .bool true, .bool false, .int .i64 0, .slice none 0 0] w7 from hst); clear hst CG5 c0 c1 c2 c3 c4 c5 c6 f0 f1 f2 f3 f4 f5 f6; obtain ⟨⟨c0, c1, c2, c3, c4, c5, c6⟩, f0, f1, f2, f3, f4, f5, f6⟩ := cells_box ST6.out.box; have CG6 := Lib.hid ((show AdSt _ _ _ _ _ _ _ 16 #[.bool poll, .int .i64 fi, .int .i64 sn, .bool true, .bool false, .int .i64 0, .slice none 0 0] _ from (ST6.out.set 2 (.int .i64 sn))).get 1 17 1 1 rfl rfl Hx8.out (by omega) (by rw [HN.out]; omega)))
    | ((with_reducible refine CG6.out.mono ?_); rintro e w8 ⟨rfl, hst⟩; have ST7 := Lib.hid (show AdSt _ _ _ _ _ _ _ 17 #[.bool poll, .int .i64 fi, .int .i64 sn, .bool true, .bool false, .int .i64 0, .slice none 0 0] w8 from hst); clear hst CG6 c0 c1 c2 c3 c4 c5 c6 f0 f1 f2 f3 f4 f5 f6; obtain ⟨⟨c0, c1, c2, c3, c4, c5, c6⟩, f0, f1, f2, f3, f4, f5, f6⟩ := cells_box ST7.out.box; have CG7 := Lib.hid ((show AdSt _ _ _ _ _ _ _ 17 #[.bool poll, .int .i64 fi, .int .i64 sn, .bool true, .bool true, .int .i64 0, .slice none 0 0] _ from (ST7.out.set 4 (.bool true))).get 15 32 15 (off : Int) rfl rfl Hx9.out (by omega) (by rw [HN.out]; omega)))
    | ((with_reducible refine CG7.out.mono ?_); rintro e w9 ⟨rfl, hst⟩; have ST8 := Lib.hid (show AdSt _ _ _ _ _ _ _ 32 #[.bool poll, .int .i64 fi, .int .i64 sn, .bool true, .bool true, .int .i64 0, .slice none 0 0] w9 from hst); clear hst CG7 c0 c1 c2 c3 c4 c5 c6 f0 f1 f2 f3 f4 f5 f6; obtain ⟨⟨c0, c1, c2, c3, c4, c5, c6⟩, f0, f1, f2, f3, f4, f5, f6⟩ := cells_box ST8.out.box; obtain ⟨⟨d0, d1, d2, d3, d4, d5, d6⟩, e0, e1, e2, e3, e4, e5, e6⟩ := cells_box (ROW0.out.under ST8.out.below (Nat.lt_succ_self _)))
    | (go_at_call 211; (with_reducible refine (aoff_any _ _).mono ?_); rintro e v1 ⟨rfl, rfl⟩; rw [show owA 10 = 15 from rfl]))
  have HE := Lib.hid ((ST8.out.set 5 (.int .i64 off)).below)
  have RR := Lib.hid ((Row.made w 192 #[.bool false, .int .i64 0, .int .i64 0, .bool false, .bool false, .int .i64 0, .slice none 0 0]).under HE.out (Nat.lt_succ_self _))
  obtain ⟨dd, hdd⟩ := underamd_parts
  have HB9 := Lib.hid (HB0.out.trans (HE.out.mono (Nat.le_succ _)))
  refine bodyPost_ret (results_three rfl _ _ w.heap.size 192 #[.bool poll, .int .i64 fi, .int .i64 sn, .bool true, .bool true, .int .i64 off, .slice none 0 0] dd rfl (((((((RR.out.written 0 (.bool poll)).written 1 (.int .i64 fi)).written 2 (.int .i64 sn)).written 3 (.bool true)).written 4 (.bool true)).written 5 (.int .i64 off)).written 6 (.slice none 0 0)) hdd Try.infoamd) rfl ?_
  exact ⟨rfl, (((((((HB9.out.setCell (p := ⟨w.heap.size, 0, none⟩) (Nat.le_refl _) (.bool poll)).setCell (p := ⟨w.heap.size, 1, none⟩) (Nat.le_refl _) (.int .i64 fi)).setCell (p := ⟨w.heap.size, 2, none⟩) (Nat.le_refl _) (.int .i64 sn)).setCell (p := ⟨w.heap.size, 3, none⟩) (Nat.le_refl _) (.bool true)).setCell (p := ⟨w.heap.size, 4, none⟩) (Nat.le_refl _) (.bool true)).setCell (p := ⟨w.heap.size, 5, none⟩) (Nat.le_refl _) (.int .i64 off)).setCell (p := ⟨w.heap.size, 6, none⟩) (Nat.le_refl _) (.slice none 0 0))⟩
end Go.Proofs.Ytjobgnemklpiaaa
