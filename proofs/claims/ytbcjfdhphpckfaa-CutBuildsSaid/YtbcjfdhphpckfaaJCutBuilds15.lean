/-
  status: what is wrong with bytes; one miss is read. status: numbers are put, one behind the other. status: a miss is written, and a status. status: one miss is read. status: one miss is read, with a part. status: one miss is read, whatever the bits. status: a list of misses of a call's own, while it grows.
-/
import Derived.Test.YtbcjfdhphpckfaaJCutBuilds14
import Derived.Test.YtbcjfdhphpckfaaJCutBuilds05
import Derived.Test.YtbcjfdhphpckfaaJCutBuilds09
import Derived.Deep.RegionHeld3
import Derived.BigRegion
import Derived.Deep.RegionWith
import Derived.Laws.ResultCell
namespace Go.Proofs.Ytbcjfdhphpckfaa
open Go.RowKit

def faultS (bs : List Nat) (x : Int) : Int := if okS x = false then 9 else if bs.length = 0 then 8 else if 128 ≤ bs.getD 0 0 then 4 else if 16 ≤ bs.getD 0 0 then 3 else 0
set_option maxRecDepth 100000 in
set_option maxHeartbeats 1600000 in
theorem sfault_any {A : Option Addr} {bs : List Nat} (x : Int) (n cap : Nat) (w : World) (hn : bs.length = n) (hs : Src w A (bts bs)) (hb : ∀ b ∈ bs, b < 256) :
    Calls Try.prog 235 #[.slice A n cap, .int .i64 x] w fun e w' => e = .returned (.int .i64 (faultS bs x)) ∧ w = w' := by
  have HM := Lib.hid (fun W => smay_any x W)
  cases hx : okS x
  · have HF := Lib.hid (show faultS bs x = 9 by unfold faultS; rw [if_pos hx])
    rw [hx] at HM
    clear hx hs hb hn
    go_enter Try.func235, Try.ntmps235
    go_wp2_with (go_at_call 267; refine (HM.out _).mono ?_; rintro e w1 ⟨rfl, rfl⟩)
    go_ret
    exact ⟨by rw [HF.out]; rfl, rfl⟩
  · rw [hx] at HM
    cases bs with
    | nil =>
      have HF := Lib.hid (show faultS [] x = 8 by unfold faultS; rw [hx]; rfl)
      simp only [List.length_nil] at hn
      subst hn
      clear hx hs hb
      go_enter Try.func235, Try.ntmps235
      go_wp2_with (go_at_call 267; refine (HM.out _).mono ?_; rintro e w1 ⟨rfl, rfl⟩)
      go_ret
      exact ⟨by rw [HF.out]; rfl, rfl⟩
    | cons b r =>
      have hb0 : b < 256 := hb b (List.mem_cons_self ..)
      obtain ⟨ad, rfl, hc⟩ := hs (by simp [bts])
      have c0 : w.cell? (ad.add 0) = some (.int .u8 b) := hc 0 _ rfl
      have hn0 : 0 < n := by simp at hn; omega
      have hne : (n == 0) = false := by simp; omega
      have hneI : ((n : Int) == 0) = false := by simp; omega
      have HFF := Lib.hid (show faultS (b :: r) x = if 128 ≤ b then 4 else if 16 ≤ b then 3 else 0 by unfold faultS; rw [hx]; simp)
      have e0 : ad.add 0 = ad := by simp [Addr.add]
      rw [e0] at c0
      clear hx hc hb hn e0
      by_cases h1 : 128 ≤ b
      · have g1 : ((b : Int) / 2 ^ 7 == 1) = true := by simp; omega
        rw [if_pos h1] at HFF
        go_enter Try.func235, Try.ntmps235
        go_wp2_with (go_at_call 267; refine (HM.out _).mono ?_; rintro e w1 ⟨rfl, rfl⟩)
        go_ret
        exact ⟨by rw [HFF.out]; rfl, rfl⟩
      · have g1 : ((b : Int) / 2 ^ 7 == 1) = false := by simp; omega
        rw [if_neg h1] at HFF
        by_cases h2 : 16 ≤ b
        · have g2 : ((b : Int) / 2 ^ 4 != 0) = true := by simp; omega
          rw [if_pos h2] at HFF
          go_enter Try.func235, Try.ntmps235
          go_wp2_with (go_at_call 267; refine (HM.out _).mono ?_; rintro e w1 ⟨rfl, rfl⟩)
          go_ret
          exact ⟨by rw [HFF.out]; rfl, rfl⟩
        · have g2 : ((b : Int) / 2 ^ 4 != 0) = false := by simp; omega
          rw [if_neg h2] at HFF
          go_enter Try.func235, Try.ntmps235
          go_wp2_with (go_at_call 267; refine (HM.out _).mono ?_; rintro e w1 ⟨rfl, rfl⟩)
          go_ret
          exact ⟨by rw [HFF.out]; rfl, rfl⟩
end Go.Proofs.Ytbcjfdhphpckfaa
namespace Go.Proofs.Ytbcjfdhphpckfaa
open Go.RowKit

/-- below B nothing has changed, and rows of other types than a writer's stay -/
def KeepW (B : Nat) (w v : World) : Prop := Below B w v ∧ w.heap.size ≤ v.heap.size ∧ ∀ (g : Nat) (t : TypeId) (cs : Array Value), t ≠ 5 → t ≠ 318 → Row w g t cs → Row v g t cs
section
variable {B : Nat} {w v u : World}
theorem KeepW.refl (B : Nat) (w : World) : KeepW B w w := ⟨Below.refl _ _, Nat.le_refl _, fun _ _ _ _ _ h => h⟩
theorem KeepW.trans (h : KeepW B w v) (k : KeepW B v u) : KeepW B w u := ⟨h.1.trans k.1, Nat.le_trans h.2.1 k.2.1, fun g t cs h1 h2 hr => k.2.2 g t cs h1 h2 (h.2.2 g t cs h1 h2 hr)⟩
theorem KeepW.of_below (h : Below w.heap.size w v) (hB : B ≤ w.heap.size) : KeepW B w v := ⟨h.mono hB, h.size, fun _ _ _ _ _ hr => hr.later h⟩
theorem KeepW.alloc (h : KeepW B w v) (hB : B ≤ w.heap.size) (o : Obj) : KeepW B w (v.alloc o) := h.trans (KeepW.of_below (bl_alloc (Below.refl _ _) o) (Nat.le_trans hB h.2.1))
theorem KeepW.row (h : KeepW B w v) {g : Nat} {t : TypeId} {cs : Array Value} (hr : Row w g t cs) (h1 : t ≠ 5) (h2 : t ≠ 318) : Row v g t cs := h.2.2 g t cs h1 h2 hr
end
theorem wrote_keep {B : Nat} {w v : World} {p : Nat} {sv : Value} {bl : List Bool} (hr : WRep B w p sv bl) (h : Only (fun k => k = p ∨ sv.ownBlock = some k) w v) : KeepW B w v := by
  refine ⟨wrote_below hr h, h.size, fun g t cs h1 h2 hg => hg.only h fun hS => ?_⟩
  rcases hS with hS | hS
  · exact hg.apart hr.2.1 h2 hS
  · exact own_apart hr.2.2 hg (Ne.symm h1) hS
def intsV (L : List Nat) : List Value := L.map fun v : Nat => .int .i64 v
theorem intsV_at {L : List Nat} {k v : Nat} (h : L[k]? = some v) : (intsV L).toArray[k]? = some (.int .i64 v) := by simp [intsV, h]
def putsN (L : List Nat) (n : Nat) : List (Nat × Nat) := L.map fun v => (v, n)
theorem putsN_take {L : List Nat} {k v n : Nat} (h : L[k]? = some v) : putsN (L.take (k + 1)) n = putsN (L.take k) n ++ [(v, n)] := by
  obtain ⟨h1, h2⟩ := List.getElem?_eq_some_iff.1 h
  unfold putsN
  rw [List.take_succ_eq_append_getElem h1, List.map_append, h2]
  rfl
theorem len_putsN (L : List Nat) (n : Nat) : (bitsP (putsN L n)).length = L.length * n := by
  induction L with
  | nil => simp [putsN, bitsP]
  | cons a t ih =>
    have e : bitsP (putsN (a :: t) n) = unval a n ++ bitsP (putsN t n) := rfl
    rw [e, List.length_append, length_unval, ih, List.length_cons, Nat.add_mul]
    omega
end Go.Proofs.Ytbcjfdhphpckfaa
namespace Go.Proofs.Ytbcjfdhphpckfaa
open Go.RowKit

/-- a writer at block p has the bits of kp; since w0 only what may has changed -/
def StW (B : Nat) (w0 : World) (p : Nat) (kp : List (Nat × Nat)) (w : World) : Prop := (∃ sv, WRep B w p sv (bitsP kp)) ∧ KeepW B w0 w ∧ B ≤ w0.heap.size
theorem StW.alloc {B p : Nat} {w0 w : World} {kp : List (Nat × Nat)} (h : StW B w0 p kp w) (o : Obj) : StW B w0 p kp (w.alloc o) := by
  obtain ⟨⟨sv, h1⟩, h2, h3⟩ := h
  exact ⟨⟨sv, h1.later (bl_alloc (Below.refl _ _) o)⟩, h2.alloc h3 o, h3⟩
theorem StW.drew {B p : Nat} {w0 w : World} {kp : List (Nat × Nat)} (h : StW B w0 p kp w) : StW B w0 p kp w.drew := by
  obtain ⟨⟨sv, h1⟩, h2, h3⟩ := h
  exact ⟨⟨sv, h1.later (bl_drew (Below.refl _ _))⟩, h2.trans (KeepW.of_below (bl_drew (Below.refl _ _)) (Nat.le_trans h3 h2.2.1)), h3⟩
theorem StW.next {B p : Nat} {w0 w1 w : World} {kp kp' : List (Nat × Nat)} (h : StW B w0 p kp w1) (k : StW B w1 p kp' w) : StW B w0 p kp' w := ⟨k.1, h.2.1.trans k.2.1, h.2.2⟩
theorem StW.start {B p : Nat} {w : World} {kp : List (Nat × Nat)} (h : ∃ sv, WRep B w p sv (bitsP kp)) (hB : B ≤ w.heap.size) : StW B w p kp w := ⟨h, KeepW.refl _ _, hB⟩
theorem row_at (W : World) (k : Nat) (t : TypeId) (cs : Array Value) (h : W.heap.size = k) : Row (W.alloc (.cells cs t)) k t cs := by subst h; exact Row.made _ _ _
theorem size_1 (w : World) (o : Obj) : (w.alloc o).heap.size = w.heap.size + 1 := by simp
theorem cells_miss {w : World} {g : Nat} {a b c d : Value} (hr : Row w g 311 #[a, b, c, d]) : w.cell? ⟨g, 0, none⟩ = some a ∧ w.cell? ⟨g, 1, none⟩ = some b ∧ w.cell? ⟨g, 2, none⟩ = some c ∧ w.cell? ⟨g, 3, none⟩ = some d :=
  ⟨hr.read rfl, hr.read rfl, hr.read rfl, hr.read rfl⟩
theorem bool_one (b : Bool) : b.toNat < 2 ^ 1 := by cases b <;> decide
theorem cell_more {w : World} {g j : Nat} {x : Value} (o : Obj) (h : w.cell? ⟨g, j, none⟩ = some x) : (w.alloc o).drew.cell? ⟨g, j, none⟩ = some x := (World.cell?_alloc_some w _ _ (by rw [h]; rfl)).trans h
theorem lastF_nat {m : MissM} {x : Nat} (hp : m.part = true) (h : placedB m x = true) : ∃ l : Nat, l < 2 ^ pbN x ∧ lastF m.to x = (l : Int) ∧ 0 ≤ m.to ∧ m.to ≤ 65535 := by
  obtain ⟨_, _, h1, h2, _⟩ := miss_part hp h
  have h3 := onF_pow x
  have h4 := pow_pbN x
  refine ⟨(lastF m.to x).toNat, h2, by omega, ?_⟩
  unfold placedB at h
  rw [hp] at h
  simp only [if_true] at h
  unfold lastF at h1 h2
  generalize onF (x : Int) = o at *
  generalize 2 ^ pbN x = p at *
  split at h1
  · omega
  · rename_i h0
    simp only [h0, if_false, Bool.and_eq_true, decide_eq_true_eq] at h
    omega
end Go.Proofs.Ytbcjfdhphpckfaa
namespace Go.Proofs.Ytbcjfdhphpckfaa
open Go.RowKit

theorem Try.infomiss : (Try.prog.info? 311).map (·.size) = some 4 := by kernel_rfl
theorem Try.undermiss : (Try.prog.underlying 311).map (fun d => match d with | .struct _ => true | _ => false) = some true := by kernel_rfl
theorem undermiss_parts : ∃ fs, Try.prog.underlying 311 = some (.struct fs) := by
  obtain ⟨d, hd, h⟩ := Option.map_eq_some_iff.1 Try.undermiss
  cases d with
  | struct fs => exact ⟨fs, hd⟩
  | _ => simp at h
theorem st_results_cell {fn : Func} {p u v : Tmp} {ty : TypeId} (h : fn.results = #[.cell p ty, .tmp u, .tmp v]) (tmps : Array Value) (P : Program) (w : World) :
    (results fn tmps).run P w =
      ((asAddr (tmps.getD p undef)).run P w).andThen fun a w₁ => ((loadVar ty a).run P w₁).andThen fun x w₂ => .ok (.tuple #[x, tmps.getD u undef, tmps.getD v undef]) w₂ := by
  simp only [results, h]
  simp [Sem.run_bind, Result.andThen]
theorem st_results_three {fn : Func} {p u v : Tmp} {ty : TypeId} (h : fn.results = #[.cell p ty, .tmp u, .tmp v]) (tmps : Array Value) (w : World) (g : Nat) (t : TypeId) (cs : Array Value) (fs : Array Field)
    (hp : tmps.getD p undef = .pointer (some ⟨g, 0, none⟩)) (hg : Row w g t cs)
    (hu : Try.prog.underlying ty = some (.struct fs)) (hi : (Try.prog.info? ty).map (·.size) = some cs.size) :
    (results fn tmps).run Try.prog w = .ok (.tuple #[.agg cs, tmps.getD u undef, tmps.getD v undef]) w := by
  rw [st_results_cell h, hp]
  simp only [asAddr, Sem.run_pure, Result.andThen_ok, run_loadVar_row w g t ty cs (0, 0) (.struct fs) hg hu rfl hi]
theorem cells4 {w : World} {g : Nat} {t : TypeId} {a b c d : Value} (hr : Row w g t #[a, b, c, d]) : (w.cell? ⟨g, 0, none⟩ = some a ∧ w.cell? ⟨g, 1, none⟩ = some b ∧ w.cell? ⟨g, 2, none⟩ = some c ∧ w.cell? ⟨g, 3, none⟩ = some d) ∧ (w.frozen? ⟨g, 0, none⟩ = false ∧ w.frozen? ⟨g, 1, none⟩ = false ∧ w.frozen? ⟨g, 2, none⟩ = false ∧ w.frozen? ⟨g, 3, none⟩ = false) :=
  ⟨⟨hr.read rfl, hr.read rfl, hr.read rfl, hr.read rfl⟩, hr.free _, hr.free _, hr.free _, hr.free _⟩
theorem row_at2 (W : World) (k : Nat) (t : TypeId) (cs : Array Value) (h : W.heap.size = k) : Row (W.alloc (.cells cs t)) k t cs := by subst h; exact Row.made _ _ _
/-- a reader at block p reads the bits of bs from place i on; since w0 only what may has changed -/
def StR (B : Nat) (w0 : World) (p gb : Nat) (bs : List Nat) (i : Nat) (w : World) : Prop := RRep w p gb bs i ∧ KeepR B w0 w ∧ B ≤ w0.heap.size ∧ B ≤ p
section
variable {B p gb i j : Nat} {bs : List Nat} {w0 w1 w : World}
theorem StR.start (h : RRep w p gb bs i) (hp : B ≤ p) : StR B w p gb bs i w := ⟨h, KeepR.refl _ _, by have := h.1.inside; omega, hp⟩
theorem StR.more (h : StR B w0 p gb bs i w) {v : World} (hb : Below w.heap.size w v) : StR B w0 p gb bs i v := ⟨h.1.later hb, h.2.1.then_below h.2.2.1 hb, h.2.2⟩
theorem StR.next (h : StR B w0 p gb bs i w1) (k : StR B w1 p gb bs j w) : StR B w0 p gb bs j w := ⟨k.1, h.2.1.trans k.2.1, h.2.2⟩
theorem StR.set (h : StR B w0 p gb bs i w) {a : Addr} (ha : w0.heap.size ≤ a.block) {t : TypeId} {cs : Array Value} (hg : Row w a.block t cs) (h1 : t ≠ 5) (h2 : t ≠ 327) (x : Value) : StR B w0 p gb bs i (w.setCell a x) :=
  ⟨⟨h.1.1.elsewhere (fun e => hg.apart h.1.1 h2 e.symm) _, h.1.2.1.elsewhere (fun e => hg.apart h.1.2.1 h1 e.symm) _, h.1.2.2⟩, h.2.1.set_new h.2.2.1 ha x, h.2.2⟩
/-- numbers got, when there are enough bits -/
theorem StR.get {g n cap : Nat} {W : List Nat} (h : StR B w0 p gb bs i w) (hg : Row w g 3 (intsR W).toArray) (hW : W.length = n) (hn : n ≤ 3) (hw : ∀ x ∈ W, x ≤ 16) (hf : i + W.sum ≤ 8 * bs.length) :
    Calls Try.prog 236 #[.pointer (some ⟨p, 0, none⟩), .slice (some ⟨g, 0, none⟩) n cap] w fun e w' => ∃ g', e = .returned (.tuple #[.slice (some ⟨g', 0, none⟩) n n, .int .i64 0]) ∧ Row w' g' 3 (intsR (segs bs i W)).toArray ∧ w.heap.size ≤ g' ∧ StR B w0 p gb bs (i + W.sum) w' := by
  refine (sget_any n cap w h.1 h.2.2.2 hg hW hn hw).mono fun _ _ h1 => ?_
  obtain ⟨g', e1, e2, e3, e4⟩ := h1.1 hf
  rw [hW] at e1
  exact ⟨g', e1, e2, e3, e4, h.2.1.trans h1.2.2, h.2.2⟩
theorem StR.get_no {g n cap : Nat} {W : List Nat} (h : StR B w0 p gb bs i w) (hg : Row w g 3 (intsR W).toArray) (hW : W.length = n) (hn : n ≤ 3) (hw : ∀ x ∈ W, x ≤ 16) (hf : 8 * bs.length < i + W.sum) :
    Calls Try.prog 236 #[.pointer (some ⟨p, 0, none⟩), .slice (some ⟨g, 0, none⟩) n cap] w fun e w' => e = .returned (.tuple #[.slice none 0 0, .int .i64 8]) ∧ KeepR B w0 w' :=
  (sget_any n cap w h.1 h.2.2.2 hg hW hn hw).mono fun _ _ h1 => ⟨h1.2.1 hf, h.2.1.trans h1.2.2⟩
end
def set4 (w : World) (g : Nat) (a b c d : Value) : World := (((w.setCell ⟨g, 0, none⟩ a).setCell ⟨g, 1, none⟩ b).setCell ⟨g, 2, none⟩ c).setCell ⟨g, 3, none⟩ d
theorem row_set4 {w : World} {g : Nat} {t : TypeId} {a b c d a' b' c' d' : Value} (h : Row w g t #[a, b, c, d]) : Row (set4 w g a' b' c' d') g t #[a', b', c', d'] := (((h.written 0 a').written 1 b').written 2 c').written 3 d'
theorem cell_set4 {w : World} {g g' j : Nat} {t t' : TypeId} {cs cs' : Array Value} {x a b c d : Value} (h : Row w g t cs) (h' : Row w g' t' cs') (hne : t ≠ t') (hx : cs'[j]? = some x) : (set4 w g a b c d).cell? ⟨g', j, none⟩ = some x := by
  have e : g' ≠ g := fun e => h.apart h' hne e.symm
  exact ((((h'.elsewhere (p := ⟨g, 0, none⟩) e a).elsewhere (p := ⟨g, 1, none⟩) e b).elsewhere (p := ⟨g, 2, none⟩) e c).elsewhere (p := ⟨g, 3, none⟩) e d).read hx
theorem KeepR.set4 {B g : Nat} {w v : World} (h : KeepR B w v) (hB : B ≤ w.heap.size) (hg : w.heap.size ≤ g) (a b c d : Value) : KeepR B w (set4 v g a b c d) := (((h.set_new hB (p := ⟨g, 0, none⟩) hg a).set_new hB (p := ⟨g, 1, none⟩) hg b).set_new hB (p := ⟨g, 2, none⟩) hg c).set_new hB (p := ⟨g, 3, none⟩) hg d
theorem rrep_set4 {w : World} {p gb i g : Nat} {bs : List Nat} {t : TypeId} {cs : Array Value} (h : RRep w p gb bs i) (hg : Row w g t cs) (h1 : t ≠ 5) (h2 : t ≠ 327) (a b c d : Value) : RRep (set4 w g a b c d) p gb bs i := by
  have e1 : p ≠ g := fun e => hg.apart h.1 h2 e.symm
  have e2 : gb ≠ g := fun e => hg.apart h.2.1 h1 e.symm
  exact ⟨(((h.1.elsewhere (p := ⟨g, 0, none⟩) e1 a).elsewhere (p := ⟨g, 1, none⟩) e1 b).elsewhere (p := ⟨g, 2, none⟩) e1 c).elsewhere (p := ⟨g, 3, none⟩) e1 d, (((h.2.1.elsewhere (p := ⟨g, 0, none⟩) e2 a).elsewhere (p := ⟨g, 1, none⟩) e2 b).elsewhere (p := ⟨g, 2, none⟩) e2 c).elsewhere (p := ⟨g, 3, none⟩) e2 d, h.2.2⟩
set_option maxRecDepth 100000 in
set_option maxHeartbeats 1600000 in
theorem smiss_short {B p gb i : Nat} {bs : List Nat} (x : Nat) (w : World) (hr : RRep w p gb bs i) (hp : B ≤ p) (hx : x ≤ 16) (hf : 8 * bs.length < i + x + 1 + 1) :
    Calls Try.prog 237 #[.pointer (some ⟨p, 0, none⟩), .int .i64 x] w fun e w' => e = .returned (.tuple #[.agg #[.int .i64 0, .bool false, .int .i64 0, .int .i64 0], .bool false, .int .i64 8]) ∧ KeepR B w w' := by
  have ROW := Lib.hid (Row.made w 311 #[.int .i64 0, .bool false, .int .i64 0, .int .i64 0])
  have HSZ := Lib.hid (show (w.alloc (.cells #[.int .i64 0, .bool false, .int .i64 0, .int .i64 0] 311)).heap.size = w.heap.size + 1 by simp)
  have HBL := Lib.hid (show B ≤ w.heap.size by have := hr.1.inside; omega)
  have HK0 := Lib.hid ((KeepR.refl B w).alloc HBL.out (.cells #[.int .i64 0, .bool false, .int .i64 0, .int .i64 0] 311))
  have ST0 := Lib.hid (StR.start (B := B) (hr.later (bl_alloc (Below.refl _ _) (.cells #[.int .i64 0, .bool false, .int .i64 0, .int .i64 0] 311))) hp)
  have HG := Lib.hid ((ST0.out.more (bl_alloc (Below.refl _ _) (.cells #[.int .i64 x, .int .i64 1, .int .i64 1] 3))).get_no (g := w.heap.size + 1) (n := 3) (cap := 3) (W := [x, 1, 1]) (row_at2 _ _ 3 _ HSZ.out) rfl (by omega) (by intro y hy; simp at hy; omega) (by simp; omega))
  clear hr hf
  go_enter Try.func237, Try.ntmps237
  go_wp2_with (go_at_call 236; (with_reducible refine HG.out.mono ?_); rintro e w1 ⟨rfl, hk1⟩; (have KP := Lib.hid (HK0.out.trans hk1); have ROW1 := Lib.hid (hk1.row ROW.out (by decide)); clear hk1; obtain ⟨⟨c0, c1, c2, c3⟩, f0, f1, f2, f3⟩ := cells4 ROW1.out))
  obtain ⟨dd, hdd⟩ := undermiss_parts
  refine bodyPost_ret (st_results_three rfl _ _ w.heap.size 311 #[.int .i64 0, .bool false, .int .i64 0, .int .i64 0] dd rfl (row_set4 ROW1.out) hdd Try.infomiss) rfl ?_
  exact ⟨rfl, KP.out.set4 HBL.out (Nat.le_refl _) _ _ _ _⟩
theorem bit_is (b : Bool) : ((b.toNat : Int) == 1) = b := by cases b <;> rfl
set_option maxRecDepth 100000 in
set_option maxHeartbeats 3200000 in
theorem smiss_whole {B p gb i : Nat} {bs : List Nat} (x : Nat) (w : World) (hr : RRep w p gb bs i) (hp : B ≤ p) (hx : x ≤ 16) (hf : i + x + 1 + 1 ≤ 8 * bs.length) (hpt : bitAt bs (i + x + 1) = false) :
    Calls Try.prog 237 #[.pointer (some ⟨p, 0, none⟩), .int .i64 x] w fun e w' => e = .returned (.tuple #[.agg #[.int .i64 (val (seg bs i x) : Nat), .bool false, .int .i64 0, .int .i64 0], .bool (bitAt bs (i + x)), .int .i64 0]) ∧ RRep w' p gb bs (i + x + 1 + 1) ∧ KeepR B w w' := by
  have ROW := Lib.hid (Row.made w 311 #[.int .i64 0, .bool false, .int .i64 0, .int .i64 0])
  have HSZ := Lib.hid (show (w.alloc (.cells #[.int .i64 0, .bool false, .int .i64 0, .int .i64 0] 311)).heap.size = w.heap.size + 1 by simp)
  have HBL := Lib.hid (show B ≤ w.heap.size by have := hr.1.inside; omega)
  have HK0 := Lib.hid ((KeepR.refl B w).alloc HBL.out (.cells #[.int .i64 0, .bool false, .int .i64 0, .int .i64 0] 311))
  have ST0 := Lib.hid (StR.start (B := B) (hr.later (bl_alloc (Below.refl _ _) (.cells #[.int .i64 0, .bool false, .int .i64 0, .int .i64 0] 311))) hp)
  have hsg : segs bs i [x, 1, 1] = [val (seg bs i x), (bitAt bs (i + x)).toNat, (bitAt bs (i + x + 1)).toNat] := by
    simp only [segs]
    rw [val_one (by omega), val_one (by omega)]
  rw [hpt] at hsg
  have hG := (ST0.out.more (bl_alloc (Below.refl _ _) (.cells #[.int .i64 x, .int .i64 1, .int .i64 1] 3))).get (g := w.heap.size + 1) (n := 3) (cap := 3) (W := [x, 1, 1]) (row_at2 _ _ 3 _ HSZ.out) rfl (by omega) (by intro y hy; simp at hy; omega) (by simp; omega)
  rw [hsg, show i + [x, 1, 1].sum = i + x + 1 + 1 by simp; omega] at hG
  have HG := Lib.hid hG
  generalize val (seg bs i x) = sn at *
  generalize bitAt bs (i + x) = more at *
  have hbi := bit_is more
  clear hr hf hsg hpt hG
  go_enter Try.func237, Try.ntmps237
  go_wp2_with (go_at_call 236; (with_reducible refine HG.out.mono ?_); rintro e w1 ⟨g1, rfl, hrow1, hg1, hs1⟩; (have KP := Lib.hid (HK0.out.trans hs1.2.1); have ST1 := Lib.hid hs1; have ROW1 := Lib.hid (hs1.2.1.row ROW.out (by decide)); have ROWH := Lib.hid hrow1; clear hs1 hg1 hrow1))
  have d0 := ROWH.out.drawn.read (i := 0) (x := .int .i64 sn) rfl
  have d2 := ROWH.out.drawn.read (i := 2) (x := .int .i64 0) rfl
  go_region_held3 (fun w' => w'.cell? ⟨g1, 0, none⟩ = some (.int .i64 sn) ∧ w'.cell? ⟨g1, 2, none⟩ = some (.int .i64 0)) (first | assumption | exact ⟨d0, d2⟩ | exact ⟨cell_more _ d0, cell_more _ d2⟩ | go_keep) (fail)
  have HROWM := Lib.hid (show Row (w1.alloc (.cells #[.int .i64 sn, .bool false, .int .i64 0, .int .i64 0] 311)).drew w1.heap.size 311 #[.int .i64 sn, .bool false, .int .i64 0, .int .i64 0] from (Row.made w1 _ _).drawn)
  have HROWR := Lib.hid (show Row (w1.alloc (.cells #[.int .i64 sn, .bool false, .int .i64 0, .int .i64 0] 311)).drew w.heap.size 311 #[.int .i64 0, .bool false, .int .i64 0, .int .i64 0] from (ROW1.out.more _).drawn)
  have HROWH := Lib.hid (show Row (w1.alloc (.cells #[.int .i64 sn, .bool false, .int .i64 0, .int .i64 0] 311)).drew g1 3 (intsR [sn, more.toNat, 0]).toArray from (ROWH.out.more _).drawn)
  have HRR := Lib.hid (show StR B (w.alloc (.cells #[.int .i64 0, .bool false, .int .i64 0, .int .i64 0] 311)) p gb bs (i + x + 1 + 1) (w1.alloc (.cells #[.int .i64 sn, .bool false, .int .i64 0, .int .i64 0] 311)).drew from ST1.out.more (bl_drew (bl_alloc (Below.refl _ _) _)))
  have hne : w.heap.size < w1.heap.size := ROW1.out.inside
  clear d0 d2
  generalize w1.heap.size = q at *
  generalize (w1.alloc (.cells #[.int .i64 sn, .bool false, .int .i64 0, .int .i64 0] 311)).drew = W2 at *
  have e1 := HROWM.out.read (i := 1) (x := .bool false) rfl
  go_wp2_with fail
  clear e1
  obtain ⟨⟨m0, m1, m2, m3⟩, -⟩ := cells4 HROWM.out
  obtain ⟨⟨z0, z1, z2, z3⟩, f0, f1, f2, f3⟩ := cells4 HROWR.out
  have h1 := HROWH.out.read (i := 1) (x := .int .i64 more.toNat) rfl
  have HROWE := Lib.hid (show Row (set4 W2 w.heap.size (.int .i64 sn) (.bool false) (.int .i64 0) (.int .i64 0)) w.heap.size 311 #[.int .i64 sn, .bool false, .int .i64 0, .int .i64 0] from row_set4 HROWR.out)
  have HR3 := Lib.hid HROWR.out.drawn
  have HS3 := Lib.hid (HRR.out.more (bl_drew (Below.refl _ _)))
  have hx1 := cell_set4 (a := .int .i64 sn) (b := .bool false) (c := .int .i64 0) (d := .int .i64 0) HROWR.out HROWH.out (by decide) (j := 1) (x := .int .i64 more.toNat) rfl
  unfold set4 at hx1
  generalize hrr0 : w.heap.size = r at *
  have hrr := Lib.hid hrr0
  clear hrr0
  go_region
  go_wp2
  obtain ⟨dd, hdd⟩ := undermiss_parts
  have KE := (HK0.out.trans HRR.out.2.1).set4 (hrr.out ▸ HBL.out) (Nat.le_of_eq hrr.out) (.int .i64 sn) (.bool false) (.int .i64 0) (.int .i64 0)
  have RE := rrep_set4 HRR.out.1 HROWR.out (by decide) (by decide) (.int .i64 sn) (.bool false) (.int .i64 0) (.int .i64 0)
  refine bodyPost_ret (st_results_three rfl _ _ r 311 #[.int .i64 sn, .bool false, .int .i64 0, .int .i64 0] dd rfl HROWE.out.drawn hdd Try.infomiss) rfl ?_
  exact ⟨rfl, RE.later (bl_drew (Below.refl _ _)), KE.then_below (hrr.out ▸ HBL.out) (bl_drew (Below.refl _ _))⟩
end Go.Proofs.Ytbcjfdhphpckfaa
namespace Go.Proofs.Ytbcjfdhphpckfaa
open Go.RowKit

set_option maxRecDepth 100000 in
set_option maxHeartbeats 3200000 in
theorem smiss_part {B p gb i : Nat} {bs : List Nat} (x : Nat) (w : World) (hr : RRep w p gb bs i) (hp : B ≤ p) (hx : x ≤ 16) (hf : i + x + 1 + 1 + pbN x + pbN x ≤ 8 * bs.length) (hpt : bitAt bs (i + x + 1) = true) :
    Calls Try.prog 237 #[.pointer (some ⟨p, 0, none⟩), .int .i64 x] w fun e w' => e = .returned (.tuple #[.agg #[.int .i64 (val (seg bs i x) : Nat), .bool true, .int .i64 (val (seg bs (i + x + 1 + 1) (pbN x)) : Nat), .int .i64 (endF ((val (seg bs (i + x + 1 + 1 + pbN x) (pbN x)) : Nat) : Int) x)], .bool (bitAt bs (i + x)), .int .i64 0]) ∧ RRep w' p gb bs (i + x + 1 + 1 + pbN x + pbN x) ∧ KeepR B w w' := by
  have ROW := Lib.hid (Row.made w 311 #[.int .i64 0, .bool false, .int .i64 0, .int .i64 0])
  have HSZ := Lib.hid (show (w.alloc (.cells #[.int .i64 0, .bool false, .int .i64 0, .int .i64 0] 311)).heap.size = w.heap.size + 1 by simp)
  have HBL := Lib.hid (show B ≤ w.heap.size by have := hr.1.inside; omega)
  have HK0 := Lib.hid ((KeepR.refl B w).alloc HBL.out (.cells #[.int .i64 0, .bool false, .int .i64 0, .int .i64 0] 311))
  have ST0 := Lib.hid (StR.start (B := B) (hr.later (bl_alloc (Below.refl _ _) (.cells #[.int .i64 0, .bool false, .int .i64 0, .int .i64 0] 311))) hp)
  have hsg : segs bs i [x, 1, 1] = [val (seg bs i x), (bitAt bs (i + x)).toNat, (bitAt bs (i + x + 1)).toNat] := by
    simp only [segs]
    rw [val_one (by omega), val_one (by omega)]
  rw [hpt] at hsg
  have hG := (ST0.out.more (bl_alloc (Below.refl _ _) (.cells #[.int .i64 x, .int .i64 1, .int .i64 1] 3))).get (g := w.heap.size + 1) (n := 3) (cap := 3) (W := [x, 1, 1]) (row_at2 _ _ 3 _ HSZ.out) rfl (by omega) (by intro y hy; simp at hy; omega) (by simp; omega)
  rw [hsg, show i + [x, 1, 1].sum = i + x + 1 + 1 by simp; omega] at hG
  have HG := Lib.hid hG
  have hsg2 : segs bs (i + x + 1 + 1) [pbN x, pbN x] = [val (seg bs (i + x + 1 + 1) (pbN x)), val (seg bs (i + x + 1 + 1 + pbN x) (pbN x))] := rfl
  have hl2 : val (seg bs (i + x + 1 + 1 + pbN x) (pbN x)) < 2 ^ pbN x := seg_lt2 (by omega)
  have hl3 : val (seg bs (i + x + 1 + 1 + pbN x) (pbN x)) ≤ 65535 := by have := (pow_pbN x).2; omega
  have HG2 := Lib.hid (fun W (hst : StR B W p gb bs (i + x + 1 + 1) W) => (hst.more (bl_alloc (Below.refl _ _) (.cells #[.int .i64 (pbN x : Nat), .int .i64 (pbN x : Nat)] 3))).get (g := W.heap.size) (n := 2) (cap := 2) (W := [pbN x, pbN x]) (row_at2 _ _ 3 #[.int .i64 (pbN x : Nat), .int .i64 (pbN x : Nat)] rfl) rfl (by omega) (by have := pbN_bd x; intro y hy; simp at hy; omega) (by simp; omega))
  rw [hsg2, show i + x + 1 + 1 + [pbN x, pbN x].sum = i + x + 1 + 1 + pbN x + pbN x by simp; omega] at HG2
  have HEND := Lib.hid (fun W => send_any ((val (seg bs (i + x + 1 + 1 + pbN x) (pbN x)) : Nat) : Int) x W (by omega) (by omega))
  have HPB := Lib.hid (fun W => splace_any x W)
  rw [pbN_cast] at HPB
  have hto : 0 ≤ endF ((val (seg bs (i + x + 1 + 1 + pbN x) (pbN x)) : Nat) : Int) x := by unfold endF; split <;> omega
  generalize endF ((val (seg bs (i + x + 1 + 1 + pbN x) (pbN x)) : Nat) : Int) x = to at *
  generalize val (seg bs (i + x + 1 + 1 + pbN x) (pbN x)) = l at *
  generalize val (seg bs (i + x + 1 + 1) (pbN x)) = fr at *
  generalize i + x + 1 + 1 + pbN x + pbN x = jend at *
  generalize pbN x = pb at *
  generalize val (seg bs i x) = sn at *
  generalize bitAt bs (i + x) = more at *
  have hbi := bit_is more
  clear hr hf hsg hpt hG hsg2 hl2 hl3 hto
  go_enter Try.func237, Try.ntmps237
  go_wp2_with (go_at_call 236; (with_reducible refine HG.out.mono ?_); rintro e w1 ⟨g1, rfl, hrow1, hg1, hs1⟩; (have KP := Lib.hid (HK0.out.trans hs1.2.1); have ST1 := Lib.hid hs1; have ROW1 := Lib.hid (hs1.2.1.row ROW.out (by decide)); have ROWH := Lib.hid hrow1; clear hs1 hg1 hrow1))
  have d0 := ROWH.out.drawn.read (i := 0) (x := .int .i64 sn) rfl
  have d2 := ROWH.out.drawn.read (i := 2) (x := .int .i64 1) rfl
  go_region_held3 (fun w' => w'.cell? ⟨g1, 0, none⟩ = some (.int .i64 sn) ∧ w'.cell? ⟨g1, 2, none⟩ = some (.int .i64 1)) (first | assumption | exact ⟨d0, d2⟩ | exact ⟨cell_more _ d0, cell_more _ d2⟩ | go_keep) (fail)
  have HROWM := Lib.hid (show Row (w1.alloc (.cells #[.int .i64 sn, .bool true, .int .i64 0, .int .i64 0] 311)).drew w1.heap.size 311 #[.int .i64 sn, .bool true, .int .i64 0, .int .i64 0] from (Row.made w1 _ _).drawn)
  have HROWR := Lib.hid (show Row (w1.alloc (.cells #[.int .i64 sn, .bool true, .int .i64 0, .int .i64 0] 311)).drew w.heap.size 311 #[.int .i64 0, .bool false, .int .i64 0, .int .i64 0] from (ROW1.out.more _).drawn)
  have HROWH := Lib.hid (show Row (w1.alloc (.cells #[.int .i64 sn, .bool true, .int .i64 0, .int .i64 0] 311)).drew g1 3 (intsR [sn, more.toNat, 1]).toArray from (ROWH.out.more _).drawn)
  have HRR := Lib.hid (show StR B (w.alloc (.cells #[.int .i64 0, .bool false, .int .i64 0, .int .i64 0] 311)) p gb bs (i + x + 1 + 1) (w1.alloc (.cells #[.int .i64 sn, .bool true, .int .i64 0, .int .i64 0] 311)).drew from ST1.out.more (bl_drew (bl_alloc (Below.refl _ _) _)))
  have hne : w.heap.size < w1.heap.size := ROW1.out.inside
  have hqA := ST1.out.2.1.2.1
  rw [HSZ.out] at hqA
  clear d0 d2
  generalize w1.heap.size = q at *
  generalize (w1.alloc (.cells #[.int .i64 sn, .bool true, .int .i64 0, .int .i64 0] 311)).drew = W2 at *
  have e1 := HROWM.out.read (i := 1) (x := .bool true) rfl
  have HC2 := Lib.hid (HG2.out W2 (StR.start HRR.out.1 hp))
  go_wp2_with (first
    | (go_at_call 268; (with_reducible refine (HPB.out _).mono ?_); rintro e vx ⟨rfl, rfl⟩)
    | (go_at_call 236; (with_reducible refine HC2.out.mono ?_); rintro e w5 ⟨g5, rfl, hrow5, hg5, hs5⟩; (have HK5 := Lib.hid hs5.2.1; have HRR5 := Lib.hid (HRR.out.next hs5); have ROW5 := Lib.hid hrow5; clear hrow5 hg5 hs5)))
  have HM5 := Lib.hid (HK5.out.row HROWM.out (by decide))
  have HR5 := Lib.hid (HK5.out.row HROWR.out (by decide))
  have HH5 := Lib.hid (HK5.out.row HROWH.out (by decide))
  clear e1
  obtain ⟨⟨m0, m1, m2, m3⟩, g0, g1', g2, g3⟩ := cells4 HM5.out
  have p0 := ROW5.out.read (i := 0) (x := .int .i64 fr) rfl
  have p1 := ROW5.out.read (i := 1) (x := .int .i64 l) rfl
  go_region_with (go_at_call 269; (with_reducible refine (HEND.out _).mono ?_); rintro e vx ⟨rfl, rfl⟩)
  all_goals
    have HM6 := Lib.hid (show Row ((w5.setCell ⟨q, 2, none⟩ (.int .i64 fr)).setCell ⟨q, 3, none⟩ (.int .i64 to)).drew q 311 #[.int .i64 sn, .bool true, .int .i64 fr, .int .i64 to] from ((HM5.out.written 2 _).written 3 _).drawn)
    have HR6 := Lib.hid (show Row ((w5.setCell ⟨q, 2, none⟩ (.int .i64 fr)).setCell ⟨q, 3, none⟩ (.int .i64 to)).drew w.heap.size 311 #[.int .i64 0, .bool false, .int .i64 0, .int .i64 0] from ((HR5.out.elsewhere (p := ⟨q, 2, none⟩) (Nat.ne_of_lt hne) _).elsewhere (p := ⟨q, 3, none⟩) (Nat.ne_of_lt hne) _).drawn)
    have hgq : g1 ≠ q := HH5.out.apart HM5.out (by decide)
    have HH6 := Lib.hid (show Row ((w5.setCell ⟨q, 2, none⟩ (.int .i64 fr)).setCell ⟨q, 3, none⟩ (.int .i64 to)).drew g1 3 (intsR [sn, more.toNat, 1]).toArray from ((HH5.out.elsewhere (p := ⟨q, 2, none⟩) hgq _).elsewhere (p := ⟨q, 3, none⟩) hgq _).drawn)
    have HS6 := Lib.hid (show StR B (w.alloc (.cells #[.int .i64 0, .bool false, .int .i64 0, .int .i64 0] 311)) p gb bs jend ((w5.setCell ⟨q, 2, none⟩ (.int .i64 fr)).setCell ⟨q, 3, none⟩ (.int .i64 to)).drew from ((HRR5.out.set (a := ⟨q, 2, none⟩) (by rw [HSZ.out]; exact hqA) HM5.out (by decide) (by decide) _).set (a := ⟨q, 3, none⟩) (by rw [HSZ.out]; exact hqA) (HM5.out.written 2 _) (by decide) (by decide) _).more (bl_drew (Below.refl _ _)))
    clear m0 m1 m2 m3 g0 g1' g2 g3 p0 p1
    generalize ((w5.setCell ⟨q, 2, none⟩ (.int .i64 fr)).setCell ⟨q, 3, none⟩ (.int .i64 to)).drew = W6 at *
    obtain ⟨⟨m0, m1, m2, m3⟩, -⟩ := cells4 HM6.out
    obtain ⟨⟨z0, z1, z2, z3⟩, f0, f1, f2, f3⟩ := cells4 HR6.out
    have h1 := HH6.out.read (i := 1) (x := .int .i64 more.toNat) rfl
    have HROWE := Lib.hid (show Row (set4 W6 w.heap.size (.int .i64 sn) (.bool true) (.int .i64 fr) (.int .i64 to)) w.heap.size 311 #[.int .i64 sn, .bool true, .int .i64 fr, .int .i64 to] from row_set4 HR6.out)
    have hx1 := cell_set4 (a := .int .i64 sn) (b := .bool true) (c := .int .i64 fr) (d := .int .i64 to) HR6.out HH6.out (by decide) (j := 1) (x := .int .i64 more.toNat) rfl
    unfold set4 at hx1
    have KE := Lib.hid ((HK0.out.trans HS6.out.2.1).set4 HBL.out (Nat.le_refl _) (.int .i64 sn) (.bool true) (.int .i64 fr) (.int .i64 to))
    have RE := Lib.hid (rrep_set4 HS6.out.1 HR6.out (by decide) (by decide) (.int .i64 sn) (.bool true) (.int .i64 fr) (.int .i64 to))
    have HBL2 := Lib.hid HBL.out
    clear hne hqA hgq
    go_wp2_with fail
    go_region
    go_wp2
    obtain ⟨dd, hdd⟩ := undermiss_parts
    refine bodyPost_ret (st_results_three rfl _ _ w.heap.size 311 #[.int .i64 sn, .bool true, .int .i64 fr, .int .i64 to] dd rfl HROWE.out.drawn hdd Try.infomiss) rfl ?_
    exact ⟨rfl, RE.out.later (bl_drew (Below.refl _ _)), KE.out.then_below HBL2.out (bl_drew (Below.refl _ _))⟩
end Go.Proofs.Ytbcjfdhphpckfaa
namespace Go.Proofs.Ytbcjfdhphpckfaa
open Go.RowKit

set_option maxRecDepth 100000 in
set_option maxHeartbeats 3200000 in
theorem smiss_cut {B p gb i : Nat} {bs : List Nat} (x : Nat) (w : World) (hr : RRep w p gb bs i) (hp : B ≤ p) (hx : x ≤ 16) (hf : i + x + 1 + 1 ≤ 8 * bs.length) (hf2 : 8 * bs.length < i + x + 1 + 1 + pbN x + pbN x) (hpt : bitAt bs (i + x + 1) = true) :
    Calls Try.prog 237 #[.pointer (some ⟨p, 0, none⟩), .int .i64 x] w fun e w' => e = .returned (.tuple #[.agg #[.int .i64 0, .bool false, .int .i64 0, .int .i64 0], .bool false, .int .i64 8]) ∧ KeepR B w w' := by
  have ROW := Lib.hid (Row.made w 311 #[.int .i64 0, .bool false, .int .i64 0, .int .i64 0])
  have HSZ := Lib.hid (show (w.alloc (.cells #[.int .i64 0, .bool false, .int .i64 0, .int .i64 0] 311)).heap.size = w.heap.size + 1 by simp)
  have HBL := Lib.hid (show B ≤ w.heap.size by have := hr.1.inside; omega)
  have HK0 := Lib.hid ((KeepR.refl B w).alloc HBL.out (.cells #[.int .i64 0, .bool false, .int .i64 0, .int .i64 0] 311))
  have ST0 := Lib.hid (StR.start (B := B) (hr.later (bl_alloc (Below.refl _ _) (.cells #[.int .i64 0, .bool false, .int .i64 0, .int .i64 0] 311))) hp)
  have hsg : segs bs i [x, 1, 1] = [val (seg bs i x), (bitAt bs (i + x)).toNat, (bitAt bs (i + x + 1)).toNat] := by
    simp only [segs]
    rw [val_one (by omega), val_one (by omega)]
  rw [hpt] at hsg
  have hG := (ST0.out.more (bl_alloc (Below.refl _ _) (.cells #[.int .i64 x, .int .i64 1, .int .i64 1] 3))).get (g := w.heap.size + 1) (n := 3) (cap := 3) (W := [x, 1, 1]) (row_at2 _ _ 3 _ HSZ.out) rfl (by omega) (by intro y hy; simp at hy; omega) (by simp; omega)
  rw [hsg, show i + [x, 1, 1].sum = i + x + 1 + 1 by simp; omega] at hG
  have HG := Lib.hid hG
  have HG2 := Lib.hid (fun W (hst : StR B W p gb bs (i + x + 1 + 1) W) => (hst.more (bl_alloc (Below.refl _ _) (.cells #[.int .i64 (pbN x : Nat), .int .i64 (pbN x : Nat)] 3))).get_no (g := W.heap.size) (n := 2) (cap := 2) (W := [pbN x, pbN x]) (row_at2 _ _ 3 #[.int .i64 (pbN x : Nat), .int .i64 (pbN x : Nat)] rfl) rfl (by omega) (by have := pbN_bd x; intro y hy; simp at hy; omega) (by simp; omega))
  have HPB := Lib.hid (fun W => splace_any x W)
  rw [pbN_cast] at HPB
  generalize pbN x = pb at *
  generalize val (seg bs i x) = sn at *
  generalize bitAt bs (i + x) = more at *
  have hbi := bit_is more
  clear hr hf hf2 hsg hpt hG
  go_enter Try.func237, Try.ntmps237
  go_wp2_with (go_at_call 236; (with_reducible refine HG.out.mono ?_); rintro e w1 ⟨g1, rfl, hrow1, hg1, hs1⟩; (have KP := Lib.hid (HK0.out.trans hs1.2.1); have ST1 := Lib.hid hs1; have ROW1 := Lib.hid (hs1.2.1.row ROW.out (by decide)); have ROWH := Lib.hid hrow1; clear hs1 hg1 hrow1))
  have d0 := ROWH.out.drawn.read (i := 0) (x := .int .i64 sn) rfl
  have d2 := ROWH.out.drawn.read (i := 2) (x := .int .i64 1) rfl
  go_region_held3 (fun w' => w'.cell? ⟨g1, 0, none⟩ = some (.int .i64 sn) ∧ w'.cell? ⟨g1, 2, none⟩ = some (.int .i64 1)) (first | assumption | exact ⟨d0, d2⟩ | exact ⟨cell_more _ d0, cell_more _ d2⟩ | go_keep) (fail)
  have HROWM := Lib.hid (show Row (w1.alloc (.cells #[.int .i64 sn, .bool true, .int .i64 0, .int .i64 0] 311)).drew w1.heap.size 311 #[.int .i64 sn, .bool true, .int .i64 0, .int .i64 0] from (Row.made w1 _ _).drawn)
  have HROWR := Lib.hid (show Row (w1.alloc (.cells #[.int .i64 sn, .bool true, .int .i64 0, .int .i64 0] 311)).drew w.heap.size 311 #[.int .i64 0, .bool false, .int .i64 0, .int .i64 0] from (ROW1.out.more _).drawn)
  have HROWH := Lib.hid (show Row (w1.alloc (.cells #[.int .i64 sn, .bool true, .int .i64 0, .int .i64 0] 311)).drew g1 3 (intsR [sn, more.toNat, 1]).toArray from (ROWH.out.more _).drawn)
  have HRR := Lib.hid (show StR B (w.alloc (.cells #[.int .i64 0, .bool false, .int .i64 0, .int .i64 0] 311)) p gb bs (i + x + 1 + 1) (w1.alloc (.cells #[.int .i64 sn, .bool true, .int .i64 0, .int .i64 0] 311)).drew from ST1.out.more (bl_drew (bl_alloc (Below.refl _ _) _)))
  have hne : w.heap.size < w1.heap.size := ROW1.out.inside
  have hqA := ST1.out.2.1.2.1
  rw [HSZ.out] at hqA
  clear d0 d2
  generalize w1.heap.size = q at *
  generalize (w1.alloc (.cells #[.int .i64 sn, .bool true, .int .i64 0, .int .i64 0] 311)).drew = W2 at *
  have e1 := HROWM.out.read (i := 1) (x := .bool true) rfl
  have HC2 := Lib.hid (HG2.out W2 (StR.start HRR.out.1 hp))
  go_wp2_with (first
    | (go_at_call 268; (with_reducible refine (HPB.out _).mono ?_); rintro e vx ⟨rfl, rfl⟩)
    | (go_at_call 236; (with_reducible refine HC2.out.mono ?_); rintro e w5 ⟨rfl, hk5⟩; (have HK5 := Lib.hid hk5; have HR5 := Lib.hid (hk5.row HROWR.out (by decide)); clear hk5; clear e1; obtain ⟨⟨c0, c1, c2, c3⟩, f0, f1, f2, f3⟩ := cells4 HR5.out)))
  obtain ⟨dd, hdd⟩ := undermiss_parts
  refine bodyPost_ret (st_results_three rfl _ _ w.heap.size 311 #[.int .i64 0, .bool false, .int .i64 0, .int .i64 0] dd rfl (row_set4 HR5.out) hdd Try.infomiss) rfl ?_
  exact ⟨rfl, ((HK0.out.trans HRR.out.2.1).trans HK5.out).set4 HBL.out (Nat.le_refl _) _ _ _ _⟩
def MissOk (B : Nat) (w : World) (p gb : Nat) (bs : List Nat) (x i : Nat) (e : Ending) (w' : World) : Prop :=
  (∀ m more j, rdMiss bs x i = some (m, more, j) → e = .returned (.tuple #[m.v, .bool more, .int .i64 0]) ∧ RRep w' p gb bs j) ∧ (rdMiss bs x i = none → e = .returned (.tuple #[.agg #[.int .i64 0, .bool false, .int .i64 0, .int .i64 0], .bool false, .int .i64 8])) ∧ KeepR B w w'
theorem smiss_any {B p gb i : Nat} {bs : List Nat} (x : Nat) (w : World) (hr : RRep w p gb bs i) (hp : B ≤ p) (hx : x ≤ 16) :
    Calls Try.prog 237 #[.pointer (some ⟨p, 0, none⟩), .int .i64 x] w (MissOk B w p gb bs x i) := by
  by_cases h1 : 8 * bs.length < i + x + 1 + 1
  · have e : rdMiss bs x i = none := by unfold rdMiss; rw [if_pos h1]
    exact (smiss_short x w hr hp hx h1).mono fun _ _ h => ⟨(fun m more j hj => by rw [e] at hj; cases hj), fun _ => h.1, h.2⟩
  · cases hpt : bitAt bs (i + x + 1)
    · have e : rdMiss bs x i = some (⟨((val (seg bs i x) : Nat) : Int), false, 0, 0⟩, bitAt bs (i + x), i + x + 1 + 1) := by unfold rdMiss; rw [if_neg h1, hpt]; rfl
      refine (smiss_whole x w hr hp hx (by omega) hpt).mono fun _ _ h => ⟨fun m more j hj => ?_, (fun hn => by rw [e] at hn; cases hn), h.2.2⟩
      rw [e] at hj
      injection hj with hj
      injection hj with j1 hj
      injection hj with j2 j3
      subst j1 j2 j3
      exact ⟨h.1, h.2.1⟩
    · by_cases h2 : 8 * bs.length < i + x + 1 + 1 + pbN x + pbN x
      · have e : rdMiss bs x i = none := by unfold rdMiss; rw [if_neg h1, if_pos hpt, if_pos h2]
        exact (smiss_cut x w hr hp hx (by omega) h2 hpt).mono fun _ _ h => ⟨(fun m more j hj => by rw [e] at hj; cases hj), fun _ => h.1, h.2⟩
      · have e : rdMiss bs x i = some (⟨((val (seg bs i x) : Nat) : Int), true, ((val (seg bs (i + x + 1 + 1) (pbN x)) : Nat) : Int), endF ((val (seg bs (i + x + 1 + 1 + pbN x) (pbN x)) : Nat) : Int) x⟩, bitAt bs (i + x), i + x + 1 + 1 + pbN x + pbN x) := by unfold rdMiss; rw [if_neg h1, if_pos hpt, if_neg h2]
        refine (smiss_part x w hr hp hx (by omega) hpt).mono fun _ _ h => ⟨fun m more j hj => ?_, (fun hn => by rw [e] at hn; cases hn), h.2.2⟩
        rw [e] at hj
        injection hj with hj
        injection hj with j1 hj
        injection hj with j2 j3
        subst j1 j2 j3
        exact ⟨h.1, h.2.1⟩
end Go.Proofs.Ytbcjfdhphpckfaa
namespace Go.Proofs.Ytbcjfdhphpckfaa
open Go.RowKit

theorem Try.infomiss2 : (Try.prog.info? 311).map (fun i => (i.zero, i.size, i.bytes)) = some (some (.agg #[.int .i64 0, .bool false, .int .i64 0, .int .i64 0]), 4, 32) := by kernel_rfl
def mcells (L : List MissM) : List Value := L.flatMap fun m => [.int .i64 m.sn, .bool m.part, .int .i64 m.fr, .int .i64 m.to]
theorem mcells_cons (m : MissM) (t : List MissM) : mcells (m :: t) = .int .i64 m.sn :: .bool m.part :: .int .i64 m.fr :: .int .i64 m.to :: mcells t := rfl
theorem mcells_append (a b : List MissM) : mcells (a ++ b) = mcells a ++ mcells b := by simp [mcells]
theorem len_mcells (L : List MissM) : (mcells L).length = L.length * 4 := by
  induction L with
  | nil => rfl
  | cons m t ih => rw [mcells_cons]; simp [ih]; omega
theorem mcells_at {L : List MissM} {k : Nat} {m : MissM} (h : L[k]? = some m) : (mcells L)[k * 4]? = some (.int .i64 m.sn) ∧ (mcells L)[k * 4 + 1]? = some (.bool m.part) ∧ (mcells L)[k * 4 + 2]? = some (.int .i64 m.fr) ∧ (mcells L)[k * 4 + 3]? = some (.int .i64 m.to) := by
  induction L generalizing k with
  | nil => simp at h
  | cons z r ih =>
    cases k with
    | zero => simp at h; subst h; exact ⟨rfl, rfl, rfl, rfl⟩
    | succ k =>
      have h2 := ih (k := k) (by simpa using h)
      rw [mcells_cons, show (k + 1) * 4 = k * 4 + 1 + 1 + 1 + 1 by omega]
      simpa using h2
def OwnM (B : Nat) (w : World) (v : Value) (L : List MissM) : Prop := w.ownsRow B 311 4 v L.length (mcells L)
theorem OwnM.nil (B : Nat) (w : World) : OwnM B w (.slice none 0 0) [] := World.ownsRow_nil _ _ _ _
theorem OwnM.form {B : Nat} {w : World} {v : Value} {L : List MissM} (h : OwnM B w v L) : ∃ A c, v = .slice A L.length c ∧ L.length ≤ c ∧ c ≤ 9223372036854775807 := by
  rcases h.2 with ⟨rfl, h0⟩ | ⟨g, cap, cur, rfl, _, _, h1, h2, _⟩
  · exact ⟨none, 0, by rw [h0], by omega, by omega⟩
  · exact ⟨_, cap, rfl, h1, by unfold maxLen at h2; omega⟩
theorem OwnM.src {B : Nat} {w : World} {A : Option Addr} {n c : Nat} {L : List MissM} (h : OwnM B w (.slice A n c) L) : MSrc w A L := by
  intro h0
  obtain ⟨g, cap', hv, _, _⟩ := World.ownsRow.form h h0
  injection hv with hA _ _
  subst hA
  have hc := World.ownsRow.cells h (g := g) rfl
  refine ⟨g, 0, rfl, fun k m hm => ?_⟩
  obtain ⟨a, b, c, d⟩ := mcells_at hm
  have q := fun j u hu => hc j u hu
  refine ⟨?_, ?_, ?_, ?_⟩
  · have := q _ _ a; rw [add_zero_addr] at this; rw [Nat.zero_add]; exact this
  · have := q _ _ b; rw [add_zero_addr] at this; rw [Nat.zero_add]; exact this
  · have := q _ _ c; rw [add_zero_addr] at this; rw [Nat.zero_add]; exact this
  · have := q _ _ d; rw [add_zero_addr] at this; rw [Nat.zero_add]; exact this
theorem OwnM.next {B : Nat} {w : World} {v : Value} {L : List MissM} (h : OwnM B w v L) (hB : B ≤ w.heap.size) (m : MissM) (hl : L.length ≤ 1000) :
    ∃ g c w3, (Builtin.append_ #[199, 199] 199 #[v, .slice (some ⟨w.heap.size, 0, none⟩) 1 1]).run Try.prog (w.alloc (.cells #[.int .i64 m.sn, .bool m.part, .int .i64 m.fr, .int .i64 m.to] 311)) = .ok (.slice (some ⟨g, 0, none⟩) (L.length + 1) c) w3 ∧
      OwnM B w3 (.slice (some ⟨g, 0, none⟩) (L.length + 1) c) (L ++ [m]) ∧ Only (fun k => v.ownBlock = some k) w w3 := by
  obtain ⟨i0, hi, hi0, hi1, hi2⟩ := info_parts Try.infomiss2
  obtain ⟨g, cap, w3, hr3, h2, h3, _, _⟩ := run_append_lies (P := Try.prog) (w.alloc (.cells #[.int .i64 m.sn, .bool m.part, .int .i64 m.fr, .int .i64 m.to] 311)) 199 199 B 311 i0 _ 4 32 Try.underlying199 hi hi0 hi1 hi2 rfl (by omega) v L.length _ (World.ownsRow.alloc h _) ⟨w.heap.size, 0, none⟩ 1 1 [.int .i64 m.sn, .bool m.part, .int .i64 m.fr, .int .i64 m.to] rfl
    (World.news_of_block (cs := #[.int .i64 m.sn, .bool m.part, .int .i64 m.fr, .int .i64 m.to]) (heap_alloc_new w _)) (by intro u hu; simp at hu; rcases hu with rfl | rfl | rfl | rfl <;> rfl) (by omega) (by unfold maxLen; omega) (by omega) (by simp; omega) _ rfl
  refine ⟨g, cap, w3, hr3, ?_, ((Only.refl (fun k => v.ownBlock = some k) w).alloc (.cells #[.int .i64 m.sn, .bool m.part, .int .i64 m.fr, .int .i64 m.to] 311)).grown h3 (fun k hk => .inl hk)⟩
  unfold OwnM
  rw [List.length_append, mcells_append]
  exact h2
end Go.Proofs.Ytbcjfdhphpckfaa
