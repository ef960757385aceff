/-
  status: numbers are got, one behind the other; what tells that bytes are a status. status: the document's miss: may it be?. status: the document's Right. status: are lists of misses equal?. status: are statuses equal? the code's and the document's. status: what is wrong with bytes; one miss is read. status: numbers are put, one behind the other. status: a miss is written, and a status. status: one miss is read. status: one miss is read, with a part.
-/
import Derived.Test.YtbcjfdhphpckfaaJPlainLives10
import Derived.Test.YtbcjfdhphpckfaaJPlainLives04
import Derived.Test.YtbcjfdhphpckfaaJPlainLives08
import Derived.Deep.RegionHeld3
import Derived.BigRegion
import Derived.Deep.RegionWith
namespace Go.Proofs.Ytbcjfdhphpckfaa
open Go.RowKit

def KeepR (B : Nat) (w v : World) : Prop := Below B w v ∧ w.heap.size ≤ v.heap.size ∧ ∀ (g : Nat) (t : TypeId) (cs : Array Value), t ≠ 327 → Row w g t cs → Row v g t cs
section
variable {B : Nat} {w v u : World}
theorem KeepR.refl (B : Nat) (w : World) : KeepR B w w := ⟨Below.refl _ _, Nat.le_refl _, fun _ _ _ _ h => h⟩
theorem KeepR.trans (h : KeepR B w v) (k : KeepR B v u) : KeepR B w u := ⟨h.1.trans k.1, Nat.le_trans h.2.1 k.2.1, fun g t cs h1 hr => k.2.2 g t cs h1 (h.2.2 g t cs h1 hr)⟩
theorem KeepR.of_below (h : Below w.heap.size w v) (hB : B ≤ w.heap.size) : KeepR B w v := ⟨h.mono hB, h.size, fun _ _ _ _ hr => hr.later h⟩
theorem KeepR.then_below (h : KeepR B w v) (hB : B ≤ w.heap.size) (k : Below v.heap.size v u) : KeepR B w u := h.trans (.of_below k (Nat.le_trans hB h.2.1))
theorem KeepR.alloc (h : KeepR B w v) (hB : B ≤ w.heap.size) (o : Obj) : KeepR B w (v.alloc o) := h.then_below hB (bl_alloc (Below.refl _ _) o)
theorem KeepR.row (h : KeepR B w v) {g : Nat} {t : TypeId} {cs : Array Value} (hr : Row w g t cs) (h1 : t ≠ 327) : Row v g t cs := h.2.2 g t cs h1 hr
end
theorem got_keep {B : Nat} {w v : World} {p g i : Nat} {bs : List Nat} (hr : RRep w p g bs i) (hp : B ≤ p) (h : Only (fun k => k = p) w v) : KeepR B w v :=
  ⟨get_below h hp (by have := hr.1.inside; omega), h.size, fun g' t cs h1 hg => hg.only h fun hS => hg.apart hr.1 h1 hS⟩
theorem KeepR.set_new {B : Nat} {w v : World} (h : KeepR B w v) {p : Addr} (hB : B ≤ w.heap.size) (hp : w.heap.size ≤ p.block) (x : Value) : KeepR B w (v.setCell p x) :=
  ⟨h.1.setCell (Nat.le_trans hB hp) x, by rw [show (v.setCell p x).heap.size = v.heap.size by simp [World.setCell]]; exact h.2.1, fun g t cs h1 hg => (h.2.2 g t cs h1 hg).elsewhere (by have := hg.inside; omega) x⟩
def intsR (L : List Nat) : List Value := L.map fun v : Nat => .int .i64 v
/-- numbers of so many bits each, one behind the other, from a place on -/
def segs (bs : List Nat) : Nat → List Nat → List Nat
  | _, [] => []
  | i, n :: r => val (seg bs i n) :: segs bs (i + n) r
theorem len_segs (bs : List Nat) : ∀ (W : List Nat) (i : Nat), (segs bs i W).length = W.length := by
  intro W
  induction W with
  | nil => intro i; rfl
  | cons n r ih => intro i; simp [segs, ih]
theorem segs_append (bs : List Nat) : ∀ (W V : List Nat) (i : Nat), segs bs i (W ++ V) = segs bs i W ++ segs bs (i + W.sum) V := by
  intro W
  induction W with
  | nil => intro V i; simp [segs]
  | cons n r ih => intro V i; simp [segs, ih, Nat.add_assoc]
def gcells (bs : List Nat) (i : Nat) (W : List Nat) (k : Nat) : List Value := intsR (segs bs i (W.take k)) ++ List.replicate (W.length - k) (.int .i64 0)
theorem gcells_step {bs W : List Nat} {i k n : Nat} (h : W[k]? = some n) : (gcells bs i W k).set k (.int .i64 (val (seg bs (i + (W.take k).sum) n) : Nat)) = gcells bs i W (k + 1) := by
  obtain ⟨h1, h2⟩ := List.getElem?_eq_some_iff.1 h
  have hl : (intsR (segs bs i (W.take k))).length = k := by unfold intsR; rw [List.length_map, len_segs, List.length_take]; omega
  unfold gcells
  rw [List.set_append_right _ _ (by omega), hl, Nat.sub_self, show W.length - k = (W.length - (k + 1)) + 1 by omega, List.replicate_succ, List.set_cons_zero, List.take_succ_eq_append_getElem h1, segs_append, h2]
  simp [intsR, segs]
theorem gcells_at (bs : List Nat) (i : Nat) {W : List Nat} {k : Nat} (h : k < W.length) : (gcells bs i W k).toArray[k]? = some (.int .i64 0) := by
  have hl : (intsR (segs bs i (W.take k))).length = k := by unfold intsR; rw [List.length_map, len_segs, List.length_take]; omega
  unfold gcells
  rw [List.getElem?_toArray, List.getElem?_append_right (by omega), hl, Nat.sub_self, List.getElem?_replicate, if_pos (by omega)]
theorem take_sum {W : List Nat} {k n : Nat} (h : W[k]? = some n) : (W.take (k + 1)).sum = (W.take k).sum + n := by
  obtain ⟨h1, h2⟩ := List.getElem?_eq_some_iff.1 h
  rw [List.take_succ_eq_append_getElem h1, List.sum_append, h2]
  simp
theorem take_sum_le (W : List Nat) (k : Nat) : (W.take k).sum ≤ W.sum := by
  have h := congrArg List.sum (List.take_append_drop k W)
  rw [List.sum_append] at h
  omega
theorem make_ints3 (n : Nat) (h : n ≤ 8192) (w : World) :
    (Instr.makeSlice 30 (.int .i64 (n : Int)) (.int .i64 (n : Int))).run Try.prog w = .ok (.slice (some ⟨w.heap.size, 0, none⟩) n n) (w.alloc (.cells (List.replicate n (Value.int .i64 0)).toArray 3)) := by
  obtain ⟨i, hi, hz, hs, hb⟩ := (info_parts Try.info3)
  have h := run_make (P := Try.prog) w 30 3 i _ Try.underlying30 hi hz .i64 .i64 n n (by omega) (Int.le_refl _) (by rw [hb]; omega) (by omega)
  have e : madeCells #[.int .i64 0] n = (List.replicate n (Value.int .i64 0)).toArray := by
    apply Array.toList_inj.1
    rw [toList_madeCells_one]
  rw [h, hs, Nat.mul_one, Int.toNat_natCast, ← e]
  rfl
theorem set_arr (l : List Value) (k : Nat) (v : Value) : l.toArray.setIfInBounds k v = (l.set k v).toArray := by simp
/-- numbers got -/
def GetAns (B : Nat) (w : World) (p gb : Nat) (bs : List Nat) (i : Nat) (W : List Nat) (e : Ending) (w' : World) : Prop :=
  (i + W.sum ≤ 8 * bs.length → ∃ g, e = .returned (.tuple #[.slice (some ⟨g, 0, none⟩) W.length W.length, .int .i64 0]) ∧ Row w' g 3 (intsR (segs bs i W)).toArray ∧ w.heap.size ≤ g ∧ RRep w' p gb bs (i + W.sum)) ∧
  (8 * bs.length < i + W.sum → e = .returned (.tuple #[.slice none 0 0, .int .i64 8])) ∧ KeepR B w w'
set_option maxRecDepth 100000 in
set_option maxHeartbeats 3200000 in
theorem sget_any {B p gb g : Nat} {bs : List Nat} {i : Nat} {W : List Nat} (n cap : Nat) (w : World) (hr : RRep w p gb bs i) (hp : B ≤ p) (hg : Row w g 3 (intsR W).toArray) (hW : W.length = n) (hn : n ≤ 3) (hw : ∀ x ∈ W, x ≤ 16) :
    Calls Try.prog 236 #[.pointer (some ⟨p, 0, none⟩), .slice (some ⟨g, 0, none⟩) n cap] w (GetAns B w p gb bs i W) := by
  have hmk := make_ints3 n (by omega) w
  have HR := Lib.hid hr
  have HG := Lib.hid hg
  have HW := Lib.hid hW
  have HWW := Lib.hid hw
  have HB := Lib.hid (show B ≤ w.heap.size by have := hr.1.inside; omega)
  have ROWL := Lib.hid (Row.made w 3 (List.replicate n (Value.int .i64 0)).toArray)
  clear hr hg hW hw
  go_enter Try.func236, Try.ntmps236
  go_wp2
  clear hmk
  go_loopw [16] (fun it wr => ∃ k : Nat, k ≤ n ∧ it = .int .i64 k ∧ Hid (RRep wr p gb bs (i + (W.take k).sum)) ∧ Hid (Row wr w.heap.size 3 (gcells bs i W k).toArray) ∧ Hid (KeepR B w wr)) (fun it _ => n - (intOf it).toNat)
  case atStart => exact ⟨0, by omega, rfl, Lib.hid (by simpa using HR.out.later (bl_alloc (Below.refl _ _) _)), Lib.hid (by simpa [gcells, segs, intsR, HW.out] using ROWL.out), Lib.hid ((KeepR.refl _ _).alloc HB.out _)⟩
  case round =>
    obtain ⟨k, hk, rfl, HRK, HROW, HKP⟩ := hrel
    by_cases hlt : k < n
    · obtain ⟨m, hx⟩ : ∃ r, W[k]? = some r := ⟨_, List.getElem?_eq_getElem (by rw [HW.out]; exact hlt)⟩
      have RG := HKP.out.row HG.out (by decide)
      have c0 : wr.cell? ⟨g, k, none⟩ = some (.int .i64 m) := RG.read (by simp [intsR, hx])
      have hm16 : m ≤ 16 := HWW.out m (List.mem_of_getElem? hx)
      have hkI : (k : Int) < (n : Int) := by omega
      have HTS := Lib.hid (take_sum hx)
      have HLE := Lib.hid (take_sum_le W (k + 1))
      rcases Nat.lt_or_ge (8 * bs.length) (i + (W.take k).sum + m) with hsh | hsh
      · have HGT := Lib.hid (get_short m wr HRK.out (by omega) (by have := HRK.out.2.2.1; omega))
        have HBAD := Lib.hid (show 8 * bs.length < i + W.sum by have h1 := HTS.out; have h2 := HLE.out; omega)
        clear hx RG hsh
        go_wp2_with (go_at_call 231; (with_reducible refine HGT.out.mono ?_); rintro e w1 ⟨rfl, hb1⟩)
        go_ret2
        exact ⟨fun h => absurd HBAD.out (by omega), fun _ => rfl, HKP.out.then_below HB.out hb1⟩
      · have hv : val (seg bs (i + (W.take k).sum) m) < 65536 := Nat.lt_of_lt_of_le (seg_lt2 hsh) (Nat.pow_le_pow_right (by decide) hm16)
        have HGT := Lib.hid (get_any m wr HRK.out (by omega) hsh)
        have HCS := Lib.hid (gcells_step (bs := bs) (i := i) hx)
        generalize val (seg bs (i + (W.take k).sum) m) = v at *
        have hwr : IntKind.i64.wrap (v : Int) = (v : Int) := by rw [IntKind.wrap_i64]; omega
        clear hx RG hsh
        go_wp2_with (go_at_call 231; (with_reducible refine HGT.out.mono ?_); rintro e w1 ⟨rfl, hr1, ho1⟩; (have HR1 := Lib.hid hr1; have KP1 := Lib.hid (got_keep (B := B) HRK.out hp ho1); clear hr1 ho1; have ROW1 := Lib.hid (KP1.out.row HROW.out (by decide)); have fz := ROW1.out.free k; have cz := ROW1.out.read (gcells_at bs i (by rw [HW.out]; exact hlt))))
        go_roundw
        case rel =>
          refine ⟨k + 1, by omega, by go_num, Lib.hid ?_, Lib.hid ?_, Lib.hid ?_⟩
          · have h := HR1.out
            rw [HTS.out, ← Nat.add_assoc]
            exact ⟨h.1.elsewhere (fun e => ROW1.out.apart h.1 (by decide) e.symm) _, h.2.1.elsewhere (fun e => ROW1.out.apart h.2.1 (by decide) e.symm) _, h.2.2⟩
          · have h := ROW1.out.written k (.int .i64 v)
            rw [set_arr, HCS.out] at h
            exact h
          · exact (HKP.out.trans KP1.out).set_new HB.out (Nat.le_refl _) _
        case measure => simp [intOf]; omega
    · have hkn : k = n := by omega
      subst hkn
      have HTK := Lib.hid (show W.take k = W from List.take_of_length_le (by rw [HW.out]; exact Nat.le_refl _))
      go_wp2
      go_ret2
      have h1 := HRK.out
      have h2 := HROW.out
      unfold gcells at h2
      rw [HTK.out] at h1 h2
      rw [HW.out, Nat.sub_self] at h2
      simp only [List.replicate_zero, List.append_nil] at h2
      refine ⟨fun _ => ⟨_, ?_, h2, Nat.le_refl _, h1⟩, fun h => absurd h1.2.2.1 (by omega), HKP.out⟩
      rw [HW.out]
      rfl
end Go.Proofs.Ytbcjfdhphpckfaa
namespace Go.Proofs.Ytbcjfdhphpckfaa
open Go.RowKit

end Go.Proofs.Ytbcjfdhphpckfaa
namespace Go.Proofs.Ytbcjfdhphpckfaa
open Go.RowKit

end Go.Proofs.Ytbcjfdhphpckfaa
namespace Go.Proofs.Ytbcjfdhphpckfaa
open Go.RowKit

def eqM (a b : MissM) : Bool := (a.sn == b.sn) && (a.part == b.part) && (a.fr == b.fr) && (a.to == b.to)
theorem eqM_iff (a b : MissM) : eqM a b = true ↔ a = b := by
  obtain ⟨a1, a2, a3, a4⟩ := a
  obtain ⟨b1, b2, b3, b4⟩ := b
  simp [eqM, and_assoc]
def eqMs : List MissM → List MissM → Bool
  | [], [] => true
  | a :: l, b :: m => eqM a b && eqMs l m
  | _, _ => false
theorem eqMs_len {L M : List MissM} (h : L.length ≠ M.length) : eqMs L M = false := by
  induction L generalizing M with
  | nil =>
    cases M with
    | nil => exact absurd rfl h
    | cons => rfl
  | cons a t ih =>
    cases M with
    | nil => rfl
    | cons b u =>
      have := ih (M := u) (by simpa using h)
      simp [eqMs, this]
end Go.Proofs.Ytbcjfdhphpckfaa
namespace Go.Proofs.Ytbcjfdhphpckfaa
open Go.RowKit

theorem eqM_case {sn sn' : Int} {part part' : Bool} {fr fr' to to' : Int} (hq : ¬ eqM ⟨sn, part, fr, to⟩ ⟨sn', part', fr', to'⟩ = true) : (sn ≠ sn') ∨ (sn = sn' ∧ part ≠ part') ∨ (sn = sn' ∧ part = part' ∧ fr ≠ fr') ∨ (sn = sn' ∧ part = part' ∧ fr = fr' ∧ to ≠ to') := by
  by_cases h1 : sn = sn'
  · by_cases h2 : part = part'
    · by_cases h3 : fr = fr'
      · by_cases h4 : to = to'
        · exact absurd ((eqM_iff _ _).2 (by rw [h1, h2, h3, h4])) hq
        · exact .inr (.inr (.inr ⟨h1, h2, h3, h4⟩))
      · exact .inr (.inr (.inl ⟨h1, h2, h3⟩))
    · exact .inr (.inl ⟨h1, h2⟩)
  · exact .inl h1
def eqS (a : Int) (L : List MissM) (b : Int) (M : List MissM) : Bool := (a == b) && eqMs L M
end Go.Proofs.Ytbcjfdhphpckfaa
namespace Go.Proofs.Ytbcjfdhphpckfaa
open Go.RowKit

def faultS (bs : List Nat) (x : Int) : Int := if okS x = false then 9 else if bs.length = 0 then 8 else if 128 ≤ bs.getD 0 0 then 4 else if 16 ≤ bs.getD 0 0 then 3 else 0
set_option maxRecDepth 100000 in
set_option maxHeartbeats 1600000 in
theorem sfault_any {A : Option Addr} {bs : List Nat} (x : Int) (n cap : Nat) (w : World) (hn : bs.length = n) (hs : Src w A (bts bs)) (hb : ∀ b ∈ bs, b < 256) :
    Calls Try.prog 235 #[.slice A n cap, .int .i64 x] w fun e w' => e = .returned (.int .i64 (faultS bs x)) ∧ w = w' := by
  have HM := Lib.hid (fun W => smay_any x W)
  cases hx : okS x
  · have HF := Lib.hid (show faultS bs x = 9 by unfold faultS; rw [if_pos hx])
    rw [hx] at HM
    clear hx hs hb hn
    go_enter Try.func235, Try.ntmps235
    go_wp2_with (go_at_call 267; refine (HM.out _).mono ?_; rintro e w1 ⟨rfl, rfl⟩)
    go_ret
    exact ⟨by rw [HF.out]; rfl, rfl⟩
  · rw [hx] at HM
    cases bs with
    | nil =>
      have HF := Lib.hid (show faultS [] x = 8 by unfold faultS; rw [hx]; rfl)
      simp only [List.length_nil] at hn
      subst hn
      clear hx hs hb
      go_enter Try.func235, Try.ntmps235
      go_wp2_with (go_at_call 267; refine (HM.out _).mono ?_; rintro e w1 ⟨rfl, rfl⟩)
      go_ret
      exact ⟨by rw [HF.out]; rfl, rfl⟩
    | cons b r =>
      have hb0 : b < 256 := hb b (List.mem_cons_self ..)
      obtain ⟨ad, rfl, hc⟩ := hs (by simp [bts])
      have c0 : w.cell? (ad.add 0) = some (.int .u8 b) := hc 0 _ rfl
      have hn0 : 0 < n := by simp at hn; omega
      have hne : (n == 0) = false := by simp; omega
      have hneI : ((n : Int) == 0) = false := by simp; omega
      have HFF := Lib.hid (show faultS (b :: r) x = if 128 ≤ b then 4 else if 16 ≤ b then 3 else 0 by unfold faultS; rw [hx]; simp)
      have e0 : ad.add 0 = ad := by simp [Addr.add]
      rw [e0] at c0
      clear hx hc hb hn e0
      by_cases h1 : 128 ≤ b
      · have g1 : ((b : Int) / 2 ^ 7 == 1) = true := by simp; omega
        rw [if_pos h1] at HFF
        go_enter Try.func235, Try.ntmps235
        go_wp2_with (go_at_call 267; refine (HM.out _).mono ?_; rintro e w1 ⟨rfl, rfl⟩)
        go_ret
        exact ⟨by rw [HFF.out]; rfl, rfl⟩
      · have g1 : ((b : Int) / 2 ^ 7 == 1) = false := by simp; omega
        rw [if_neg h1] at HFF
        by_cases h2 : 16 ≤ b
        · have g2 : ((b : Int) / 2 ^ 4 != 0) = true := by simp; omega
          rw [if_pos h2] at HFF
          go_enter Try.func235, Try.ntmps235
          go_wp2_with (go_at_call 267; refine (HM.out _).mono ?_; rintro e w1 ⟨rfl, rfl⟩)
          go_ret
          exact ⟨by rw [HFF.out]; rfl, rfl⟩
        · have g2 : ((b : Int) / 2 ^ 4 != 0) = false := by simp; omega
          rw [if_neg h2] at HFF
          go_enter Try.func235, Try.ntmps235
          go_wp2_with (go_at_call 267; refine (HM.out _).mono ?_; rintro e w1 ⟨rfl, rfl⟩)
          go_ret
          exact ⟨by rw [HFF.out]; rfl, rfl⟩
end Go.Proofs.Ytbcjfdhphpckfaa
namespace Go.Proofs.Ytbcjfdhphpckfaa
open Go.RowKit

/-- below B nothing has changed, and rows of other types than a writer's stay -/
def KeepW (B : Nat) (w v : World) : Prop := Below B w v ∧ w.heap.size ≤ v.heap.size ∧ ∀ (g : Nat) (t : TypeId) (cs : Array Value), t ≠ 5 → t ≠ 318 → Row w g t cs → Row v g t cs
section
variable {B : Nat} {w v u : World}
theorem KeepW.refl (B : Nat) (w : World) : KeepW B w w := ⟨Below.refl _ _, Nat.le_refl _, fun _ _ _ _ _ h => h⟩
theorem KeepW.trans (h : KeepW B w v) (k : KeepW B v u) : KeepW B w u := ⟨h.1.trans k.1, Nat.le_trans h.2.1 k.2.1, fun g t cs h1 h2 hr => k.2.2 g t cs h1 h2 (h.2.2 g t cs h1 h2 hr)⟩
theorem KeepW.of_below (h : Below w.heap.size w v) (hB : B ≤ w.heap.size) : KeepW B w v := ⟨h.mono hB, h.size, fun _ _ _ _ _ hr => hr.later h⟩
theorem KeepW.alloc (h : KeepW B w v) (hB : B ≤ w.heap.size) (o : Obj) : KeepW B w (v.alloc o) := h.trans (KeepW.of_below (bl_alloc (Below.refl _ _) o) (Nat.le_trans hB h.2.1))
theorem KeepW.row (h : KeepW B w v) {g : Nat} {t : TypeId} {cs : Array Value} (hr : Row w g t cs) (h1 : t ≠ 5) (h2 : t ≠ 318) : Row v g t cs := h.2.2 g t cs h1 h2 hr
end
theorem wrote_keep {B : Nat} {w v : World} {p : Nat} {sv : Value} {bl : List Bool} (hr : WRep B w p sv bl) (h : Only (fun k => k = p ∨ sv.ownBlock = some k) w v) : KeepW B w v := by
  refine ⟨wrote_below hr h, h.size, fun g t cs h1 h2 hg => hg.only h fun hS => ?_⟩
  rcases hS with hS | hS
  · exact hg.apart hr.2.1 h2 hS
  · exact own_apart hr.2.2 hg (Ne.symm h1) hS
def intsV (L : List Nat) : List Value := L.map fun v : Nat => .int .i64 v
theorem intsV_at {L : List Nat} {k v : Nat} (h : L[k]? = some v) : (intsV L).toArray[k]? = some (.int .i64 v) := by simp [intsV, h]
def putsN (L : List Nat) (n : Nat) : List (Nat × Nat) := L.map fun v => (v, n)
theorem putsN_take {L : List Nat} {k v n : Nat} (h : L[k]? = some v) : putsN (L.take (k + 1)) n = putsN (L.take k) n ++ [(v, n)] := by
  obtain ⟨h1, h2⟩ := List.getElem?_eq_some_iff.1 h
  unfold putsN
  rw [List.take_succ_eq_append_getElem h1, List.map_append, h2]
  rfl
theorem len_putsN (L : List Nat) (n : Nat) : (bitsP (putsN L n)).length = L.length * n := by
  induction L with
  | nil => simp [putsN, bitsP]
  | cons a t ih =>
    have e : bitsP (putsN (a :: t) n) = unval a n ++ bitsP (putsN t n) := rfl
    rw [e, List.length_append, length_unval, ih, List.length_cons, Nat.add_mul]
    omega
end Go.Proofs.Ytbcjfdhphpckfaa
namespace Go.Proofs.Ytbcjfdhphpckfaa
open Go.RowKit

/-- a writer at block p has the bits of kp; since w0 only what may has changed -/
def StW (B : Nat) (w0 : World) (p : Nat) (kp : List (Nat × Nat)) (w : World) : Prop := (∃ sv, WRep B w p sv (bitsP kp)) ∧ KeepW B w0 w ∧ B ≤ w0.heap.size
theorem StW.alloc {B p : Nat} {w0 w : World} {kp : List (Nat × Nat)} (h : StW B w0 p kp w) (o : Obj) : StW B w0 p kp (w.alloc o) := by
  obtain ⟨⟨sv, h1⟩, h2, h3⟩ := h
  exact ⟨⟨sv, h1.later (bl_alloc (Below.refl _ _) o)⟩, h2.alloc h3 o, h3⟩
theorem StW.drew {B p : Nat} {w0 w : World} {kp : List (Nat × Nat)} (h : StW B w0 p kp w) : StW B w0 p kp w.drew := by
  obtain ⟨⟨sv, h1⟩, h2, h3⟩ := h
  exact ⟨⟨sv, h1.later (bl_drew (Below.refl _ _))⟩, h2.trans (KeepW.of_below (bl_drew (Below.refl _ _)) (Nat.le_trans h3 h2.2.1)), h3⟩
theorem StW.next {B p : Nat} {w0 w1 w : World} {kp kp' : List (Nat × Nat)} (h : StW B w0 p kp w1) (k : StW B w1 p kp' w) : StW B w0 p kp' w := ⟨k.1, h.2.1.trans k.2.1, h.2.2⟩
theorem StW.start {B p : Nat} {w : World} {kp : List (Nat × Nat)} (h : ∃ sv, WRep B w p sv (bitsP kp)) (hB : B ≤ w.heap.size) : StW B w p kp w := ⟨h, KeepW.refl _ _, hB⟩
theorem row_at (W : World) (k : Nat) (t : TypeId) (cs : Array Value) (h : W.heap.size = k) : Row (W.alloc (.cells cs t)) k t cs := by subst h; exact Row.made _ _ _
theorem size_1 (w : World) (o : Obj) : (w.alloc o).heap.size = w.heap.size + 1 := by simp
theorem cells_miss {w : World} {g : Nat} {a b c d : Value} (hr : Row w g 311 #[a, b, c, d]) : w.cell? ⟨g, 0, none⟩ = some a ∧ w.cell? ⟨g, 1, none⟩ = some b ∧ w.cell? ⟨g, 2, none⟩ = some c ∧ w.cell? ⟨g, 3, none⟩ = some d :=
  ⟨hr.read rfl, hr.read rfl, hr.read rfl, hr.read rfl⟩
theorem bool_one (b : Bool) : b.toNat < 2 ^ 1 := by cases b <;> decide
theorem cell_more {w : World} {g j : Nat} {x : Value} (o : Obj) (h : w.cell? ⟨g, j, none⟩ = some x) : (w.alloc o).drew.cell? ⟨g, j, none⟩ = some x := (World.cell?_alloc_some w _ _ (by rw [h]; rfl)).trans h
theorem lastF_nat {m : MissM} {x : Nat} (hp : m.part = true) (h : placedB m x = true) : ∃ l : Nat, l < 2 ^ pbN x ∧ lastF m.to x = (l : Int) ∧ 0 ≤ m.to ∧ m.to ≤ 65535 := by
  obtain ⟨_, _, h1, h2, _⟩ := miss_part hp h
  have h3 := onF_pow x
  have h4 := pow_pbN x
  refine ⟨(lastF m.to x).toNat, h2, by omega, ?_⟩
  unfold placedB at h
  rw [hp] at h
  simp only [if_true] at h
  unfold lastF at h1 h2
  generalize onF (x : Int) = o at *
  generalize 2 ^ pbN x = p at *
  split at h1
  · omega
  · rename_i h0
    simp only [h0, if_false, Bool.and_eq_true, decide_eq_true_eq] at h
    omega
end Go.Proofs.Ytbcjfdhphpckfaa
namespace Go.Proofs.Ytbcjfdhphpckfaa
open Go.RowKit

theorem Try.infomiss : (Try.prog.info? 311).map (·.size) = some 4 := by kernel_rfl
theorem Try.undermiss : (Try.prog.underlying 311).map (fun d => match d with | .struct _ => true | _ => false) = some true := by kernel_rfl
theorem undermiss_parts : ∃ fs, Try.prog.underlying 311 = some (.struct fs) := by
  obtain ⟨d, hd, h⟩ := Option.map_eq_some_iff.1 Try.undermiss
  cases d with
  | struct fs => exact ⟨fs, hd⟩
  | _ => simp at h
theorem st_results_cell {fn : Func} {p u v : Tmp} {ty : TypeId} (h : fn.results = #[.cell p ty, .tmp u, .tmp v]) (tmps : Array Value) (P : Program) (w : World) :
    (results fn tmps).run P w =
      ((asAddr (tmps.getD p undef)).run P w).andThen fun a w₁ => ((loadVar ty a).run P w₁).andThen fun x w₂ => .ok (.tuple #[x, tmps.getD u undef, tmps.getD v undef]) w₂ := by
  simp only [results, h]
  simp [Sem.run_bind, Result.andThen]
theorem st_results_three {fn : Func} {p u v : Tmp} {ty : TypeId} (h : fn.results = #[.cell p ty, .tmp u, .tmp v]) (tmps : Array Value) (w : World) (g : Nat) (t : TypeId) (cs : Array Value) (fs : Array Field)
    (hp : tmps.getD p undef = .pointer (some ⟨g, 0, none⟩)) (hg : Row w g t cs)
    (hu : Try.prog.underlying ty = some (.struct fs)) (hi : (Try.prog.info? ty).map (·.size) = some cs.size) :
    (results fn tmps).run Try.prog w = .ok (.tuple #[.agg cs, tmps.getD u undef, tmps.getD v undef]) w := by
  rw [st_results_cell h, hp]
  simp only [asAddr, Sem.run_pure, Result.andThen_ok, run_loadVar_row w g t ty cs (0, 0) (.struct fs) hg hu rfl hi]
theorem cells4 {w : World} {g : Nat} {t : TypeId} {a b c d : Value} (hr : Row w g t #[a, b, c, d]) : (w.cell? ⟨g, 0, none⟩ = some a ∧ w.cell? ⟨g, 1, none⟩ = some b ∧ w.cell? ⟨g, 2, none⟩ = some c ∧ w.cell? ⟨g, 3, none⟩ = some d) ∧ (w.frozen? ⟨g, 0, none⟩ = false ∧ w.frozen? ⟨g, 1, none⟩ = false ∧ w.frozen? ⟨g, 2, none⟩ = false ∧ w.frozen? ⟨g, 3, none⟩ = false) :=
  ⟨⟨hr.read rfl, hr.read rfl, hr.read rfl, hr.read rfl⟩, hr.free _, hr.free _, hr.free _, hr.free _⟩
theorem row_at2 (W : World) (k : Nat) (t : TypeId) (cs : Array Value) (h : W.heap.size = k) : Row (W.alloc (.cells cs t)) k t cs := by subst h; exact Row.made _ _ _
/-- a reader at block p reads the bits of bs from place i on; since w0 only what may has changed -/
def StR (B : Nat) (w0 : World) (p gb : Nat) (bs : List Nat) (i : Nat) (w : World) : Prop := RRep w p gb bs i ∧ KeepR B w0 w ∧ B ≤ w0.heap.size ∧ B ≤ p
section
variable {B p gb i j : Nat} {bs : List Nat} {w0 w1 w : World}
theorem StR.start (h : RRep w p gb bs i) (hp : B ≤ p) : StR B w p gb bs i w := ⟨h, KeepR.refl _ _, by have := h.1.inside; omega, hp⟩
theorem StR.more (h : StR B w0 p gb bs i w) {v : World} (hb : Below w.heap.size w v) : StR B w0 p gb bs i v := ⟨h.1.later hb, h.2.1.then_below h.2.2.1 hb, h.2.2⟩
theorem StR.next (h : StR B w0 p gb bs i w1) (k : StR B w1 p gb bs j w) : StR B w0 p gb bs j w := ⟨k.1, h.2.1.trans k.2.1, h.2.2⟩
theorem StR.set (h : StR B w0 p gb bs i w) {a : Addr} (ha : w0.heap.size ≤ a.block) {t : TypeId} {cs : Array Value} (hg : Row w a.block t cs) (h1 : t ≠ 5) (h2 : t ≠ 327) (x : Value) : StR B w0 p gb bs i (w.setCell a x) :=
  ⟨⟨h.1.1.elsewhere (fun e => hg.apart h.1.1 h2 e.symm) _, h.1.2.1.elsewhere (fun e => hg.apart h.1.2.1 h1 e.symm) _, h.1.2.2⟩, h.2.1.set_new h.2.2.1 ha x, h.2.2⟩
/-- numbers got, when there are enough bits -/
theorem StR.get {g n cap : Nat} {W : List Nat} (h : StR B w0 p gb bs i w) (hg : Row w g 3 (intsR W).toArray) (hW : W.length = n) (hn : n ≤ 3) (hw : ∀ x ∈ W, x ≤ 16) (hf : i + W.sum ≤ 8 * bs.length) :
    Calls Try.prog 236 #[.pointer (some ⟨p, 0, none⟩), .slice (some ⟨g, 0, none⟩) n cap] w fun e w' => ∃ g', e = .returned (.tuple #[.slice (some ⟨g', 0, none⟩) n n, .int .i64 0]) ∧ Row w' g' 3 (intsR (segs bs i W)).toArray ∧ w.heap.size ≤ g' ∧ StR B w0 p gb bs (i + W.sum) w' := by
  refine (sget_any n cap w h.1 h.2.2.2 hg hW hn hw).mono fun _ _ h1 => ?_
  obtain ⟨g', e1, e2, e3, e4⟩ := h1.1 hf
  rw [hW] at e1
  exact ⟨g', e1, e2, e3, e4, h.2.1.trans h1.2.2, h.2.2⟩
theorem StR.get_no {g n cap : Nat} {W : List Nat} (h : StR B w0 p gb bs i w) (hg : Row w g 3 (intsR W).toArray) (hW : W.length = n) (hn : n ≤ 3) (hw : ∀ x ∈ W, x ≤ 16) (hf : 8 * bs.length < i + W.sum) :
    Calls Try.prog 236 #[.pointer (some ⟨p, 0, none⟩), .slice (some ⟨g, 0, none⟩) n cap] w fun e w' => e = .returned (.tuple #[.slice none 0 0, .int .i64 8]) ∧ KeepR B w0 w' :=
  (sget_any n cap w h.1 h.2.2.2 hg hW hn hw).mono fun _ _ h1 => ⟨h1.2.1 hf, h.2.1.trans h1.2.2⟩
end
def set4 (w : World) (g : Nat) (a b c d : Value) : World := (((w.setCell ⟨g, 0, none⟩ a).setCell ⟨g, 1, none⟩ b).setCell ⟨g, 2, none⟩ c).setCell ⟨g, 3, none⟩ d
theorem row_set4 {w : World} {g : Nat} {t : TypeId} {a b c d a' b' c' d' : Value} (h : Row w g t #[a, b, c, d]) : Row (set4 w g a' b' c' d') g t #[a', b', c', d'] := (((h.written 0 a').written 1 b').written 2 c').written 3 d'
theorem cell_set4 {w : World} {g g' j : Nat} {t t' : TypeId} {cs cs' : Array Value} {x a b c d : Value} (h : Row w g t cs) (h' : Row w g' t' cs') (hne : t ≠ t') (hx : cs'[j]? = some x) : (set4 w g a b c d).cell? ⟨g', j, none⟩ = some x := by
  have e : g' ≠ g := fun e => h.apart h' hne e.symm
  exact ((((h'.elsewhere (p := ⟨g, 0, none⟩) e a).elsewhere (p := ⟨g, 1, none⟩) e b).elsewhere (p := ⟨g, 2, none⟩) e c).elsewhere (p := ⟨g, 3, none⟩) e d).read hx
theorem KeepR.set4 {B g : Nat} {w v : World} (h : KeepR B w v) (hB : B ≤ w.heap.size) (hg : w.heap.size ≤ g) (a b c d : Value) : KeepR B w (set4 v g a b c d) := (((h.set_new hB (p := ⟨g, 0, none⟩) hg a).set_new hB (p := ⟨g, 1, none⟩) hg b).set_new hB (p := ⟨g, 2, none⟩) hg c).set_new hB (p := ⟨g, 3, none⟩) hg d
theorem rrep_set4 {w : World} {p gb i g : Nat} {bs : List Nat} {t : TypeId} {cs : Array Value} (h : RRep w p gb bs i) (hg : Row w g t cs) (h1 : t ≠ 5) (h2 : t ≠ 327) (a b c d : Value) : RRep (set4 w g a b c d) p gb bs i := by
  have e1 : p ≠ g := fun e => hg.apart h.1 h2 e.symm
  have e2 : gb ≠ g := fun e => hg.apart h.2.1 h1 e.symm
  exact ⟨(((h.1.elsewhere (p := ⟨g, 0, none⟩) e1 a).elsewhere (p := ⟨g, 1, none⟩) e1 b).elsewhere (p := ⟨g, 2, none⟩) e1 c).elsewhere (p := ⟨g, 3, none⟩) e1 d, (((h.2.1.elsewhere (p := ⟨g, 0, none⟩) e2 a).elsewhere (p := ⟨g, 1, none⟩) e2 b).elsewhere (p := ⟨g, 2, none⟩) e2 c).elsewhere (p := ⟨g, 3, none⟩) e2 d, h.2.2⟩
set_option maxRecDepth 100000 in
set_option maxHeartbeats 1600000 in
theorem smiss_short {B p gb i : Nat} {bs : List Nat} (x : Nat) (w : World) (hr : RRep w p gb bs i) (hp : B ≤ p) (hx : x ≤ 16) (hf : 8 * bs.length < i + x + 1 + 1) :
    Calls Try.prog 237 #[.pointer (some ⟨p, 0, none⟩), .int .i64 x] w fun e w' => e = .returned (.tuple #[.agg #[.int .i64 0, .bool false, .int .i64 0, .int .i64 0], .bool false, .int .i64 8]) ∧ KeepR B w w' := by
  have ROW := Lib.hid (Row.made w 311 #[.int .i64 0, .bool false, .int .i64 0, .int .i64 0])
  have HSZ := Lib.hid (show (w.alloc (.cells #[.int .i64 0, .bool false, .int .i64 0, .int .i64 0] 311)).heap.size = w.heap.size + 1 by simp)
  have HBL := Lib.hid (show B ≤ w.heap.size by have := hr.1.inside; omega)
  have HK0 := Lib.hid ((KeepR.refl B w).alloc HBL.out (.cells #[.int .i64 0, .bool false, .int .i64 0, .int .i64 0] 311))
  have ST0 := Lib.hid (StR.start (B := B) (hr.later (bl_alloc (Below.refl _ _) (.cells #[.int .i64 0, .bool false, .int .i64 0, .int .i64 0] 311))) hp)
  have HG := Lib.hid ((ST0.out.more (bl_alloc (Below.refl _ _) (.cells #[.int .i64 x, .int .i64 1, .int .i64 1] 3))).get_no (g := w.heap.size + 1) (n := 3) (cap := 3) (W := [x, 1, 1]) (row_at2 _ _ 3 _ HSZ.out) rfl (by omega) (by intro y hy; simp at hy; omega) (by simp; omega))
  clear hr hf
  go_enter Try.func237, Try.ntmps237
  go_wp2_with (go_at_call 236; (with_reducible refine HG.out.mono ?_); rintro e w1 ⟨rfl, hk1⟩; (have KP := Lib.hid (HK0.out.trans hk1); have ROW1 := Lib.hid (hk1.row ROW.out (by decide)); clear hk1; obtain ⟨⟨c0, c1, c2, c3⟩, f0, f1, f2, f3⟩ := cells4 ROW1.out))
  obtain ⟨dd, hdd⟩ := undermiss_parts
  refine bodyPost_ret (st_results_three rfl _ _ w.heap.size 311 #[.int .i64 0, .bool false, .int .i64 0, .int .i64 0] dd rfl (row_set4 ROW1.out) hdd Try.infomiss) rfl ?_
  exact ⟨rfl, KP.out.set4 HBL.out (Nat.le_refl _) _ _ _ _⟩
theorem bit_is (b : Bool) : ((b.toNat : Int) == 1) = b := by cases b <;> rfl
set_option maxRecDepth 100000 in
set_option maxHeartbeats 3200000 in
theorem smiss_whole {B p gb i : Nat} {bs : List Nat} (x : Nat) (w : World) (hr : RRep w p gb bs i) (hp : B ≤ p) (hx : x ≤ 16) (hf : i + x + 1 + 1 ≤ 8 * bs.length) (hpt : bitAt bs (i + x + 1) = false) :
    Calls Try.prog 237 #[.pointer (some ⟨p, 0, none⟩), .int .i64 x] w fun e w' => e = .returned (.tuple #[.agg #[.int .i64 (val (seg bs i x) : Nat), .bool false, .int .i64 0, .int .i64 0], .bool (bitAt bs (i + x)), .int .i64 0]) ∧ RRep w' p gb bs (i + x + 1 + 1) ∧ KeepR B w w' := by
  have ROW := Lib.hid (Row.made w 311 #[.int .i64 0, .bool false, .int .i64 0, .int .i64 0])
  have HSZ := Lib.hid (show (w.alloc (.cells #[.int .i64 0, .bool false, .int .i64 0, .int .i64 0] 311)).heap.size = w.heap.size + 1 by simp)
  have HBL := Lib.hid (show B ≤ w.heap.size by have := hr.1.inside; omega)
  have HK0 := Lib.hid ((KeepR.refl B w).alloc HBL.out (.cells #[.int .i64 0, .bool false, .int .i64 0, .int .i64 0] 311))
  have ST0 := Lib.hid (StR.start (B := B) (hr.later (bl_alloc (Below.refl _ _) (.cells #[.int .i64 0, .bool false, .int .i64 0, .int .i64 0] 311))) hp)
  have hsg : segs bs i [x, 1, 1] = [val (seg bs i x), (bitAt bs (i + x)).toNat, (bitAt bs (i + x + 1)).toNat] := by
    simp only [segs]
    rw [val_one (by omega), val_one (by omega)]
  rw [hpt] at hsg
  have hG := (ST0.out.more (bl_alloc (Below.refl _ _) (.cells #[.int .i64 x, .int .i64 1, .int .i64 1] 3))).get (g := w.heap.size + 1) (n := 3) (cap := 3) (W := [x, 1, 1]) (row_at2 _ _ 3 _ HSZ.out) rfl (by omega) (by intro y hy; simp at hy; omega) (by simp; omega)
  rw [hsg, show i + [x, 1, 1].sum = i + x + 1 + 1 by simp; omega] at hG
  have HG := Lib.hid hG
  generalize val (seg bs i x) = sn at *
  generalize bitAt bs (i + x) = more at *
  have hbi := bit_is more
  clear hr hf hsg hpt hG
  go_enter Try.func237, Try.ntmps237
  go_wp2_with (go_at_call 236; (with_reducible refine HG.out.mono ?_); rintro e w1 ⟨g1, rfl, hrow1, hg1, hs1⟩; (have KP := Lib.hid (HK0.out.trans hs1.2.1); have ST1 := Lib.hid hs1; have ROW1 := Lib.hid (hs1.2.1.row ROW.out (by decide)); have ROWH := Lib.hid hrow1; clear hs1 hg1 hrow1))
  have d0 := ROWH.out.drawn.read (i := 0) (x := .int .i64 sn) rfl
  have d2 := ROWH.out.drawn.read (i := 2) (x := .int .i64 0) rfl
  go_region_held3 (fun w' => w'.cell? ⟨g1, 0, none⟩ = some (.int .i64 sn) ∧ w'.cell? ⟨g1, 2, none⟩ = some (.int .i64 0)) (first | assumption | exact ⟨d0, d2⟩ | exact ⟨cell_more _ d0, cell_more _ d2⟩ | go_keep) (fail)
  have HROWM := Lib.hid (show Row (w1.alloc (.cells #[.int .i64 sn, .bool false, .int .i64 0, .int .i64 0] 311)).drew w1.heap.size 311 #[.int .i64 sn, .bool false, .int .i64 0, .int .i64 0] from (Row.made w1 _ _).drawn)
  have HROWR := Lib.hid (show Row (w1.alloc (.cells #[.int .i64 sn, .bool false, .int .i64 0, .int .i64 0] 311)).drew w.heap.size 311 #[.int .i64 0, .bool false, .int .i64 0, .int .i64 0] from (ROW1.out.more _).drawn)
  have HROWH := Lib.hid (show Row (w1.alloc (.cells #[.int .i64 sn, .bool false, .int .i64 0, .int .i64 0] 311)).drew g1 3 (intsR [sn, more.toNat, 0]).toArray from (ROWH.out.more _).drawn)
  have HRR := Lib.hid (show StR B (w.alloc (.cells #[.int .i64 0, .bool false, .int .i64 0, .int .i64 0] 311)) p gb bs (i + x + 1 + 1) (w1.alloc (.cells #[.int .i64 sn, .bool false, .int .i64 0, .int .i64 0] 311)).drew from ST1.out.more (bl_drew (bl_alloc (Below.refl _ _) _)))
  have hne : w.heap.size < w1.heap.size := ROW1.out.inside
  clear d0 d2
  generalize w1.heap.size = q at *
  generalize (w1.alloc (.cells #[.int .i64 sn, .bool false, .int .i64 0, .int .i64 0] 311)).drew = W2 at *
  have e1 := HROWM.out.read (i := 1) (x := .bool false) rfl
  go_wp2_with fail
  clear e1
  obtain ⟨⟨m0, m1, m2, m3⟩, -⟩ := cells4 HROWM.out
  obtain ⟨⟨z0, z1, z2, z3⟩, f0, f1, f2, f3⟩ := cells4 HROWR.out
  have h1 := HROWH.out.read (i := 1) (x := .int .i64 more.toNat) rfl
  have HROWE := Lib.hid (show Row (set4 W2 w.heap.size (.int .i64 sn) (.bool false) (.int .i64 0) (.int .i64 0)) w.heap.size 311 #[.int .i64 sn, .bool false, .int .i64 0, .int .i64 0] from row_set4 HROWR.out)
  have HR3 := Lib.hid HROWR.out.drawn
  have HS3 := Lib.hid (HRR.out.more (bl_drew (Below.refl _ _)))
  have hx1 := cell_set4 (a := .int .i64 sn) (b := .bool false) (c := .int .i64 0) (d := .int .i64 0) HROWR.out HROWH.out (by decide) (j := 1) (x := .int .i64 more.toNat) rfl
  unfold set4 at hx1
  generalize hrr0 : w.heap.size = r at *
  have hrr := Lib.hid hrr0
  clear hrr0
  go_region
  go_wp2
  obtain ⟨dd, hdd⟩ := undermiss_parts
  have KE := (HK0.out.trans HRR.out.2.1).set4 (hrr.out ▸ HBL.out) (Nat.le_of_eq hrr.out) (.int .i64 sn) (.bool false) (.int .i64 0) (.int .i64 0)
  have RE := rrep_set4 HRR.out.1 HROWR.out (by decide) (by decide) (.int .i64 sn) (.bool false) (.int .i64 0) (.int .i64 0)
  refine bodyPost_ret (st_results_three rfl _ _ r 311 #[.int .i64 sn, .bool false, .int .i64 0, .int .i64 0] dd rfl HROWE.out.drawn hdd Try.infomiss) rfl ?_
  exact ⟨rfl, RE.later (bl_drew (Below.refl _ _)), KE.then_below (hrr.out ▸ HBL.out) (bl_drew (Below.refl _ _))⟩
end Go.Proofs.Ytbcjfdhphpckfaa
namespace Go.Proofs.Ytbcjfdhphpckfaa
open Go.RowKit

set_option maxRecDepth 100000 in
set_option maxHeartbeats 3200000 in
theorem smiss_part {B p gb i : Nat} {bs : List Nat} (x : Nat) (w : World) (hr : RRep w p gb bs i) (hp : B ≤ p) (hx : x ≤ 16) (hf : i + x + 1 + 1 + pbN x + pbN x ≤ 8 * bs.length) (hpt : bitAt bs (i + x + 1) = true) :
    Calls Try.prog 237 #[.pointer (some ⟨p, 0, none⟩), .int .i64 x] w fun e w' => e = .returned (.tuple #[.agg #[.int .i64 (val (seg bs i x) : Nat), .bool true, .int .i64 (val (seg bs (i + x + 1 + 1) (pbN x)) : Nat), .int .i64 (endF ((val (seg bs (i + x + 1 + 1 + pbN x) (pbN x)) : Nat) : Int) x)], .bool (bitAt bs (i + x)), .int .i64 0]) ∧ RRep w' p gb bs (i + x + 1 + 1 + pbN x + pbN x) ∧ KeepR B w w' := by
  have ROW := Lib.hid (Row.made w 311 #[.int .i64 0, .bool false, .int .i64 0, .int .i64 0])
  have HSZ := Lib.hid (show (w.alloc (.cells #[.int .i64 0, .bool false, .int .i64 0, .int .i64 0] 311)).heap.size = w.heap.size + 1 by simp)
  have HBL := Lib.hid (show B ≤ w.heap.size by have := hr.1.inside; omega)
  have HK0 := Lib.hid ((KeepR.refl B w).alloc HBL.out (.cells #[.int .i64 0, .bool false, .int .i64 0, .int .i64 0] 311))
  have ST0 := Lib.hid (StR.start (B := B) (hr.later (bl_alloc (Below.refl _ _) (.cells #[.int .i64 0, .bool false, .int .i64 0, .int .i64 0] 311))) hp)
  have hsg : segs bs i [x, 1, 1] = [val (seg bs i x), (bitAt bs (i + x)).toNat, (bitAt bs (i + x + 1)).toNat] := by
    simp only [segs]
    rw [val_one (by omega), val_one (by omega)]
  rw [hpt] at hsg
  have hG := (ST0.out.more (bl_alloc (Below.refl _ _) (.cells #[.int .i64 x, .int .i64 1, .int .i64 1] 3))).get (g := w.heap.size + 1) (n := 3) (cap := 3) (W := [x, 1, 1]) (row_at2 _ _ 3 _ HSZ.out) rfl (by omega) (by intro y hy; simp at hy; omega) (by simp; omega)
  rw [hsg, show i + [x, 1, 1].sum = i + x + 1 + 1 by simp; omega] at hG
  have HG := Lib.hid hG
  have hsg2 : segs bs (i + x + 1 + 1) [pbN x, pbN x] = [val (seg bs (i + x + 1 + 1) (pbN x)), val (seg bs (i + x + 1 + 1 + pbN x) (pbN x))] := rfl
  have hl2 : val (seg bs (i + x + 1 + 1 + pbN x) (pbN x)) < 2 ^ pbN x := seg_lt2 (by omega)
  have hl3 : val (seg bs (i + x + 1 + 1 + pbN x) (pbN x)) ≤ 65535 := by have := (pow_pbN x).2; omega
  have HG2 := Lib.hid (fun W (hst : StR B W p gb bs (i + x + 1 + 1) W) => (hst.more (bl_alloc (Below.refl _ _) (.cells #[.int .i64 (pbN x : Nat), .int .i64 (pbN x : Nat)] 3))).get (g := W.heap.size) (n := 2) (cap := 2) (W := [pbN x, pbN x]) (row_at2 _ _ 3 #[.int .i64 (pbN x : Nat), .int .i64 (pbN x : Nat)] rfl) rfl (by omega) (by have := pbN_bd x; intro y hy; simp at hy; omega) (by simp; omega))
  rw [hsg2, show i + x + 1 + 1 + [pbN x, pbN x].sum = i + x + 1 + 1 + pbN x + pbN x by simp; omega] at HG2
  have HEND := Lib.hid (fun W => send_any ((val (seg bs (i + x + 1 + 1 + pbN x) (pbN x)) : Nat) : Int) x W (by omega) (by omega))
  have HPB := Lib.hid (fun W => splace_any x W)
  rw [pbN_cast] at HPB
  have hto : 0 ≤ endF ((val (seg bs (i + x + 1 + 1 + pbN x) (pbN x)) : Nat) : Int) x := by unfold endF; split <;> omega
  generalize endF ((val (seg bs (i + x + 1 + 1 + pbN x) (pbN x)) : Nat) : Int) x = to at *
  generalize val (seg bs (i + x + 1 + 1 + pbN x) (pbN x)) = l at *
  generalize val (seg bs (i + x + 1 + 1) (pbN x)) = fr at *
  generalize i + x + 1 + 1 + pbN x + pbN x = jend at *
  generalize pbN x = pb at *
  generalize val (seg bs i x) = sn at *
  generalize bitAt bs (i + x) = more at *
  have hbi := bit_is more
  clear hr hf hsg hpt hG hsg2 hl2 hl3 hto
  go_enter Try.func237, Try.ntmps237
  go_wp2_with (go_at_call 236; (with_reducible refine HG.out.mono ?_); rintro e w1 ⟨g1, rfl, hrow1, hg1, hs1⟩; (have KP := Lib.hid (HK0.out.trans hs1.2.1); have ST1 := Lib.hid hs1; have ROW1 := Lib.hid (hs1.2.1.row ROW.out (by decide)); have ROWH := Lib.hid hrow1; clear hs1 hg1 hrow1))
  have d0 := ROWH.out.drawn.read (i := 0) (x := .int .i64 sn) rfl
  have d2 := ROWH.out.drawn.read (i := 2) (x := .int .i64 1) rfl
  go_region_held3 (fun w' => w'.cell? ⟨g1, 0, none⟩ = some (.int .i64 sn) ∧ w'.cell? ⟨g1, 2, none⟩ = some (.int .i64 1)) (first | assumption | exact ⟨d0, d2⟩ | exact ⟨cell_more _ d0, cell_more _ d2⟩ | go_keep) (fail)
  have HROWM := Lib.hid (show Row (w1.alloc (.cells #[.int .i64 sn, .bool true, .int .i64 0, .int .i64 0] 311)).drew w1.heap.size 311 #[.int .i64 sn, .bool true, .int .i64 0, .int .i64 0] from (Row.made w1 _ _).drawn)
  have HROWR := Lib.hid (show Row (w1.alloc (.cells #[.int .i64 sn, .bool true, .int .i64 0, .int .i64 0] 311)).drew w.heap.size 311 #[.int .i64 0, .bool false, .int .i64 0, .int .i64 0] from (ROW1.out.more _).drawn)
  have HROWH := Lib.hid (show Row (w1.alloc (.cells #[.int .i64 sn, .bool true, .int .i64 0, .int .i64 0] 311)).drew g1 3 (intsR [sn, more.toNat, 1]).toArray from (ROWH.out.more _).drawn)
  have HRR := Lib.hid (show StR B (w.alloc (.cells #[.int .i64 0, .bool false, .int .i64 0, .int .i64 0] 311)) p gb bs (i + x + 1 + 1) (w1.alloc (.cells #[.int .i64 sn, .bool true, .int .i64 0, .int .i64 0] 311)).drew from ST1.out.more (bl_drew (bl_alloc (Below.refl _ _) _)))
  have hne : w.heap.size < w1.heap.size := ROW1.out.inside
  have hqA := ST1.out.2.1.2.1
  rw [HSZ.out] at hqA
  clear d0 d2
  generalize w1.heap.size = q at *
  generalize (w1.alloc (.cells #[.int .i64 sn, .bool true, .int .i64 0, .int .i64 0] 311)).drew = W2 at *
  have e1 := HROWM.out.read (i := 1) (x := .bool true) rfl
  have HC2 := Lib.hid (HG2.out W2 (StR.start HRR.out.1 hp))
  go_wp2_with (first
    | (go_at_call 268; (with_reducible refine (HPB.out _).mono ?_); rintro e vx ⟨rfl, rfl⟩)
    | (go_at_call 236; (with_reducible refine HC2.out.mono ?_); rintro e w5 ⟨g5, rfl, hrow5, hg5, hs5⟩; (have HK5 := Lib.hid hs5.2.1; have HRR5 := Lib.hid (HRR.out.next hs5); have ROW5 := Lib.hid hrow5; clear hrow5 hg5 hs5)))
  have HM5 := Lib.hid (HK5.out.row HROWM.out (by decide))
  have HR5 := Lib.hid (HK5.out.row HROWR.out (by decide))
  have HH5 := Lib.hid (HK5.out.row HROWH.out (by decide))
  clear e1
  obtain ⟨⟨m0, m1, m2, m3⟩, g0, g1', g2, g3⟩ := cells4 HM5.out
  have p0 := ROW5.out.read (i := 0) (x := .int .i64 fr) rfl
  have p1 := ROW5.out.read (i := 1) (x := .int .i64 l) rfl
  go_region_with (go_at_call 269; (with_reducible refine (HEND.out _).mono ?_); rintro e vx ⟨rfl, rfl⟩)
  all_goals
    have HM6 := Lib.hid (show Row ((w5.setCell ⟨q, 2, none⟩ (.int .i64 fr)).setCell ⟨q, 3, none⟩ (.int .i64 to)).drew q 311 #[.int .i64 sn, .bool true, .int .i64 fr, .int .i64 to] from ((HM5.out.written 2 _).written 3 _).drawn)
    have HR6 := Lib.hid (show Row ((w5.setCell ⟨q, 2, none⟩ (.int .i64 fr)).setCell ⟨q, 3, none⟩ (.int .i64 to)).drew w.heap.size 311 #[.int .i64 0, .bool false, .int .i64 0, .int .i64 0] from ((HR5.out.elsewhere (p := ⟨q, 2, none⟩) (Nat.ne_of_lt hne) _).elsewhere (p := ⟨q, 3, none⟩) (Nat.ne_of_lt hne) _).drawn)
    have hgq : g1 ≠ q := HH5.out.apart HM5.out (by decide)
    have HH6 := Lib.hid (show Row ((w5.setCell ⟨q, 2, none⟩ (.int .i64 fr)).setCell ⟨q, 3, none⟩ (.int .i64 to)).drew g1 3 (intsR [sn, more.toNat, 1]).toArray from ((HH5.out.elsewhere (p := ⟨q, 2, none⟩) hgq _).elsewhere (p := ⟨q, 3, none⟩) hgq _).drawn)
    have HS6 := Lib.hid (show StR B (w.alloc (.cells #[.int .i64 0, .bool false, .int .i64 0, .int .i64 0] 311)) p gb bs jend ((w5.setCell ⟨q, 2, none⟩ (.int .i64 fr)).setCell ⟨q, 3, none⟩ (.int .i64 to)).drew from ((HRR5.out.set (a := ⟨q, 2, none⟩) (by rw [HSZ.out]; exact hqA) HM5.out (by decide) (by decide) _).set (a := ⟨q, 3, none⟩) (by rw [HSZ.out]; exact hqA) (HM5.out.written 2 _) (by decide) (by decide) _).more (bl_drew (Below.refl _ _)))
    clear m0 m1 m2 m3 g0 g1' g2 g3 p0 p1
    generalize ((w5.setCell ⟨q, 2, none⟩ (.int .i64 fr)).setCell ⟨q, 3, none⟩ (.int .i64 to)).drew = W6 at *
    obtain ⟨⟨m0, m1, m2, m3⟩, -⟩ := cells4 HM6.out
    obtain ⟨⟨z0, z1, z2, z3⟩, f0, f1, f2, f3⟩ := cells4 HR6.out
    have h1 := HH6.out.read (i := 1) (x := .int .i64 more.toNat) rfl
    have HROWE := Lib.hid (show Row (set4 W6 w.heap.size (.int .i64 sn) (.bool true) (.int .i64 fr) (.int .i64 to)) w.heap.size 311 #[.int .i64 sn, .bool true, .int .i64 fr, .int .i64 to] from row_set4 HR6.out)
    have hx1 := cell_set4 (a := .int .i64 sn) (b := .bool true) (c := .int .i64 fr) (d := .int .i64 to) HR6.out HH6.out (by decide) (j := 1) (x := .int .i64 more.toNat) rfl
    unfold set4 at hx1
    have KE := Lib.hid ((HK0.out.trans HS6.out.2.1).set4 HBL.out (Nat.le_refl _) (.int .i64 sn) (.bool true) (.int .i64 fr) (.int .i64 to))
    have RE := Lib.hid (rrep_set4 HS6.out.1 HR6.out (by decide) (by decide) (.int .i64 sn) (.bool true) (.int .i64 fr) (.int .i64 to))
    have HBL2 := Lib.hid HBL.out
    clear hne hqA hgq
    go_wp2_with fail
    go_region
    go_wp2
    obtain ⟨dd, hdd⟩ := undermiss_parts
    refine bodyPost_ret (st_results_three rfl _ _ w.heap.size 311 #[.int .i64 sn, .bool true, .int .i64 fr, .int .i64 to] dd rfl HROWE.out.drawn hdd Try.infomiss) rfl ?_
    exact ⟨rfl, RE.out.later (bl_drew (Below.refl _ _)), KE.out.then_below HBL2.out (bl_drew (Below.refl _ _))⟩
end Go.Proofs.Ytbcjfdhphpckfaa
