/-
  The numbers of a queue's texts; where one stands. An append whose run is known, at a drawn region. A text that is let go; what a queue's calls may change. A text pushed into a queue.
-/
import Derived.Test.YtbcjfdhphpckfaaJPlainLives01
import Derived.ScopeJumps
import Derived.Deep.RegionLaw
import Derived.IntWalk
import Derived.Laws.OwnMore
import Derived.Laws.CopyRow
import Derived.Laws.EntriesVeiled
import Derived.Deep.Onto
import Derived.Deep.RegionHeld3
namespace Go.Proofs.Ytbcjfdhphpckfaa
open Go.RowKit

theorem Try.info37 : (Try.prog.info? 37).map (fun i => (i.zero, i.size, i.bytes)) = some (some (.int .u64 0), 1, 8) := by kernel_rfl
theorem info37_parts : ∃ i, Try.prog.info? 37 = some i ∧ i.zero = some (.int .u64 0) ∧ i.size = 1 ∧ i.bytes = 8 := info_parts Try.info37

def idv (ts : List Txt) : List Value := ts.map fun t => .int .u64 t.id
theorem length_idv (ts : List Txt) : (idv ts).length = ts.length := by simp [idv]
def zero64 (n : Nat) : List Value := List.replicate n (.int .u64 0)
theorem make_ids (n : Nat) (h : n ≤ 1000000) (w : World) :
    (Instr.makeSlice 44 (.int .i64 (n : Int)) (.int .i64 (n : Int))).run Try.prog w = .ok (.slice (some ⟨w.heap.size, 0, none⟩) n n) (w.alloc (.cells (zero64 n).toArray 37)) := by
  obtain ⟨i, hi, hz, hs, hb⟩ := info37_parts
  have h := run_make (P := Try.prog) w 44 37 i _ Try.underlying44 hi hz .i64 .i64 n n (by omega) (Int.le_refl _) (by rw [hb]; omega) (by omega)
  rw [h, hs, Nat.mul_one, Int.toNat_natCast]
  have e : madeCells #[.int .u64 0] n = (zero64 n).toArray := by
    apply Array.toList_inj.1
    rw [toList_madeCells_one]
    simp [zero64]
  rw [← e]
  rfl
/-- the numbers so far, noughts behind -/
def idPart (ts : List Txt) (k : Nat) : List Value := idv (ts.take k) ++ zero64 (ts.length - k)
theorem idPart_step {ts : List Txt} {k : Nat} {t : Txt} (h : ts[k]? = some t) : (idPart ts k).set k (.int .u64 t.id) = idPart ts (k + 1) := by
  have hk : k < ts.length := (List.getElem?_eq_some_iff.1 h).1
  unfold idPart
  rw [q_take_snoc h]
  have e1 : (idv (ts.take k)).length = k := by rw [length_idv]; simp; omega
  have e2 : ts.length - k = (ts.length - (k + 1)) + 1 := by omega
  rw [e2]
  unfold zero64
  rw [List.replicate_succ, List.set_append_right _ _ (by omega), e1, Nat.sub_self, List.set_cons_zero]
  simp [idv]
theorem idPart_end (ts : List Txt) : idPart ts ts.length = idv ts := by simp [idPart, zero64]

/-- numbers handed out -/
def IdsDone (ts : List Txt) (w : World) (e : Ending) (w' : World) : Prop := ∃ g, e = .returned (.slice (some ⟨g, 0, none⟩) ts.length ts.length) ∧ w.heap.size ≤ g ∧ Row w' g 37 (idv ts).toArray ∧ Below w.heap.size w w'

set_option maxRecDepth 100000 in
set_option maxHeartbeats 1600000 in
theorem ids_any {B p last : Nat} {room : Int} {ts : List Txt} {w : World} (h : QRep B w p room last ts) (hr : 0 < room) (hl : ts.length ≤ 100000) :
    Calls Try.prog 28 #[.pointer (some ⟨p, 0, none⟩)] w (IdsDone ts w) := by
  obtain ⟨hB, hB2, sv, hrow, hown, _⟩ := h
  have c2 : w.cell? ⟨p, 2, none⟩ = some sv := hrow.read rfl
  have hrow2 := hrow.more (.cells (zero64 ts.length).toArray 37)
  have c3 : (w.alloc (.cells (zero64 ts.length).toArray 37)).cell? ⟨p, 2, none⟩ = some sv := hrow2.read rfl
  have HROW := Lib.hid hrow
  have HOWN := Lib.hid hown
  have hmk := make_ids ts.length (by omega) w
  have hr0 := Row.made w 37 (zero64 ts.length).toArray
  have HR0 := Lib.hid (show Row (w.alloc (.cells (zero64 ts.length).toArray 37)) w.heap.size 37 (idPart ts 0).toArray from by simpa [idPart, idv] using hr0)
  have HB0 := Lib.hid (bl_alloc (Below.refl w.heap.size w) (.cells (zero64 ts.length).toArray 37))
  obtain ⟨A, cap, rfl, hcap, hmx⟩ := hown.shape
  unfold maxLen at hmx
  clear hrow hown hrow2 hr0
  go_enter Try.func28, Try.ntmps28
  go_wp2_with (go_at_call 109; refine (none_not HROW.out hr).mono ?_; rintro e _ ⟨rfl, rfl⟩)
  go_loopw [19] (fun i wr => ∃ k : Nat, k ≤ ts.length ∧ i = .int .i64 k ∧ Row wr w.heap.size 37 (idPart ts k).toArray ∧ Below w.heap.size w wr) (fun i _ => ts.length - (intOf i).toNat)
  case atStart => exact ⟨0, by omega, rfl, HR0.out, HB0.out⟩
  case round =>
    obtain ⟨k, hk, rfl, hrw, hbr⟩ := hrel
    have HBR := Lib.hid hbr
    by_cases hlt : k < ts.length
    · obtain ⟨t, ht⟩ : ∃ t, ts[k]? = some t := ⟨_, List.getElem?_eq_getElem hlt⟩
      obtain ⟨g, cap', hv, hc1, hc2⟩ := HOWN.out.form (by omega)
      injection hv with hA _ hcc
      subst hA
      subst hcc
      have hcell := HOWN.out.cells (g := g) rfl
      obtain ⟨a0, a1, a2⟩ := txc_at ht
      have d0 := kept_box HBR.out (hcell _ _ a0)
      have d1 := kept_box HBR.out (hcell _ _ a1)
      have d2 := kept_box HBR.out (hcell _ _ a2)
      unfold Txt.waits at d1
      have hrw2 := hrw.more (.cells #[.int .u64 t.id, .slice (some ⟨t.g, t.off, none⟩) t.bs.length t.cap, .bool t.bg] 177)
      have e1 : (idPart ts k).length = ts.length := by unfold idPart; rw [List.length_append, length_idv]; simp [zero64]; omega
      have hsome : ∃ x, (idPart ts k).toArray[k]? = some x := ⟨_, Array.getElem?_eq_getElem (by simp; omega)⟩
      obtain ⟨x, hx⟩ := hsome
      have cz := hrw2.read hx
      have fz := hrw2.free k
      have hst := hrw2.written k (.int .u64 t.id)
      have HST := Lib.hid (show Row ((wr.alloc (.cells #[.int .u64 t.id, .slice (some ⟨t.g, t.off, none⟩) t.bs.length t.cap, .bool t.bg] 177)).setCell ⟨w.heap.size, k, none⟩ (.int .u64 t.id)) w.heap.size 37 (idPart ts (k + 1)).toArray from by
        rw [← idPart_step ht]; simpa using hst)
      have HBN := Lib.hid (((Only.of_below (S := fun k => k = w.heap.size) HBR.out).alloc (.cells #[.int .u64 t.id, .slice (some ⟨t.g, t.off, none⟩) t.bs.length t.cap, .bool t.bg] 177)).set (p := ⟨w.heap.size, k, none⟩) (.inl rfl) (.int .u64 t.id) |>.below (Nat.le_refl _) (fun k hk hh => by omega))
      clear hcell a0 a1 a2 ht hc1 hc2 hrw hrw2 hst hx hbr e1
      have hi0 : (0 : Int) ≤ (k : Int) := by omega
      have hi1 : (k : Int) < (ts.length : Int) := by omega
      go_wp2
      go_roundw
      case rel => exact ⟨k + 1, by omega, by go_num, HST.out, HBN.out⟩
      case measure => simp [intOf]; omega
    · obtain rfl : k = ts.length := by omega
      rw [idPart_end] at hrw
      have HF : Hid (IdsDone ts w (.returned (.slice (some ⟨w.heap.size, 0, none⟩) ts.length ts.length)) wr) := Lib.hid ⟨_, rfl, Nat.le_refl _, hrw, HBR.out⟩
      clear hrw hbr
      go_wp2
      go_ret
      exact HF.out

/-- where the text of a number stands -/
def placeF (id : Nat) (ts : List Txt) : Nat := ts.findIdx fun t => t.id == id
theorem placeF_le (id : Nat) (ts : List Txt) : placeF id ts ≤ ts.length := List.findIdx_le_length
theorem place_before {id k : Nat} {ts : List Txt} {t : Txt} (h : ts[k]? = some t) (hk : k < placeF id ts) : t.id ≠ id := by
  have hlt : k < ts.length := (List.getElem?_eq_some_iff.1 h).1
  have := List.not_of_lt_findIdx (p := fun t : Txt => t.id == id) hk
  have e : ts[k] = t := (List.getElem?_eq_some_iff.1 h).2
  rw [e] at this
  simpa using this
theorem place_at {id : Nat} {ts : List Txt} {t : Txt} (h : ts[placeF id ts]? = some t) : t.id = id := by
  have hlt : placeF id ts < ts.length := (List.getElem?_eq_some_iff.1 h).1
  have := List.findIdx_getElem (p := fun t : Txt => t.id == id) (w := hlt)
  have e : ts[placeF id ts] = t := (List.getElem?_eq_some_iff.1 h).2
  unfold placeF at e
  rw [e] at this
  simpa using this

set_option maxRecDepth 100000 in
set_option maxHeartbeats 1600000 in
theorem place_any {B p last id : Nat} {room : Int} {ts : List Txt} {w : World} (h : QRep B w p room last ts) :
    Calls Try.prog 113 #[.pointer (some ⟨p, 0, none⟩), .int .u64 id] w fun e w' => e = .returned (.int .i64 (placeF id ts : Nat)) ∧ w = w' := by
  obtain ⟨hB, hB2, sv, hrow, hown, _⟩ := h
  have c2 : w.cell? ⟨p, 2, none⟩ = some sv := hrow.read rfl
  have HOWN := Lib.hid hown
  obtain ⟨A, cap, rfl, hcap, hmx⟩ := hown.shape
  unfold maxLen at hmx
  have hple := placeF_le id ts
  clear hrow hown
  have step : ∀ k, k ≤ placeF id ts → (k = placeF id ts ∧ (k = ts.length ∨ ∃ t g, ts[k]? = some t ∧ t.id = id ∧ A = some ⟨g, 0, none⟩ ∧ w.cell? ⟨g, k * 3, none⟩ = some (.int .u64 t.id))) ∨
      (k < placeF id ts ∧ ∃ t g, ts[k]? = some t ∧ t.id ≠ id ∧ A = some ⟨g, 0, none⟩ ∧ w.cell? ⟨g, k * 3, none⟩ = some (.int .u64 t.id)) := by
    intro k hk
    rcases Nat.lt_or_ge k ts.length with hlt | hge
    · obtain ⟨t, ht⟩ : ∃ t, ts[k]? = some t := ⟨_, List.getElem?_eq_getElem hlt⟩
      obtain ⟨g, cap', hv, hc1, hc2⟩ := HOWN.out.form (by omega)
      injection hv with hA _ hcc
      have hcell := HOWN.out.cells (g := g) (by rw [hA]; rfl)
      obtain ⟨a0, _, _⟩ := txc_at ht
      have d0 := hcell _ _ a0
      rcases Nat.lt_or_ge k (placeF id ts) with h1 | h1
      · exact .inr ⟨h1, t, g, ht, place_before ht h1, hA, d0⟩
      · obtain rfl : k = placeF id ts := by omega
        exact .inl ⟨rfl, .inr ⟨t, g, ht, place_at ht, hA, d0⟩⟩
    · exact .inl ⟨by omega, .inl (by omega)⟩
  have HSTEP := Lib.hid step
  clear step
  generalize placeF id ts = P at *
  go_enter Try.func113, Try.ntmps113
  go_wp2
  refine wp_scope_jumps 0 (fun a' w' => ∃ k : Nat, k ≤ P ∧ Fr [some (.pointer (some ⟨p, 0, none⟩)), some (.int .u64 id), none, none, none, some (.int .i64 k), none, none, none, none, none, none, none, none, none, none, none, none, none, none, none, none, none, none, none, none, none, none] a' ∧ w' = w) (fun a' _ => P - (intOf (a'.tmps.getD 5 undef)).toNat) rfl ?_ ?_
  · rcases HSTEP.out 0 (by omega) with ⟨h1, h2 | ⟨t, g, ht, hid, rfl, d0⟩⟩ | ⟨h1, t, g, ht, hid, rfl, d0⟩
    · have h1a : P ≤ 0 := by omega
      have h2a : ts.length ≤ 0 := by omega
      clear h1 h2
      go_wp2
      go_step3
      go_wp2
      simp only [Exit.jump]
      go_ret
      exact ⟨ret_int (by omega), rfl⟩
    · have hlt : 0 < ts.length := (List.getElem?_eq_some_iff.1 ht).1
      have hne : ((t.id : Int) != (id : Int)) = false := by simp; omega
      simp only [Nat.zero_mul] at d0
      have h1a : P ≤ 0 := by omega
      clear ht hid h1
      go_wp2
      go_step3
      go_wp2
      simp only [Exit.jump]
      go_ret
      exact ⟨ret_int (by omega), rfl⟩
    · have hlt : 0 < ts.length := (List.getElem?_eq_some_iff.1 ht).1
      have hne : ((t.id : Int) != (id : Int)) = true := by simp; omega
      simp only [Nat.zero_mul] at d0
      clear ht hid
      go_wp2
      go_step3
      go_wp2
      go_step3
      refine ⟨rfl, 1, by omega, ?_, rfl⟩
      simp only [Fr, Holes]
      repeat apply Exists.intro
      rfl
  · rintro a' w' ⟨k, hk, hfr, rfl⟩
    simp only [Fr, Holes] at hfr
    repeat (obtain ⟨_, hfr⟩ := hfr)
    rcases HSTEP.out k hk with ⟨h1, h2 | ⟨t, g, ht, hid, rfl, d0⟩⟩ | ⟨h1, t, g, ht, hid, rfl, d0⟩
    · have h1a : P ≤ k := by omega
      have h2a : ts.length ≤ k := by omega
      clear h1 h2
      go_wp2
      simp only [Exit.jump]
      go_ret
      exact ⟨ret_int (by omega), rfl⟩
    · have hlt : k < ts.length := (List.getElem?_eq_some_iff.1 ht).1
      have hne : ((t.id : Int) != (id : Int)) = false := by simp; omega
      have hi0 : (0 : Int) ≤ (k : Int) := by omega
      have hi1 : (k : Int) < (ts.length : Int) := by omega
      have h1a : P ≤ k := by omega
      clear ht hid h1
      go_wp2
      simp only [Exit.jump]
      go_ret
      exact ⟨ret_int (by omega), rfl⟩
    · have hlt : k < ts.length := (List.getElem?_eq_some_iff.1 ht).1
      have hne : ((t.id : Int) != (id : Int)) = true := by simp; omega
      have hi0 : (0 : Int) ≤ (k : Int) := by omega
      have hi1 : (k : Int) < (ts.length : Int) := by omega
      clear ht hid
      go_wp2
      go_step3
      refine ⟨rfl, ⟨k + 1, by omega, ?_, rfl⟩, ?_⟩
      · simp only [Fr, Holes]
        repeat apply Exists.intro
        rfl
      · simp [intOf]; omega
end Go.Proofs.Ytbcjfdhphpckfaa
namespace Go.Proofs.Ytbcjfdhphpckfaa
open Go.RowKit

theorem step_run {P : Program} {ops : Array Oper} {o : Oper} {a : Act} {w : World} {K : Act → World → Prop} {Q : Exit → Act → World → Prop} {E : Prop} (hgd : o.guard = none) (s x : Operand) (t : TypeId)
    (ho : o.op = .call { callee := .builtin .append, args := #[s, x], argTypes := #[t, t] }) (v u : Value) (hs : a.eval s = v) (hx : a.eval x = u) {v' : Value} {w' : World}
    (hr : (Builtin.append_ #[t, t] o.type #[v, u]).run P w = .ok v' w') (h : K (a.put o.dst v') w') :
    if Region.wanted o (yielded ops a.tmps) = true then Oper.wp P o a w K Q else E := by
  have hw : Region.wanted o (yielded ops a.tmps) = true := by simp [Region.wanted, hgd]
  rw [if_pos hw]
  unfold Oper.wp execOp
  simp only [ho, resolve, invoke, builtin, Sem.run_bind, Sem.run_pure, Result.andThen_ok, List.map_toArray, List.map_cons, List.map_nil, hs, hx, hr]
  exact h
end Go.Proofs.Ytbcjfdhphpckfaa
namespace Go.Proofs.Ytbcjfdhphpckfaa
open Go.RowKit

/-- a queue's own blocks: itself, and lists of texts -/
def QT (B : Nat) (w : World) (k : Nat) : Prop := B ≤ k ∧ ∃ t cs, Row w k t cs ∧ (t = 51 ∨ t = 177)
def QOnly (B : Nat) (w w' : World) : Prop := Only (QT B w) w w'
theorem QT.back {B : Nat} {w w' : World} {S : Nat → Prop} (h : Only S w w') {k : Nat} (hk : k < w.heap.size) (hq : QT B w' k) (hn : ¬ S k) : QT B w k := by
  obtain ⟨h1, t, cs, h2, h3⟩ := hq
  exact ⟨h1, t, cs, by unfold Row at h2 ⊢; rw [← h.same k hk hn]; exact h2, h3⟩
theorem QOnly.trans {B : Nat} {w v u : World} (h : QOnly B w v) (h' : QOnly B v u) : QOnly B w u :=
  h.andThen h' fun k hk hq => by
    rcases Classical.em (QT B w k) with h1 | h1
    · exact h1
    · exact hq.back h hk h1
theorem QOnly.of_below {B : Nat} {w v : World} (h : Below w.heap.size w v) : QOnly B w v := Only.of_below h
theorem QOnly.refl (B : Nat) (w : World) : QOnly B w w := Only.refl _ _
theorem QOnly.below {B : Nat} {w v : World} (h : QOnly B w v) (hB : B ≤ w.heap.size) : Below B w v := Only.below h hB fun k hk hq => by have := hq.1; omega
theorem QOnly.row {B : Nat} {w v : World} (h : QOnly B w v) {g : Nat} {t : TypeId} {cs : Array Value} (hr : Row w g t cs) (h1 : t ≠ 51) (h2 : t ≠ 177) : Row v g t cs :=
  hr.only h fun ⟨_, t', cs', hr', ht⟩ => by
    unfold Row at hr hr'
    rw [hr] at hr'
    injection hr' with hr'
    injection hr' with _ hr'
    subst hr'
    rcases ht with ht | ht
    · exact h1 ht
    · exact h2 ht
theorem QT.self {B p : Nat} {w : World} {cs : Array Value} (hp : B ≤ p) (h : Row w p 51 cs) : QT B w p := ⟨hp, _, _, h, .inl rfl⟩
theorem QT.list {B : Nat} {w : World} {v : Value} {n : Nat} {xs : List Value} (h : OwnX w B 177 3 v n xs) : ∀ k, v.ownBlock = some k → QT B w k := by
  intro k hk
  rcases h.2 with ⟨rfl, _⟩ | ⟨g, cap, cur, rfl, hb, hh, _⟩
  · simp [Value.ownBlock] at hk
  · have e : g = k := by simpa [Value.ownBlock] using hk
    subst e
    exact ⟨hb, _, _, hh, .inr rfl⟩
theorem OwnX.apart {w : World} {B e size : Nat} {v : Value} {n : Nat} {xs : List Value} (h : OwnX w B e size v n xs) {g : Nat} {t : TypeId} {cs : Array Value} (hr : Row w g t cs) (hne : e ≠ t) : v.ownBlock ≠ some g := by
  rcases h.2 with ⟨rfl, _⟩ | ⟨g', cap, cur, rfl, _, hh, _⟩
  · simp [Value.ownBlock]
  · intro he
    have e1 : g' = g := by simpa [Value.ownBlock] using he
    subst e1
    unfold Row at hr
    rw [hh] at hr
    injection hr with hr
    injection hr with _ hr
    exact hne hr
theorem Txt.lies.q {B : Nat} {w v : World} {t : Txt} (h : t.lies B w) (ho : QOnly B w v) : t.lies B v := by
  obtain ⟨h1, h2, h3, cs, h4, h5⟩ := h
  exact ⟨h1, h2, h3, cs, ho.row h4 (by decide) (by decide), h5⟩

theorem erase_txc (ts : List Txt) (k : Nat) : txc (ts.eraseIdx k) = txc (ts.take k) ++ txc (ts.drop (k + 1)) := by
  rw [List.eraseIdx_eq_take_drop_succ, txc_append]

set_option maxRecDepth 100000 in
/-- the list without one text, laid into new memory -/
theorem drop_append {B p last k g cap : Nat} {room : Int} {ts : List Txt} {w : World} (hp : B ≤ p) (hB : B ≤ w.heap.size) (hrow : Row w p 51 #[.int .i64 room, .int .u64 last, .slice (some ⟨g, 0, none⟩) ts.length cap])
    (hown : OwnX w B 177 3 (.slice (some ⟨g, 0, none⟩) ts.length cap) ts.length (txc ts)) (hl : ∀ t ∈ ts, t.lies B w) (hk : k < ts.length) (hn : ts.length ≤ 1000) (ad : Addr) (had : cap ≠ k + 1 → ad = ⟨g, (k + 1) * 3, none⟩) :
    ∃ A' n' cap' w', (Builtin.append_ #[49, 49] 49 #[.slice (some ⟨g, 0, none⟩) k k, .slice (some ad) (ts.length - (k + 1)) (cap - (k + 1))]).run Try.prog w = .ok (.slice A' n' cap') w' ∧
      Row w' p 51 #[.int .i64 room, .int .u64 last, .slice (some ⟨g, 0, none⟩) ts.length cap] ∧
      QRep B (w'.setCell ⟨p, 2, none⟩ (.slice A' n' cap')) p room last (ts.eraseIdx k) ∧ QOnly B w (w'.setCell ⟨p, 2, none⟩ (.slice A' n' cap')) := by
  obtain ⟨i0, hi, hi0, hi1, hi2⟩ := info177_parts
  obtain ⟨g1, cap1, hv, hc1, hc2⟩ := hown.form (by omega)
  injection hv with hA _ hcc
  subst hcc
  have hfront := hown.front (m := k) (by omega) _ _ rfl (by omega)
  rw [txc_take] at hfront
  have hlen : (txc (ts.drop (k + 1))).length = (ts.length - (k + 1)) * 3 := by rw [length_txc, List.length_drop]
  obtain ⟨v', w', hr, h2, h3, h4⟩ := run_append_x (P := Try.prog) (w := w) (ty := 49) Try.underlying49 hi hi0 hi1 hi2 rfl hfront ad (ts.length - (k + 1)) (cap - (k + 1)) (txc (ts.drop (k + 1))) hlen
    (fun j u hu => by
      have hj : j < (txc (ts.drop (k + 1))).length := (List.getElem?_eq_some_iff.1 hu).1
      have hne : cap ≠ k + 1 := by omega
      rw [had hne]
      have e : (⟨g, (k + 1) * 3, none⟩ : Addr).add j = ⟨g, (k + 1) * 3 + j, none⟩ := by
        unfold Addr.add
        split
        · rename_i h; rw [h]; rfl
        · rfl
      rw [e]
      refine hown.cells (g := g) rfl _ _ ?_
      rw [← hu, ← txc_drop, List.getElem?_drop]) (txc_one _) (by omega) (by omega) hB
  obtain ⟨A', cap', rfl, _, _⟩ := h2.shape
  have happ : (Value.slice (some ⟨g, 0, none⟩) k k).ownBlock ≠ some p := hfront.apart hrow (by decide)
  have hrow' : Row w' p 51 #[.int .i64 room, .int .u64 last, .slice (some ⟨g, 0, none⟩) ts.length cap] := (h3.block p hrow.inside (fun e => happ e.symm)).trans hrow
  have hq1 : QOnly B w w' := (Only.refl _ _).grown h3 (fun j hj => .inl (QT.list hfront j hj))
  have hq2 : QOnly B w' (w'.setCell ⟨p, 2, none⟩ (.slice A' (k + (ts.length - (k + 1))) cap')) := (Only.refl _ _).set (p := ⟨p, 2, none⟩) (.inl (QT.self hp hrow')) _
  refine ⟨_, _, _, w', hr, hrow', ⟨hp, ?_, _, hrow'.written 2 _, ?_, fun t ht => ?_⟩, hq1.trans hq2⟩
  · have := hq1.size; have := hq2.size; omega
  · have e1 : (ts.eraseIdx k).length = k + (ts.length - (k + 1)) := by rw [List.length_eraseIdx, if_pos hk]; omega
    rw [e1, erase_txc]
    exact h2.only (S := fun j => j = p) ((Only.refl (fun j => j = p) _).set (p := ⟨p, 2, none⟩) (.inl rfl) _) (fun j hj e => by subst e; exact h2.apart hrow' (by decide) hj)
  · exact ((hl t (List.mem_of_mem_eraseIdx ht)).q hq1).q hq2

set_option maxRecDepth 100000 in
set_option maxHeartbeats 1600000 in
theorem remove_any {B p last k : Nat} {room : Int} {ts : List Txt} {w : World} (h : QRep B w p room last ts) (hk : k < ts.length) (hn : ts.length ≤ 1000) :
    Calls Try.prog 111 #[.pointer (some ⟨p, 0, none⟩), .int .i64 k] w fun e w' => e = .returned (.tuple #[]) ∧ QRep B w' p room last (ts.eraseIdx k) ∧ QOnly B w w' := by
  obtain ⟨hB, hB2, sv, hrow, hown, hl⟩ := h
  obtain ⟨g, cap, rfl, hc1, hc2⟩ := hown.form (by omega)
  unfold maxLen at hc2
  have c2 : w.cell? ⟨p, 2, none⟩ = some (.slice (some ⟨g, 0, none⟩) ts.length cap) := hrow.read rfl
  have f2 := hrow.free 2
  by_cases hce : cap = k + 1
  · obtain ⟨A', n', cap', w', hr, hr', hq, ho⟩ := drop_append (w := w.drew) hB hB2 hrow hown hl hk hn ⟨g, 0, none⟩ (fun h => absurd hce h)
    subst hce
    have hz : ts.length - (k + 1) = 0 := by omega
    rw [Nat.sub_self, hz] at hr
    have HZ := Lib.hid hz
    clear hz
    have HR := Lib.hid hr
    have HQ := Lib.hid hq
    have HO := Lib.hid ho
    have d2 : w'.cell? ⟨p, 2, none⟩ = some (.slice (some ⟨g, 0, none⟩) ts.length (k + 1)) := hr'.read rfl
    have e2 := hr'.free 2
    have hi0 : (0 : Int) ≤ (k : Int) := by omega
    have hi1 : (k : Int) < (ts.length : Int) := by omega
    have hkc : k ≤ k + 1 := by omega
    have hkl : k + 1 ≤ ts.length := by omega
    have hw0 : (0 : Int) ≤ (k : Int) + 1 := by omega
    have hx0 : (k : Int) ≤ (k : Int) + 1 := by omega
    have hx1 : (k : Int) + 1 ≤ (ts.length : Int) := by omega
    have hw1 : ((k : Int) + 1).toNat = k + 1 := by omega
    have hw : IntKind.i64.wrap ((k : Int) + 1) = (k : Int) + 1 := IntWalk.i64_in _ (by omega)
    clear hr hq ho hr' hrow hown hl
    go_enter Try.func111, Try.ntmps111
    go_region_law (refine step_run rfl (.tmp 11) (.tmp 18) 49 rfl (.slice (some ⟨g, 0, none⟩) k k) (.slice (some ⟨g, 0, none⟩) 0 0) (by rfl) (by rfl) HR.out ?_)
    all_goals
      go_end0
      exact ⟨rfl, HQ.out, (show QOnly B w w.drew from Only.drew (Only.refl _ _) ).trans HO.out⟩
  · obtain ⟨A', n', cap', w', hr, hr', hq, ho⟩ := drop_append (w := w.drew) hB hB2 hrow hown hl hk hn ⟨g, (k + 1) * 3, none⟩ (fun _ => rfl)
    have HR := Lib.hid hr
    have HQ := Lib.hid hq
    have HO := Lib.hid ho
    have d2 : w'.cell? ⟨p, 2, none⟩ = some (.slice (some ⟨g, 0, none⟩) ts.length cap) := hr'.read rfl
    have e2 := hr'.free 2
    have hi0 : (0 : Int) ≤ (k : Int) := by omega
    have hi1 : (k : Int) < (ts.length : Int) := by omega
    have hkc : k ≤ cap := by omega
    have hkl : k + 1 ≤ ts.length := by omega
    have hkl2 : k + 1 ≤ cap := by omega
    have hw0 : (0 : Int) ≤ (k : Int) + 1 := by omega
    have hx0 : (k : Int) ≤ (k : Int) + 1 := by omega
    have hx1 : (k : Int) + 1 ≤ (ts.length : Int) := by omega
    have hw1 : ((k : Int) + 1).toNat = k + 1 := by omega
    have hw : IntKind.i64.wrap ((k : Int) + 1) = (k : Int) + 1 := IntWalk.i64_in _ (by omega)
    clear hr hq ho hr' hrow hown hl
    go_enter Try.func111, Try.ntmps111
    go_region_law (refine step_run rfl (.tmp 11) (.tmp 18) 49 rfl (.slice (some ⟨g, 0, none⟩) k k) (.slice (some ⟨g, (k + 1) * 3, none⟩) (ts.length - (k + 1)) (cap - (k + 1))) (by rfl) (by rfl) HR.out ?_)
    all_goals
      go_end0
      exact ⟨rfl, HQ.out, (show QOnly B w w.drew from Only.drew (Only.refl _ _) ).trans HO.out⟩
end Go.Proofs.Ytbcjfdhphpckfaa
namespace Go.Proofs.Ytbcjfdhphpckfaa
open Go.RowKit

theorem new_three (W : World) (u v x : Value) (t : TypeId) : ∀ j y, [u, v, x][j]? = some y → (W.alloc (.cells #[u, v, x] t)).cell? ((⟨W.heap.size, 0, none⟩ : Addr).add j) = some y :=
  World.news_of_block (cs := #[u, v, x]) (heap_alloc_new W _)

theorem push_tail {B p last : Nat} {room : Int} {ts : List Txt} {l : List Nat} {wY w2 : World} {A : Option Addr} {cap g2 : Nat} (hp : B ≤ p) (hB : B ≤ wY.heap.size) (hrow : Row wY p 51 #[.int .i64 room, .int .u64 ((last : Int) + 1), .slice A ts.length cap])
    (hown : OwnX wY B 177 3 (.slice A ts.length cap) ts.length (txc ts)) (hl : ∀ t ∈ ts, t.lies B wY) (hn : ts.length ≤ 1000) (hf : Fresh wY.drew l g2 w2) (hll : l.length ≤ 1000) :
    ∃ A' n' cap' w3, (Builtin.append_ #[49, 49] 49 #[.slice A ts.length cap, .slice (some ⟨w2.heap.size, 0, none⟩) 1 1]).run Try.prog (w2.alloc (.cells #[.int .u64 ((last : Int) + 1), .slice (some ⟨g2, 0, none⟩) l.length l.length, .bool false] 177)) = .ok (.slice A' n' cap') w3 ∧
      Row w3 p 51 #[.int .i64 room, .int .u64 ((last : Int) + 1), .slice A ts.length cap] ∧ Row w2 p 51 #[.int .i64 room, .int .u64 ((last : Int) + 1), .slice A ts.length cap] ∧
      (∃ t, t.id = last + 1 ∧ t.bs = l ∧ t.bg = false ∧ wY.heap.size ≤ t.g ∧ QRep B (w3.setCell ⟨p, 2, none⟩ (.slice A' n' cap')) p room (last + 1) (ts ++ [t])) ∧ QOnly B wY (w3.setCell ⟨p, 2, none⟩ (.slice A' n' cap')) := by
  obtain ⟨i0, hi, hi0, hi1, hi2⟩ := info177_parts
  obtain ⟨hg2, ⟨cs, hcs, hcb⟩, hb2⟩ := hf
  have hb2' : Below wY.heap.size wY w2 := bl_step (bl_drew (Below.refl _ _)) hb2
  have hrow2 := hrow.later hb2'
  have hsz2 := hb2'.size
  let o : Obj := .cells #[.int .u64 ((last : Int) + 1), .slice (some ⟨g2, 0, none⟩) l.length l.length, .bool false] 177
  have hown3 : OwnX (w2.alloc o) B 177 3 (.slice A ts.length cap) ts.length (txc ts) := (hown.only (S := fun _ => False) (.of_below hb2') (fun _ _ h => h)).alloc o
  obtain ⟨v', w3, hr, h2, h3, h4⟩ := run_append_x (P := Try.prog) (w := w2.alloc o) (ty := 49) Try.underlying49 hi hi0 hi1 hi2 rfl hown3 ⟨w2.heap.size, 0, none⟩ 1 1 [.int .u64 ((last : Int) + 1), .slice (some ⟨g2, 0, none⟩) l.length l.length, .bool false] rfl
    (new_three w2 _ _ _ 177) (by intro u hu; simp at hu; rcases hu with rfl | rfl | rfl <;> rfl) (by omega) (by omega) (by simp; omega)
  obtain ⟨A', cap', rfl, _, _⟩ := h2.shape
  have hrow2o := hrow2.more o
  have happ := hown3.apart hrow2o (by decide)
  have hrow3 : Row w3 p 51 #[.int .i64 room, .int .u64 ((last : Int) + 1), .slice A ts.length cap] := (h3.block p hrow2o.inside (fun e => happ e.symm)).trans hrow2o
  have hq1 : QOnly B wY (w2.alloc o) := QOnly.of_below (bl_alloc hb2' o)
  have hq2 : QOnly B (w2.alloc o) w3 := (Only.refl _ _).grown h3 (fun j hj => .inl (QT.list hown3 j hj))
  have hq3 : QOnly B w3 (w3.setCell ⟨p, 2, none⟩ (.slice A' (ts.length + 1) cap')) := (Only.refl _ _).set (p := ⟨p, 2, none⟩) (.inl (QT.self hp hrow3)) _
  refine ⟨_, _, _, w3, hr, hrow3, hrow2, ⟨⟨last + 1, g2, 0, l.length, l, false⟩, rfl, rfl, rfl, hg2, ⟨hp, ?_, _, hrow3.written 2 _, ?_, ?_⟩⟩, (hq1.trans hq2).trans hq3⟩
  · have := hq1.size; have := hq2.size; have := hq3.size; omega
  · rw [List.length_append, List.length_singleton, txc_append]
    exact h2.only (S := fun j => j = p) ((Only.refl (fun j => j = p) _).set (p := ⟨p, 2, none⟩) (.inl rfl) _) (fun j hj e => by subst e; exact h2.apart hrow3 (by decide) hj)
  · intro t ht
    rw [List.mem_append, List.mem_singleton] at ht
    rcases ht with ht | rfl
    · exact (((hl t ht).q hq1).q hq2).q hq3
    · exact ⟨by have : wY.heap.size ≤ g2 := hg2; show B ≤ g2; omega, Nat.le_refl _, by show l.length ≤ _; omega, cs, hq3.row (hq2.row (hcs.more o) (by decide) (by decide)) (by decide) (by decide), fun j b hb => by show cs[0 + j]? = _; rw [Nat.zero_add]; exact hcb j b hb⟩

set_option maxHeartbeats 400000 in
theorem push_nil (x : Value) (w : World) : Calls Try.prog 15 #[.pointer none, x] w fun e w' => e = .returned (.tuple #[.int .u64 0, .int .i64 6]) ∧ w = w' := by
  go_enter Try.func15, Try.ntmps15
  go_wp2_with (go_at_call 109; refine (none_nil _).mono ?_; rintro e _ ⟨rfl, rfl⟩)
  go_ret2
  exact ⟨rfl, rfl⟩

section
variable {B p last : Nat} {room : Int} {ts : List Txt} {w : World}
theorem QRep.row (h : QRep B w p room last ts) : ∃ sv, Row w p 51 #[.int .i64 room, .int .u64 last, sv] := by
  obtain ⟨_, _, sv, hr, _⟩ := h
  exact ⟨sv, hr⟩

set_option maxHeartbeats 400000 in
theorem push_arg (A : Option Addr) (c : Nat) (h : QRep B w p room last ts) (hr : 0 < room) :
    Calls Try.prog 15 #[.pointer (some ⟨p, 0, none⟩), .slice A 0 c] w fun e w' => e = .returned (.tuple #[.int .u64 0, .int .i64 1]) ∧ w = w' := by
  obtain ⟨sv, hrow⟩ := h.row
  have HROW := Lib.hid hrow
  clear hrow h
  go_enter Try.func15, Try.ntmps15
  go_wp2_with (go_at_call 109; refine (none_not HROW.out hr).mono ?_; rintro e _ ⟨rfl, rfl⟩)
  go_ret2
  exact ⟨rfl, rfl⟩
set_option maxHeartbeats 400000 in
theorem push_long (A : Option Addr) (n c : Nat) (h : QRep B w p room last ts) (hr : 0 < room) (hn : 1000 < n) (hn2 : n ≤ 9223372036854775807) :
    Calls Try.prog 15 #[.pointer (some ⟨p, 0, none⟩), .slice A n c] w fun e w' => e = .returned (.tuple #[.int .u64 0, .int .i64 2]) ∧ w = w' := by
  obtain ⟨sv, hrow⟩ := h.row
  have HROW := Lib.hid hrow
  have h0 : ((n : Int) == 0) = false := by simp; omega
  clear hrow h
  go_enter Try.func15, Try.ntmps15
  go_wp2_with (go_at_call 109; refine (none_not HROW.out hr).mono ?_; rintro e _ ⟨rfl, rfl⟩)
  go_ret2
  exact ⟨rfl, rfl⟩

set_option maxRecDepth 100000 in
set_option maxHeartbeats 800000 in
theorem push_full (A : Option Addr) (n c : Nat) (h : QRep B w p room last ts) (hr : 0 < room) (hr2 : room ≤ 20000) (hb : (bytesF ts : Int) ≤ room) (hn0 : 0 < n) (hn : n ≤ 1000) (hts : ts.length ≤ 64) (hf : ts.length = 64 ∨ room < (bytesF ts : Int) + n) :
    Calls Try.prog 15 #[.pointer (some ⟨p, 0, none⟩), .slice A n c] w fun e w' => e = .returned (.tuple #[.int .u64 0, .int .i64 5]) ∧ Below w.heap.size w w' := by
  obtain ⟨_, _, sv, hrow, hown, _⟩ := id h
  obtain ⟨A1, cap, rfl, hcap, hmx⟩ := hown.shape
  unfold maxLen at hmx
  have HROW := Lib.hid hrow
  have HB := Lib.hid (qbytes_any (h.later (bl_drew (Below.refl _ _))) hr (by omega))
  have HQ := Lib.hid h
  have c0 := hrow.read (i := 0) rfl
  have c2 := hrow.read (i := 2) rfl
  have h0 : ((n : Int) == 0) = false := by simp; omega
  clear hrow h hown
  by_cases h64 : ts.length = 64
  · have hge : 64 ≤ ts.length := by omega
    have hd : decide ((64 : Int) ≤ (ts.length : Int)) = true := by simp; omega
    clear h64 hf
    go_enter Try.func15, Try.ntmps15
    go_wp2_with (go_at_call 109; refine (none_not HROW.out hr).mono ?_; rintro e _ ⟨rfl, rfl⟩)
    go_quiet (fail)
    go_wp2
    go_ret2
    exact ⟨rfl, below_drewN (Below.refl _ _) _⟩
  · have hlt : ts.length < 64 := by omega
    have hd : decide ((64 : Int) ≤ (ts.length : Int)) = false := by simp; omega
    have hgt : room < (bytesF ts : Int) + n := by omega
    clear h64 hf
    generalize bytesF ts = bf at *
    go_enter Try.func15, Try.ntmps15
    go_wp2_with (go_at_call 109; refine (none_not HROW.out hr).mono ?_; rintro e _ ⟨rfl, rfl⟩)
    have hw0 : (0 : Int) ≤ (bf : Int) + n := by omega
    have hw : IntKind.i64.wrap ((bf : Int) + n) = (bf : Int) + n := IntWalk.i64_in _ (by omega)
    go_region_held3 (fun w' => w'.cell? ⟨p, 0, none⟩ = some (.int .i64 room) ∧ w'.cell? ⟨p, 2, none⟩ = some (.slice A1 ts.length cap)) (first | go_keep | (exact ⟨kept_box (by assumption) (by assumption), kept_box (by assumption) (by assumption)⟩)) (first | (go_at_call 26; refine (HB.out).mono ?_; rintro e w1 ⟨rfl, hb1⟩))
    go_wp2
    go_ret2
    exact ⟨rfl, bl_step (bl_drew (Below.refl _ _)) hb1⟩

/-- what a push does that is not refused -/
def PushDone (B p last : Nat) (room : Int) (ts : List Txt) (l : List Nat) (w : World) (e : Ending) (w' : World) : Prop :=
  e = .returned (.tuple #[.int .u64 ((last : Int) + 1), .int .i64 0]) ∧ (∃ t : Txt, t.id = last + 1 ∧ t.bs = l ∧ t.bg = false ∧ QRep B w' p room (last + 1) (ts ++ [t])) ∧ QOnly B w w'
/-- the same; the text lies in new memory -/
def PushDoneG (B p last : Nat) (room : Int) (ts : List Txt) (l : List Nat) (w : World) (e : Ending) (w' : World) : Prop :=
  e = .returned (.tuple #[.int .u64 ((last : Int) + 1), .int .i64 0]) ∧ (∃ t : Txt, t.id = last + 1 ∧ t.bs = l ∧ t.bg = false ∧ w.heap.size ≤ t.g ∧ QRep B w' p room (last + 1) (ts ++ [t])) ∧ QOnly B w w'

set_option maxRecDepth 100000 in
set_option maxHeartbeats 3200000 in
theorem push_okg (A : Option Addr) (l : List Nat) (c : Nat) (h : QRep B w p room last ts) (hr : 0 < room) (hr2 : room ≤ 20000) (h0 : 0 < l.length) (hn : l.length ≤ 1000) (hts : ts.length < 64) (hf : (bytesF ts : Int) + l.length ≤ room) (hlast : last ≤ 1000000000)
    (hsrc : ∀ W, QOnly B w W → QSrcB W A (qbts l)) :
    Calls Try.prog 15 #[.pointer (some ⟨p, 0, none⟩), .slice A l.length c] w (PushDoneG B p last room ts l w) := by
  obtain ⟨hB, hB2, sv, hrow, hown, hl⟩ := id h
  obtain ⟨A1, cap, rfl, hcap, hmx⟩ := hown.shape
  unfold maxLen at hmx
  have HROW := Lib.hid hrow
  have HBY := Lib.hid (qbytes_any (h.later (bl_drew (Below.refl _ _))) hr (by omega))
  have HQ := Lib.hid h
  have HSRC := Lib.hid hsrc
  have c0 := hrow.read (i := 0) rfl
  have c2 := hrow.read (i := 2) rfl
  have hd : decide ((64 : Int) ≤ (ts.length : Int)) = false := by simp; omega
  clear hrow h hown hl hsrc
  obtain ⟨bf, hbf⟩ : ∃ bf, bytesF ts = bf := ⟨_, rfl⟩
  rw [hbf] at hf HBY
  clear hbf
  obtain ⟨n, hn'⟩ : ∃ n, l.length = n := ⟨_, rfl⟩
  rw [hn'] at h0 hn hf
  have HN := Lib.hid hn'
  rw [hn']
  clear hn'
  have hn0 : ((n : Int) == 0) = false := by simp; omega
  have hd1 : decide ((1000 : Int) < (n : Int)) = false := by simp; omega
  go_enter Try.func15, Try.ntmps15
  go_wp2_with (go_at_call 109; refine (none_not HROW.out hr).mono ?_; rintro e _ ⟨rfl, rfl⟩)
  have hw0 : (0 : Int) ≤ (bf : Int) + n := by omega
  have hw : IntKind.i64.wrap ((bf : Int) + n) = (bf : Int) + n := IntWalk.i64_in _ (by omega)
  go_region_held3 (fun w' => w'.cell? ⟨p, 0, none⟩ = some (.int .i64 room) ∧ w'.cell? ⟨p, 2, none⟩ = some (.slice A1 ts.length cap)) (first | go_keep | (exact ⟨kept_box (by assumption) (by assumption), kept_box (by assumption) (by assumption)⟩)) (first | (go_at_call 26; refine (HBY.out).mono ?_; rintro e w1 ⟨rfl, hb1⟩))
  have hbw1 : Below w.heap.size w w1 := bl_step (bl_drew (Below.refl _ _)) hb1
  obtain ⟨_, hB3, sv1, hrow1, hown1, hl1⟩ := HQ.out.later hbw1
  have esv : sv1 = .slice A1 ts.length cap := by
    have := HROW.out.later hbw1
    unfold Row at this hrow1
    rw [hrow1] at this
    injection this with this
    injection this with this _
    injection this with this
    injection this with _ this
    injection this with _ this
    injection this with this _
  subst esv
  have c1 := hrow1.read (i := 1) rfl
  have f1 := hrow1.free 1
  have hrowY := hrow1.written 1 (.int .u64 ((last : Int) + 1))
  have hoY : QOnly B w1 (w1.setCell ⟨p, 1, none⟩ (.int .u64 ((last : Int) + 1))) := (Only.refl _ _).set (p := ⟨p, 1, none⟩) (.inl (QT.self hB hrow1)) _
  have hownY := hown1.only (S := fun j => j = p) ((Only.refl (fun j => j = p) _).set (p := ⟨p, 1, none⟩) (.inl rfl) (.int .u64 ((last : Int) + 1))) (fun j hj e => by subst e; exact hown1.apart hrow1 (by decide) hj)
  have hlY : ∀ t ∈ ts, t.lies B (w1.setCell ⟨p, 1, none⟩ (.int .u64 ((last : Int) + 1))) := fun t ht => (hl1 t ht).q hoY
  have HOY := Lib.hid ((QOnly.of_below (B := B) hbw1).trans hoY)
  have hszY : B ≤ (w1.setCell ⟨p, 1, none⟩ (.int .u64 ((last : Int) + 1))).heap.size := by have := hoY.size; omega
  have HSY := Lib.hid (HSRC.out _ HOY.out)
  have HRY := Lib.hid hrowY
  have HWY := Lib.hid hownY
  have HLY := Lib.hid hlY
  clear hrow1 hrowY hoY hown1 hownY hl1 hlY hb1 hbw1
  have hu : IntKind.u64.wrap ((last : Int) + 1) = (last : Int) + 1 := by rw [IntKind.wrap_u64]; omega
  go_wp2
  generalize w1.setCell ⟨p, 1, none⟩ (.int .u64 ((last : Int) + 1)) = wY at *
  have hRY : Row wY p 51 #[.int .i64 room, .int .u64 ((last : Int) + 1), .slice A1 ts.length cap] := HRY.out
  have y1 : wY.cell? ⟨p, 1, none⟩ = some (.int .u64 ((last : Int) + 1)) := hRY.read rfl
  have y2 : wY.cell? ⟨p, 2, none⟩ = some (.slice A1 ts.length cap) := hRY.read rfl
  have HRY' := Lib.hid hRY
  have HC : Hid (∀ W, W = wY.drew → Calls Try.prog 110 #[.slice A n c] W (CopyDone l W)) := Lib.hid (fun W hW => by
    have := qcopied_any A c l W (by rw [hW]; exact HSY.out) (by rw [HN.out]; omega) (by rw [HN.out]; omega)
    rw [HN.out] at this
    exact this)
  clear hRY HRY c0 c1 c2 f1
  go_region_law (first
    | (go_simp; go_at_call 110; refine (HC.out _ rfl).mono ?_; rintro e w2 ⟨g2, rfl, hfr⟩; obtain ⟨A', n', cap', w3, hr3, hrow3, hrow2, hq3, ho3⟩ := push_tail hB hszY HRY'.out HWY.out HLY.out (by omega) hfr (by rw [HN.out]; omega); rw [HN.out] at hr3 ⊢; have z1 := hrow2.read (i := 1) rfl; have z2 := hrow2.read (i := 2) rfl; have z3 := (hrow2.more (.cells #[.int .u64 ((last : Int) + 1), .slice (some ⟨g2, 0, none⟩) n n, .bool false] 177)).read (i := 2) rfl; have x2 := hrow3.read (i := 2) rfl; have x3 := hrow3.free 2; have HR3 := Lib.hid hr3; have HQ3 := Lib.hid hq3; have HO3 := Lib.hid ho3; have HRW3 := Lib.hid hrow3; clear hr3 hq3 ho3 hrow2 hrow3 hfr; go_simp)
    | (refine step_run rfl (.tmp 47) (.tmp 55) 49 rfl (.slice A1 ts.length cap) (.slice (some ⟨w2.heap.size, 0, none⟩) 1 1) (by rfl) (by rfl) HR3.out ?_))
  all_goals
    have v1 : (w3.setCell ⟨p, 2, none⟩ (.slice A' n' cap')).cell? ⟨p, 1, none⟩ = some (.int .u64 ((last : Int) + 1)) := (HRW3.out.written 2 (.slice A' n' cap')).read rfl
    go_wp2
    go_ret2
    obtain ⟨t9, a9, b9, c9, d9, e9⟩ := HQ3.out
    exact ⟨rfl, ⟨t9, a9, b9, c9, Nat.le_trans HOY.out.size d9, e9⟩, HOY.out.trans HO3.out⟩
theorem push_ok (A : Option Addr) (l : List Nat) (c : Nat) (h : QRep B w p room last ts) (hr : 0 < room) (hr2 : room ≤ 20000) (h0 : 0 < l.length) (hn : l.length ≤ 1000) (hts : ts.length < 64) (hf : (bytesF ts : Int) + l.length ≤ room) (hlast : last ≤ 1000000000)
    (hsrc : ∀ W, QOnly B w W → QSrcB W A (qbts l)) :
    Calls Try.prog 15 #[.pointer (some ⟨p, 0, none⟩), .slice A l.length c] w (PushDone B p last room ts l w) := by
  refine (push_okg A l c h hr hr2 h0 hn hts hf hlast hsrc).mono ?_
  rintro e w' ⟨h1, ⟨t, k1, k2, k3, _, k4⟩, h2⟩
  exact ⟨h1, ⟨t, k1, k2, k3, k4⟩, h2⟩
end
end Go.Proofs.Ytbcjfdhphpckfaa
