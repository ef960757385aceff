/-
  The document's Tick.
-/
import Derived.Test.YtieokmmejdngcaaTimerRef2
namespace Go.Proofs.Ytieokmmejdngcaa
open Go.RowKit

def XE (now : Int) (L : List Int) (i : Nat) : List Int := L.mapIdx fun j v => if j < i ∧ v = 1 then 0 else endT now v
theorem XE_at {now : Int} {L : List Int} {i j : Nat} {v : Int} (h : L[j]? = some v) : (XE now L i)[j]? = some (if j < i ∧ v = 1 then 0 else endT now v) := by
  unfold XE
  rw [List.getElem?_mapIdx, h]
  rfl
theorem XE_none {now : Int} {L : List Int} {i j : Nat} (h : L[j]? = none) : (XE now L i)[j]? = none := by
  unfold XE
  rw [List.getElem?_mapIdx, h]
  rfl
theorem XE_zero (now : Int) (L : List Int) : XE now L 0 = L.map (endT now) := by
  refine List.ext_getElem? fun j => ?_
  rw [List.getElem?_map]
  cases h : L[j]? with
  | none => rw [XE_none h]; rfl
  | some v => rw [XE_at h, if_neg (by omega)]; rfl
theorem XE_one {now : Int} {L : List Int} {i : Nat} (h : L[i]? = some 1) : (XE now L i).set i 0 = XE now L (i + 1) := by
  refine List.ext_getElem? fun j => ?_
  obtain ⟨hl, _⟩ := List.getElem?_eq_some_iff.1 h
  rw [List.getElem?_set]
  by_cases hij : i = j
  · subst hij
    rw [if_pos rfl, if_pos (by unfold XE; simpa using hl), XE_at h, if_pos ⟨by omega, rfl⟩]
  · rw [if_neg hij]
    cases hj : L[j]? with
    | none => rw [XE_none hj, XE_none hj]
    | some v =>
      rw [XE_at hj, XE_at hj]
      have : (j < i ∧ v = 1) ↔ (j < i + 1 ∧ v = 1) := by omega
      simp only [this]
theorem XE_other {now : Int} {L : List Int} {i : Nat} {v : Int} (h : L[i]? = some v) (h1 : ¬ v = 1) : XE now L (i + 1) = XE now L i := by
  refine List.ext_getElem? fun j => ?_
  cases hj : L[j]? with
  | none => rw [XE_none hj, XE_none hj]
  | some u =>
    rw [XE_at hj, XE_at hj]
    have : (j < i + 1 ∧ u = 1) ↔ (j < i ∧ u = 1) := by
      constructor
      · rintro ⟨h2, h3⟩
        refine ⟨?_, h3⟩
        rcases Nat.lt_or_ge j i with h4 | h4
        · exact h4
        · obtain rfl : j = i := by omega
          rw [h] at hj
          injection hj with hj
          omega
      · rintro ⟨h2, h3⟩
        exact ⟨by omega, h3⟩
    simp only [this]
theorem XE_all {now : Int} {L : List Int} (h8 : L.length = 8) (h : ∀ v ∈ L, 0 ≤ v ∧ v ≤ 1000) : XE now L 8 = (tickL L).map (endT (now + 1)) := by
  refine List.ext_getElem? fun j => ?_
  unfold tickL decT
  rw [List.map_map, List.getElem?_map]
  cases hj : L[j]? with
  | none => rw [XE_none hj]; rfl
  | some v =>
    rw [XE_at hj]
    have hv := h v (List.mem_of_getElem? hj)
    have hl : j < 8 := by obtain ⟨h1, _⟩ := List.getElem?_eq_some_iff.1 hj; omega
    simp only [Option.map_some, Function.comp]
    congr 1
    unfold endT
    split
    · rename_i h1
      rw [if_pos (by omega : 0 < v), if_pos (by omega)]
    · rename_i h1
      by_cases h0 : v = 0
      · rw [if_pos h0, if_neg (by omega : ¬ 0 < v), if_pos h0]
      · rw [if_neg h0, if_pos (by omega : 0 < v), if_neg (by omega)]
        omega

theorem only_below2 {S : Nat → Prop} {w v u : World} (h : Only S w v) (hb : Below w.heap.size v u) : Only S w u :=
  ⟨hb.os.trans h.os, hb.tape.trans h.tape, hb.output.trans h.output, Nat.le_trans h.size hb.size, fun k hk hn => (hb.block k hk).trans (h.same k hk hn)⟩
def outF (L : List Int) : Nat → List Int
  | 0 => []
  | k + 1 => outF L k ++ if L[k]?.getD 0 = 1 then [(k : Int)] else []
theorem outF_yes {L : List Int} {k : Nat} (h : L[k]? = some 1) : outF L (k + 1) = outF L k ++ [(k : Int)] := by
  show outF L k ++ _ = _
  rw [h, Option.getD_some, if_pos rfl]
theorem outF_no {L : List Int} {k : Nat} {x : Int} (h : L[k]? = some x) (hx : ¬ x = 1) : outF L (k + 1) = outF L k := by
  show outF L k ++ _ = _
  rw [h, Option.getD_some, if_neg hx, List.append_nil]
theorem outF_end (L : List Int) (k : Nat) : outF L k = endF L (runF L k) := by
  induction k with
  | zero => rfl
  | succ k ih =>
    show outF L k ++ _ = endF L (runF L k ++ _)
    rw [ih]
    unfold endF
    rw [List.filter_append]
    congr 1
    generalize hx : L[k]?.getD 0 = x
    by_cases h0 : 0 < x
    · rw [if_pos h0]
      simp only [List.filter_cons, List.filter_nil, Int.toNat_natCast, hx, beq_iff_eq]
    · rw [if_neg h0, if_neg (by omega)]
      rfl
theorem outF_le (L : List Int) (k : Nat) : (outF L k).length ≤ k := by
  induction k with
  | zero => exact Nat.le_refl _
  | succ k ih =>
    show (outF L k ++ _).length ≤ _
    split <;> simp <;> omega

/-- behind i rounds of the document's Tick -/
def XInv (B p : Nat) (now : Int) (L : List Int) (i : Nat) (v : Value) (w : World) : Prop :=
  Row w p 28 (XCells (now + 1) (XE now L i)) ∧ w.ownsRow B 3 1 v (outF L i).length ((outF L i).map (fun x => Value.int .i64 x)) ∧ p < B ∧ B ≤ w.heap.size
section
variable {B p i : Nat} {now : Int} {L : List Int} {v : Value} {w : World}
theorem XInv.form (h : XInv B p now L i v w) : ∃ A c, v = .slice A (outF L i).length c := by
  rcases h.2.1.2 with ⟨rfl, h0⟩ | ⟨g, c, cur, rfl, _⟩
  · exact ⟨none, 0, by rw [h0]⟩
  · exact ⟨_, c, rfl⟩
theorem XInv.drewN (h : XInv B p now L i v w) (q : Nat) : XInv B p now L i v (w.drewN q) := h
theorem XInv.skip (h : XInv B p now L i v w) {x : Int} (hx : L[i]? = some x) (h1 : ¬ x = 1) : XInv B p now L (i + 1) v w := by
  unfold XInv at h ⊢
  rw [outF_no hx h1, XE_other hx h1]
  exact h
theorem XInv.at (h : XInv B p now L i v w) {x : Int} (hx : L[i]? = some x) : w.cell? ⟨p, 1 + i, none⟩ = some (.int .i64 (endT now x)) := by
  have := XE_at (now := now) (i := i) hx
  rw [if_neg (by omega)] at this
  exact h.1.read (xcells_at this)
theorem XInv.step (h : XInv B p now L i v w) (hx : L[i]? = some 1) (hi : i < 8) :
    ∃ g cap W', (Builtin.append_ #[35, 35] 35 #[v, .slice (some ⟨w.heap.size, 0, none⟩) 1 1]).run Try.prog (w.alloc (.cells #[.int .i64 i] 3)) = .ok (.slice (some ⟨g, 0, none⟩) ((outF L i).length + 1) cap) W' ∧
      XInv B p now L (i + 1) (.slice (some ⟨g, 0, none⟩) ((outF L i).length + 1) cap) (W'.setCell ⟨p, 1 + i, none⟩ (.int .i64 0)) ∧ Below B w W' ∧
      (∃ y, W'.cell? ⟨p, 1 + i, none⟩ = some y) ∧ W'.frozen? ⟨p, 1 + i, none⟩ = false := by
  have hle := outF_le L i
  obtain ⟨g, cap, W', hr, hown, ho⟩ := int_tail h.2.1 h.2.2.2 i (by omega)
  have hrow : Row W' p 28 (XCells (now + 1) (XE now L i)) := h.1.only ho (fun hk => by have := (World.ownsRow.lt h.2.1 p hk).1; have := h.2.2.1; omega)
  have hb : Below B w W' := ho.below h.2.2.2 (fun k hk hk' => by have := (World.ownsRow.lt h.2.1 k hk').1; omega)
  refine ⟨g, cap, W', hr, ⟨?_, ?_, h.2.2.1, ?_⟩, hb, ⟨_, hrow.read (xcells_at (XE_at hx))⟩, hrow.free _⟩
  · have := hrow.written (1 + i) (.int .i64 0)
    rw [xcells_set, XE_one hx] at this
    exact this
  · rw [outF_yes hx, List.length_append, List.map_append]
    exact own_only hown (wrote_at W' p (1 + i) _) (fun k hk e => by have := (World.ownsRow.lt hown k hk).1; have := h.2.2.1; omega)
  · exact Nat.le_trans h.2.2.2 (Nat.le_trans ho.size (wrote_at W' p (1 + i) (.int .i64 0)).size)
end

set_option maxHeartbeats 1600000 in
theorem xtick_t {p : Nat} {L : List Int} {now : Int} (w : World) (h : XRep w p now L) (hnow : now < 1000000) :
    Calls Try.prog 17 #[.pointer (some ⟨p, 0, none⟩)] w fun e w' => (∃ A c, e = .returned (.slice A (tickE L).length c) ∧ ISrc w' A (tickE L)) ∧ XRep w' p (now + 1) (tickL L) ∧ Only (isP p) w w' := by
  have H := Lib.hid h
  have hp := h.inside
  have h0 := h.time
  have hn0 := h.2.2.1
  have hf0 := h.free 0
  have hlo : IntKind.i64.wrap (now + 1) = now + 1 := IntWalk.i64_in _ (by omega)
  have hrow := h.2.2.2.2.written 0 (.int .i64 (now + 1))
  have HI0 := Lib.hid (show XInv w.heap.size p now L 0 (.slice none 0 0) (w.setCell ⟨p, 0, none⟩ (.int .i64 (now + 1))) from
    ⟨by rw [XE_zero]; exact hrow, World.ownsRow_nil _ _ _ _, hp, (wrote_at w p 0 (.int .i64 (now + 1))).size⟩)
  have HO0 := Lib.hid (wrote_at w p 0 (.int .i64 (now + 1)))
  clear h hrow hlo
  go_enter Try.func17, Try.ntmps17
  go_wp2_with fail
  go_loopw [3, 4] (fun v i wr => ∃ k : Nat, k ≤ 8 ∧ i = .int .i64 k ∧ Hid (XInv w.heap.size p now L k v wr) ∧ Hid (Only (isP p) w wr)) (fun _ i _ => 8 - (intOf i).toNat)
  case atStart => exact ⟨0, by omega, rfl, HI0, HO0⟩
  case round =>
    obtain ⟨k, hk, rfl, HI, HO⟩ := hrel
    clear HI0 HO0 h0 hf0
    by_cases hlt : k < 8
    · obtain ⟨x, hx, hx0, hx1⟩ := H.out.has hlt
      have hc := HI.out.at hx
      have ht : wr.cell? ⟨p, 0, none⟩ = some (.int .i64 (now + 1)) := HI.out.1.read rfl
      have hk0 : (0 : Int) ≤ (k : Int) := by omega
      have hk8 : (k : Int) < 8 := by omega
      have HX := Lib.hid hx
      clear hx
      by_cases h1 : x = 1
      · subst h1
        rw [endT_pos (by omega)] at hc
        have g1 : (now + 1 != 0) = true := by simp; omega
        have g2 : (now + 1 == now + 1) = true := by simp
        obtain ⟨A, c, rfl⟩ := HI.out.form
        go_wp2_with fail
        go_quiet (fail)
        clear g1 g2
        obtain ⟨g, cap, W', hr, hinv, hb, ⟨y, hy⟩, hfz⟩ := (HI.out.drewN nq).step HX.out hlt
        have hsz : (wr.drewN nq).heap.size = wr.heap.size := rfl
        rw [hsz] at hr
        have HR := Lib.hid hr
        have HI2 := Lib.hid hinv
        have HO2 := Lib.hid ((only_below2 (HO.out.drewN nq) hb).andThen (wrote_at W' p (1 + k) (.int .i64 0)) (fun k _ hk => hk))
        clear hr hinv hb hsz
        go_wp2_with (at_builtin; refine wpList_run rfl (.tmp 37) (.tmp 39) 35 rfl (.slice A (outF L k).length c) (.slice (some ⟨wr.heap.size, 0, none⟩) 1 1) (by rfl) (by rfl) HR.out ?_)
        go_roundw
        case rel => exact ⟨k + 1, by omega, by go_num, HI2, HO2⟩
        case measure => simp [intOf]; omega
      · have HI2 := Lib.hid (fun q => (HI.out.drewN q).skip HX.out h1)
        have HO2 := Lib.hid (fun q => HO.out.drewN q)
        by_cases hz : x = 0
        · subst hz
          rw [endT_zero] at hc
          go_wp2_with fail
          go_quiet (fail)
          go_wp2
          go_roundw
          case rel => exact ⟨k + 1, by omega, by go_num, Lib.hid (HI2.out _), Lib.hid (HO2.out _)⟩
          case measure => simp [intOf]; omega
        · rw [endT_pos (by omega)] at hc
          have g1 : (now + x != 0) = true := by simp; omega
          have g2 : (now + x == now + 1) = false := by simp; omega
          go_wp2_with fail
          go_quiet (fail)
          go_wp2
          go_roundw
          case rel => exact ⟨k + 1, by omega, by go_num, Lib.hid (HI2.out _), Lib.hid (HO2.out _)⟩
          case measure => simp [intOf]; omega
    · obtain rfl : k = 8 := by omega
      obtain ⟨A, c, rfl⟩ := HI.out.form
      have hE : outF L 8 = tickE L := outF_end L 8
      have HF := Lib.hid (show (∃ A' c', Ending.returned (.slice A (outF L 8).length c) = .returned (.slice A' (tickE L).length c') ∧ ISrc wr A' (tickE L)) ∧ XRep wr p (now + 1) (tickL L) ∧ Only (isP p) w wr from by
        refine ⟨⟨A, c, by rw [hE], ?_⟩, ⟨by unfold tickL; rw [List.length_map]; exact H.out.1, ?_, by omega, by omega, ?_⟩, HO.out⟩
        · rw [← hE]
          intro i x hx
          have hl : 0 < (outF L 8).length := by
            obtain ⟨h1, _⟩ := List.getElem?_eq_some_iff.1 hx
            omega
          obtain ⟨g, cap, hv, _, _⟩ := HI.out.2.1.form hl
          injection hv with hv _ _
          refine ⟨g, hv, ?_⟩
          subst hv
          have := HI.out.2.1.cells (g := g) rfl i (.int .i64 x) (by rw [List.getElem?_map, hx]; rfl)
          rw [show (⟨g, 0, none⟩ : Addr).add i = ⟨g, i, none⟩ by unfold Addr.add; split <;> simp_all] at this
          exact this
        · intro v hv
          unfold tickL decT at hv
          obtain ⟨u, hu, rfl⟩ := List.mem_map.1 hv
          have := H.out.2.1 u hu
          split <;> omega
        · have := HI.out.1
          rw [XE_all H.out.1 H.out.2.1] at this
          exact this)
      clear HI HO hE hk hlt
      go_wp2
      go_ret
      exact HF.out
end Go.Proofs.Ytieokmmejdngcaa
