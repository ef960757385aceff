/-
  What Running, Tick and Clear of a set of timers answer.
-/
import Derived.Test.YtieokmmejdngcaaInts
namespace Go.Proofs.Ytieokmmejdngcaa
open Go.RowKit

/-- the timers ahead of k that run -/
def runF (L : List Int) : Nat → List Int
  | 0 => []
  | k + 1 => runF L k ++ if 0 < L[k]?.getD 0 then [(k : Int)] else []
theorem runF_yes {L : List Int} {k : Nat} {x : Int} (h : L[k]? = some x) (hx : 0 < x) : runF L (k + 1) = runF L k ++ [(k : Int)] := by
  show runF L k ++ _ = _
  rw [h, Option.getD_some, if_pos hx]
theorem runF_no {L : List Int} {k : Nat} {x : Int} (h : L[k]? = some x) (hx : ¬ 0 < x) : runF L (k + 1) = runF L k := by
  show runF L k ++ _ = _
  rw [h, Option.getD_some, if_neg hx, List.append_nil]
theorem runF_le (L : List Int) (k : Nat) : (runF L k).length ≤ k := by
  induction k with
  | zero => exact Nat.le_refl _
  | succ k ih =>
    show (runF L k ++ _).length ≤ _
    split <;> simp <;> omega
theorem mem_runF (L : List Int) (k : Nat) (i : Int) : i ∈ runF L k ↔ ∃ j : Nat, j < k ∧ i = j ∧ 0 < L[j]?.getD 0 := by
  induction k with
  | zero => simp [runF]
  | succ k ih =>
    show i ∈ runF L k ++ _ ↔ _
    rw [List.mem_append, ih]
    constructor
    · rintro (⟨j, h1, h2, h3⟩ | h)
      · exact ⟨j, by omega, h2, h3⟩
      · split at h
        · rename_i h0
          simp at h
          exact ⟨k, by omega, h, h0⟩
        · simp at h
    · rintro ⟨j, h1, rfl, h3⟩
      rcases Nat.lt_or_ge j k with h | h
      · exact .inl ⟨j, h, rfl, h3⟩
      · obtain rfl : j = k := by omega
        right
        rw [if_pos h3]
        simp
theorem runF_rises (L : List Int) (k : Nat) : (runF L k).Pairwise (· < ·) := by
  induction k with
  | zero => exact List.Pairwise.nil
  | succ k ih =>
    show (runF L k ++ _).Pairwise _
    split
    · refine List.pairwise_append.2 ⟨ih, List.pairwise_singleton _ _, fun a ha b hb => ?_⟩
      obtain ⟨j, h1, rfl, _⟩ := (mem_runF L k a).1 ha
      simp at hb
      omega
    · rw [List.append_nil]; exact ih

/-- the places in T are turned by f -/
def upd (f : Int → Int) (L : List Int) (T : List Int) : List Int := L.mapIdx fun i x => if (i : Int) ∈ T then f x else x
theorem length_upd (f : Int → Int) (L T : List Int) : (upd f L T).length = L.length := by unfold upd; simp
theorem upd_nil (f : Int → Int) (L : List Int) : upd f L [] = L := by
  unfold upd
  refine List.ext_getElem (by simp) fun i h1 h2 => ?_
  simp
theorem upd_at {f : Int → Int} {L T : List Int} {i : Nat} {x : Int} (h : L[i]? = some x) : (upd f L T)[i]? = some (if (i : Int) ∈ T then f x else x) := by
  unfold upd
  rw [List.getElem?_mapIdx, h]
  rfl
theorem upd_step {f : Int → Int} {L T : List Int} {i : Nat} {x : Int} (h : L[i]? = some x) : (upd f L T).set i (f x) = upd f L (T ++ [(i : Int)]) := by
  refine List.ext_getElem? fun j => ?_
  rw [List.getElem?_set]
  obtain ⟨hl, hx⟩ := List.getElem?_eq_some_iff.1 h
  by_cases hij : i = j
  · subst hij
    rw [if_pos rfl, length_upd, if_pos hl, upd_at h, if_pos (by simp)]
  · rw [if_neg hij]
    unfold upd
    rw [List.getElem?_mapIdx, List.getElem?_mapIdx]
    congr 1
    funext y
    have : ((j : Int) ∈ T ++ [(i : Int)]) ↔ ((j : Int) ∈ T) := by
      rw [List.mem_append]
      constructor
      · rintro (h | h)
        · exact h
        · simp at h; omega
      · exact .inl
    simp only [this]
theorem upd_run (f : Int → Int) {L : List Int} (h8 : L.length = 8) : upd f L (runF L 8) = L.map fun x => if 0 < x then f x else x := by
  refine List.ext_getElem? fun i => ?_
  rw [List.getElem?_map]
  cases hx : L[i]? with
  | none =>
    unfold upd
    rw [List.getElem?_mapIdx, hx]
    rfl
  | some x =>
    rw [upd_at hx]
    have hi : i < 8 := by
      obtain ⟨hl, _⟩ := List.getElem?_eq_some_iff.1 hx
      omega
    have : ((i : Int) ∈ runF L 8) ↔ 0 < x := by
      rw [mem_runF]
      constructor
      · rintro ⟨j, hj, he, h0⟩
        obtain rfl : i = j := by omega
        rw [hx] at h0
        exact h0
      · intro h0
        exact ⟨i, by omega, rfl, by rw [hx]; exact h0⟩
    simp only [this, Option.map_some]

def RunInv (B p : Nat) (L : List Int) (k : Nat) (v : Value) (w : World) : Prop := w.ownsRow B 3 1 v (runF L k).length ((runF L k).map (fun x => Value.int .i64 x)) ∧ TRep w p L ∧ B ≤ w.heap.size
theorem RunInv.form {B p : Nat} {L : List Int} {k : Nat} {v : Value} {w : World} (h : RunInv B p L k v w) : ∃ A c, v = .slice A (runF L k).length c := by
  rcases h.1.2 with ⟨rfl, h0⟩ | ⟨g, c, cur, rfl, _⟩
  · exact ⟨none, 0, by rw [h0]⟩
  · exact ⟨_, c, rfl⟩
theorem RunInv.step {B p : Nat} {L : List Int} {k : Nat} {v : Value} {w : World} (h : RunInv B p L k v w) (hp : p < B) {x : Int} (hx : L[k]? = some x) (h0 : 0 < x) (hk : k < 8) :
    ∃ g cap W', (Builtin.append_ #[35, 35] 35 #[v, .slice (some ⟨w.heap.size, 0, none⟩) 1 1]).run Try.prog (w.alloc (.cells #[.int .i64 k] 3)) = .ok (.slice (some ⟨g, 0, none⟩) ((runF L k).length + 1) cap) W' ∧
      RunInv B p L (k + 1) (.slice (some ⟨g, 0, none⟩) ((runF L k).length + 1) cap) W' ∧ Below B w W' := by
  obtain ⟨h1, h2, h3⟩ := h
  have hle := runF_le L k
  obtain ⟨g, cap, W', hr, hown, ho⟩ := int_tail h1 h3 k (by omega)
  have hb : Below B w W' := ho.below h3 (fun j hj hj' => by have := (h1.lt j hj').1; omega)
  refine ⟨g, cap, W', hr, ⟨?_, h2.only ho (fun hj => by have := (h1.lt p hj).1; omega), Nat.le_trans h3 ho.size⟩, hb⟩
  rw [runF_yes hx h0, List.length_append, List.map_append]
  exact hown

set_option maxHeartbeats 400000 in
theorem running_t {p : Nat} {L : List Int} (w : World) (h : TRep w p L) :
    Calls Try.prog 21 #[.pointer (some ⟨p, 0, none⟩)] w fun e w' => (∃ u, e = .returned u ∧ Ints w.heap.size w' u (runF L 8)) ∧ Below w.heap.size w w' := by
  have H0 := Lib.hid (show RunInv w.heap.size p L 0 (.slice none 0 0) w from ⟨World.ownsRow_nil _ _ _ _, h, Nat.le_refl _⟩)
  have hp := h.inside
  clear h
  go_enter Try.func21, Try.ntmps21
  go_wp2_with fail
  go_loopw [3, 5] (fun v i wr => ∃ k : Nat, k ≤ 8 ∧ i = .int .i64 k ∧ Hid (RunInv w.heap.size p L k v wr) ∧ Hid (Below w.heap.size w wr)) (fun _ i _ => 8 - (intOf i).toNat)
  case atStart => exact ⟨0, by omega, rfl, H0, Lib.hid (Below.refl _ _)⟩
  case round =>
    obtain ⟨k, hk, rfl, HI, HB⟩ := hrel
    clear H0
    by_cases hlt : k < 8
    · obtain ⟨x, hx, _, _⟩ := HI.out.2.1.has hlt
      have hv : LV L k = x := by unfold LV; rw [inR_of hlt, if_pos rfl, Int.toNat_natCast, hx]; rfl
      by_cases h0 : 0 < x
      · obtain ⟨A, c, rfl⟩ := HI.out.form
        obtain ⟨g, cap, W', hr, hinv, hb⟩ := HI.out.step hp hx h0 hlt
        have HR := Lib.hid hr
        have HI2 := Lib.hid hinv
        have HB2 := Lib.hid (HB.out.trans hb)
        have HV := Lib.hid hv
        clear hr hinv hb hv hx
        go_wp2_with (first
          | (go_at_call 19; refine (left_t _ _ HI.out.2.1).mono ?_; rintro e w1 ⟨rfl, rfl⟩; rw [HV.out])
          | (at_builtin; refine wpList_run rfl (.tmp 12) (.tmp 14) 35 rfl (.slice A (runF L k).length c) (.slice (some ⟨wr.heap.size, 0, none⟩) 1 1) (by rfl) (by rfl) HR.out ?_))
        go_roundw
        case rel => exact ⟨k + 1, by omega, by go_num, HI2, HB2⟩
        case measure => simp [intOf]; omega
      · have HV := Lib.hid hv
        have HI2 := Lib.hid (show RunInv w.heap.size p L (k + 1) u3 wr from by
          have h := HI.out
          unfold RunInv at h ⊢
          rw [runF_no hx h0]
          exact h)
        clear hv hx
        go_wp2_with (go_at_call 19; refine (left_t _ _ HI.out.2.1).mono ?_; rintro e w1 ⟨rfl, rfl⟩; rw [HV.out])
        go_roundw
        case rel => exact ⟨k + 1, by omega, by go_num, HI2, HB⟩
        case measure => simp [intOf]; omega
    · obtain rfl : k = 8 := by omega
      clear hk hlt
      go_wp2_with (go_at_call 38; refine (clip_t HI.out.1).mono ?_; rintro e w1 ⟨⟨u, rfl, hu⟩, rfl⟩; have HU := Lib.hid hu; clear hu)
      go_ret
      exact ⟨⟨_, rfl, HU.out⟩, HB.out⟩

def decT (x : Int) : Int := x - 1
/-- the timers that a tick tells -/
def endF (L : List Int) (T : List Int) : List Int := T.filter fun i => L[i.toNat]?.getD 0 == 1
theorem endF_step (L T : List Int) (i : Nat) {x : Int} (h : L[i]? = some x) : endF L (T ++ [(i : Int)]) = endF L T ++ if x = 1 then [(i : Int)] else [] := by
  unfold endF
  rw [List.filter_append]
  congr 1
  simp only [List.filter_cons, List.filter_nil, Int.toNat_natCast, h, Option.getD_some]
  by_cases h1 : x = 1 <;> simp [h1]
/-- a run list's next entry -/
theorem run_entry {L : List Int} {j : Nat} (h8 : L.length = 8) (hj : j < (runF L 8).length) : ∃ i : Nat, ∃ x, (runF L 8)[j]? = some (i : Int) ∧ i < 8 ∧ L[i]? = some x ∧ 0 < x ∧ ¬ (i : Int) ∈ (runF L 8).take j ∧ (runF L 8).take (j + 1) = (runF L 8).take j ++ [(i : Int)] := by
  have hm : (runF L 8)[j] ∈ runF L 8 := List.getElem_mem hj
  obtain ⟨i, hi, he, hx⟩ := (mem_runF L 8 _).1 hm
  have hl : i < L.length := by omega
  rw [List.getElem?_eq_getElem hl, Option.getD_some] at hx
  refine ⟨i, L[i], by rw [List.getElem?_eq_getElem hj, he], hi, List.getElem?_eq_getElem hl, hx, fun hmem => ?_, by rw [List.take_succ_eq_append_getElem hj, he]⟩
  obtain ⟨a, ha, hb⟩ := List.mem_iff_getElem.1 hmem
  rw [List.length_take] at ha
  rw [List.getElem_take, ← he] at hb
  have := List.pairwise_iff_getElem.1 (runF_rises L 8) a j (by omega) hj (by omega)
  omega
/-- behind j rounds of Tick or Clear -/
def TickInv (f : Int → Int) (B C p : Nat) (L : List Int) (j : Nat) (ru : Value) (w : World) : Prop :=
  TRep w p (upd f L ((runF L 8).take j)) ∧ Ints B w ru (runF L 8) ∧ (∀ g, ru.ownBlock = some g → g < C) ∧ p < C ∧ C ≤ w.heap.size
def EndInv (C : Nat) (L : List Int) (j : Nat) (v : Value) (w : World) : Prop := w.ownsRow C 3 1 v (endF L ((runF L 8).take j)).length ((endF L ((runF L 8).take j)).map (fun x => Value.int .i64 x))
theorem Ints.below {B C : Nat} {w v : World} {u : Value} {l : List Int} (h : Ints B w u l) (hu : ∀ g, u.ownBlock = some g → g < C) (hb : Below C w v) : Ints B v u l := by
  obtain ⟨A, rfl, h2⟩ := h
  refine ⟨A, rfl, ?_⟩
  rcases h2 with h2 | ⟨g, cs, h3, h4, h5, h6⟩
  · exact .inl h2
  · refine .inr ⟨g, cs, h3, h4, (hb.block g (hu g (by rw [h3]; rfl))).trans h5, h6⟩
theorem Ints.lt {B : Nat} {w : World} {u : Value} {l : List Int} (h : Ints B w u l) : ∀ g, u.ownBlock = some g → g < w.heap.size := by
  obtain ⟨A, rfl, h2⟩ := h
  rcases h2 with ⟨rfl, _⟩ | ⟨g, cs, rfl, h4, h5, h6⟩
  · intro g hg
    simp [Value.ownBlock] at hg
  · intro k hk
    simp [Value.ownBlock] at hk
    subst hk
    exact h5.inside
theorem EndInv.form {C : Nat} {L : List Int} {j : Nat} {v : Value} {w : World} (h : EndInv C L j v w) : ∃ A c, v = .slice A (endF L ((runF L 8).take j)).length c := by
  rcases h.2 with ⟨rfl, h0⟩ | ⟨g, c, cur, rfl, _⟩
  · exact ⟨none, 0, by rw [h0]⟩
  · exact ⟨_, c, rfl⟩
theorem TickInv.store {f : Int → Int} {B C p : Nat} {L : List Int} {j : Nat} {ru : Value} {w : World} (h : TickInv f B C p L j ru w) {i : Nat} {x : Int} (hx : L[i]? = some x) (ht : (runF L 8).take (j + 1) = (runF L 8).take j ++ [(i : Int)]) (h0 : 0 ≤ f x) (h1 : f x ≤ 1000) :
    TickInv f B C p L (j + 1) ru (w.setCell ⟨p, 1 + i, none⟩ (.int .i64 (f x))) := by
  refine ⟨?_, h.2.1.only (wrote_at w p (1 + i) _) h.1.2.2 (by decide), h.2.2.1, h.2.2.2.1, ?_⟩
  · rw [ht, ← upd_step hx]
    exact h.1.set i h0 h1
  · have := (wrote_at w p (1 + i) (.int .i64 (f x))).size
    exact Nat.le_trans h.2.2.2.2 this
theorem EndInv.store {C p : Nat} {L : List Int} {j : Nat} {v : Value} {w : World} (h : EndInv C L j v w) (hp : p < C) (i : Nat) (y : Value) : EndInv C L j v (w.setCell ⟨p, i, none⟩ y) :=
  own_only h (wrote_at w p i y) (fun k hk e => by have := (World.ownsRow.lt h k hk).1; omega)
theorem EndInv.skip {C : Nat} {L : List Int} {j : Nat} {v : Value} {w : World} (h : EndInv C L j v w) {i : Nat} {x : Int} (hx : L[i]? = some x) (ht : (runF L 8).take (j + 1) = (runF L 8).take j ++ [(i : Int)]) (h1 : ¬ x = 1) : EndInv C L (j + 1) v w := by
  unfold EndInv at h ⊢
  rw [ht, endF_step L _ i hx, if_neg h1, List.append_nil]
  exact h
theorem EndInv.step {f : Int → Int} {B C p : Nat} {L : List Int} {j : Nat} {v ru : Value} {w : World} (h : EndInv C L j v w) (hT : TickInv f B C p L (j + 1) ru w) (hj : j < 8) {i : Nat} {x : Int} (hx : L[i]? = some x) (ht : (runF L 8).take (j + 1) = (runF L 8).take j ++ [(i : Int)]) (h1 : x = 1) :
    ∃ g cap W', (Builtin.append_ #[35, 35] 35 #[v, .slice (some ⟨w.heap.size, 0, none⟩) 1 1]).run Try.prog (w.alloc (.cells #[.int .i64 i] 3)) = .ok (.slice (some ⟨g, 0, none⟩) ((endF L ((runF L 8).take j)).length + 1) cap) W' ∧
      EndInv C L (j + 1) (.slice (some ⟨g, 0, none⟩) ((endF L ((runF L 8).take j)).length + 1) cap) W' ∧ TickInv f B C p L (j + 1) ru W' ∧ Below C w W' := by
  have hle : (endF L ((runF L 8).take j)).length ≤ 8 := by
    unfold endF
    have := List.length_filter_le (fun i : Int => L[i.toNat]?.getD 0 == 1) ((runF L 8).take j)
    rw [List.length_take] at this
    omega
  obtain ⟨g, cap, W', hr, hown, ho⟩ := int_tail h hT.2.2.2.2 i (by omega)
  have hb : Below C w W' := ho.below hT.2.2.2.2 (fun k hk hk' => by have := (World.ownsRow.lt h k hk').1; omega)
  refine ⟨g, cap, W', hr, ?_, ⟨?_, hT.2.1.below hT.2.2.1 hb, hT.2.2.1, hT.2.2.2.1, Nat.le_trans hT.2.2.2.2 ho.size⟩, hb⟩
  · unfold EndInv
    rw [ht, endF_step L _ i hx, if_pos h1, List.length_append, List.map_append]
    exact hown
  · exact hT.1.only ho (fun hk => by have := (World.ownsRow.lt h p hk).1; have := hT.2.2.2.1; omega)

theorem tick_rep {f : Int → Int} {B C p : Nat} {L : List Int} {ru : Value} {w : World} (h8 : L.length = 8) (h : TickInv f B C p L (runF L 8).length ru w) : TRep w p (L.map fun x => if 0 < x then f x else x) := by
  have := h.1
  rw [List.take_length, upd_run f h8] at this
  exact this
end Go.Proofs.Ytieokmmejdngcaa
