/-
  The closures of package spans: what each does to the variables that it captured. More closures of package spans: how many, all, one of them; a keeper made; parts kept. The calls of package spans that only ask: how many, all, one of them, the spans, the gaps; and what takes out.
-/
import Derived.Test.YtjonkpdjhjobfaaJSpansLive01
import Derived.Deep.RegionLaw
import Derived.Deep.AppendLies
import Derived.Laws.CopyOwn
namespace Go.Proofs.Ytjonkpdjhjobfaa
open Go.RowKit

/-- a keeper's variables: kb holds the pointer to vb, vb the slice of the spans G, whose memory lies from C on -/
def Kept (C kb vb : Nat) (G : List (Int × Int)) (w : World) : Prop :=
  kb < C ∧ vb < C ∧ Row w kb 162 #[.pointer (some ⟨vb, 0, none⟩)] ∧ ∃ sv, Row w vb 83 #[sv] ∧ w.ownsRow C 66 2 sv G.length (spc G)

theorem Kept.later {C kb vb : Nat} {G : List (Int × Int)} {w v : World} {S : Nat → Prop} (h : Kept C kb vb G w) (ho : Only S w v) (hS : ∀ k, S k → k ≠ kb ∧ k ≠ vb ∧ k < C) : Kept C kb vb G v := by
  obtain ⟨h1, h2, h3, sv, h4, h5⟩ := h
  exact ⟨h1, h2, h3.only ho fun hk => (hS _ hk).1 rfl, sv, h4.only ho fun hk => (hS _ hk).2.1 rfl, own_only h5 ho fun k hk hk' => by have := (h5.lt k hk).1; have := (hS _ hk').2.2; omega⟩

/-- what a keeper's call does -/
def KeepDone (C D kb vb : Nat) (G : List (Int × Int)) (w : World) (e : Ending) (w' : World) : Prop :=
  e = .returned (.tuple #[]) ∧ Kept C kb vb G w' ∧ Only (fun k => k = vb ∨ (C ≤ k ∧ k < D)) w w'

theorem keepF_yes {x : Int × Int} (h : x.1 < x.2) : keepF x = [x] := by unfold keepF; rw [if_pos h]

theorem new_pair (W : World) (u v : Value) (t : TypeId) : ∀ j x, [u, v][j]? = some x → (W.alloc (.cells #[u, v] t)).cell? ((⟨W.heap.size, 0, none⟩ : Addr).add j) = some x :=
  World.news_of_block (cs := #[u, v]) (heap_alloc_new W _)
theorem pair_one (a b : Int) : ∀ u ∈ [Value.int .i64 a, .int .i64 b], u.oneCell' = true := by
  intro u hu
  simp at hu
  rcases hu with rfl | rfl <;> rfl
theorem grown_row {w w' : World} {g : Nat} {t : TypeId} {cs : Array Value} {row : Option Nat} (h : Row w g t cs) (hg : w.grownBy w' row) (hr : row ≠ some g) : Row w' g t cs :=
  (hg.block g h.inside (fun e => hr e.symm)).trans h

theorem below_only {B : Nat} {w v : World} {S : Nat → Prop} (h : Below B w v) (hs : ∀ k, k < w.heap.size → ¬ S k → k < B) : Only S w v :=
  ⟨h.os, h.tape, h.output, h.size, fun k hk hn => h.block k (hs k hk hn)⟩

theorem keep_done {C D kb vb g cap : Nat} {G : List (Int × Int)} {w W W2 : World} {sv : Value} {a b : Int} {o : Obj} (h1 : kb < C) (h2 : vb < C) (hK : keepF (a, b) = [(a, b)]) (hb : Below w.heap.size w W)
    (hr1 : Row W kb 162 #[.pointer (some ⟨vb, 0, none⟩)])
    (hown : W2.ownsRow C 66 2 (.slice (some ⟨g, 0, none⟩) (G.length + 1) cap) (G.length + 1) (spc G ++ [.int .i64 a, .int .i64 b])) (hgrow : (W.alloc o).drew.grownBy W2 sv.ownBlock)
    (hblk : ∀ k, sv.ownBlock = some k → C ≤ k ∧ k < D) (hrv : Row W2 vb 83 #[sv]) (hrk : Row W2 kb 162 #[.pointer (some ⟨vb, 0, none⟩)]) :
    KeepDone C D kb vb (G ++ keepF (a, b)) w (.returned (.tuple #[])) (W2.setCell ⟨vb, 0, none⟩ (.slice (some ⟨g, 0, none⟩) (G.length + 1) cap)) := by
  have hne : kb ≠ vb := by
    rintro rfl
    unfold Row at hrv hrk
    rw [hrk] at hrv
    injection hrv with hrv
    injection hrv with _ hrv
    exact absurd hrv (by decide)
  have ho : Only (fun k => k = vb ∨ (C ≤ k ∧ k < D)) w W2 := ((below_only (S := fun k => k = vb ∨ (C ≤ k ∧ k < D)) hb (fun k hk _ => hk)).alloc o |>.drew).grown hgrow (fun k hk => .inl (.inr (hblk k hk)))
  refine ⟨rfl, ⟨h1, h2, hrk.elsewhere (p := ⟨vb, 0, none⟩) hne _, _, hrv.written 0 _, ?_⟩, ho.set (p := ⟨vb, 0, none⟩) (.inl (.inl rfl)) _⟩
  rw [hK, spc_append, List.length_append]
  exact own_only hown ((Only.refl (fun k => k = vb) _).set (p := ⟨vb, 0, none⟩) (.inl rfl) _) (fun k hk hS => by have := (hown.lt k hk).1; omega)

set_option maxHeartbeats 1600000 in
theorem keep_any {C kb vb : Nat} {G : List (Int × Int)} {w : World} (D : Nat) (x : Int × Int) (h : Kept C kb vb G w) (hD : ∀ sv k, Row w vb 83 #[sv] → sv.ownBlock = some k → k < D) (hC : C ≤ w.heap.size) (hl : G.length ≤ 100000) :
    Calls Try.prog 175 #[spv x, .pointer (some ⟨kb, 0, none⟩)] w (KeepDone C D kb vb (G ++ keepF x) w) := by
  obtain ⟨a, b⟩ := x
  obtain ⟨h1, h2, h3, sv, h4, h5⟩ := h
  have c1 : w.cell? ⟨kb, 0, none⟩ = some (.pointer (some ⟨vb, 0, none⟩)) := h3.read rfl
  have c2 : w.cell? ⟨vb, 0, none⟩ = some sv := h4.read rfl
  have f2 := h4.free 0
  by_cases hab : a < b
  · obtain ⟨i0, hi, hi0, hi1, hi2⟩ := info66_parts
    have HK := Lib.hid (keepF_yes (x := (a, b)) hab)
    show Calls Try.prog 175 #[.agg #[.int .i64 a, .int .i64 b], _] w _
    go_enter Try.func175, Try.ntmps175
    go_wp2_with (go_at_call 110; refine (some_any (a, b) _).mono ?_; rintro e w1 ⟨rfl, hb⟩)
    have hr1 := (h3.more (.cells #[.int .i64 a, .int .i64 b] 66)).later hb
    have hr2 := (h4.more (.cells #[.int .i64 a, .int .i64 b] 66)).later hb
    have hr3 := (Row.made w 66 #[.int .i64 a, .int .i64 b]).later hb
    have ho := own_only (S := fun _ => False) (h5.alloc (.cells #[.int .i64 a, .int .i64 b] 66)) (.of_below hb) (fun _ _ h => h)
    have hb' := bl_step (bl_alloc (Below.refl _ _) _) hb
    have hsz := hb'.size
    have hap : sv.ownBlock ≠ some vb := fun hk => by have := (h5.lt _ hk).1; omega
    have hblk : ∀ k, sv.ownBlock = some k → C ≤ k ∧ k < D := fun k hk => ⟨(h5.lt k hk).1, hD sv k h4 hk⟩
    have hapk : sv.ownBlock ≠ some kb := fun hk => by have := (h5.lt _ hk).1; omega
    have c1' : w1.cell? ⟨kb, 0, none⟩ = some (.pointer (some ⟨vb, 0, none⟩)) := hr1.read rfl
    have c2' : w1.cell? ⟨vb, 0, none⟩ = some sv := hr2.read rfl
    have f2' := hr2.free 0
    have c3 : w1.cell? ⟨w.heap.size, 0, none⟩ = some (.int .i64 a) := hr3.read rfl
    have c4 : w1.cell? ⟨w.heap.size, 1, none⟩ = some (.int .i64 b) := hr3.read rfl
    clear c1 c2 f2 h3 h4 h5
    have HR1 := Lib.hid hr1
    have HR2 := Lib.hid hr2
    have HB := Lib.hid hb'
    clear hr1 hr2 hr3 hb hb'
    have d1 := (HR1.out.more (.cells #[.int .i64 a, .int .i64 b] 66)).read (i := 0) rfl
    have d2 := (HR2.out.more (.cells #[.int .i64 a, .int .i64 b] 66)).read (i := 0) rfl
    clear hD
    go_region_law ((refine step_append_lies _ rfl (.tmp 8) (.tmp 10) 83 rfl C 66 i0 (.agg #[.int .i64 0, .int .i64 0]) 2 16 Try.underlying83 hi hi0 hi1 hi2 rfl (by omega) sv G.length (spc G) (by simp [Act.eval]) (ho.alloc _) ⟨w1.heap.size, 0, none⟩ 1 1 [.int .i64 a, .int .i64 b] (by simp [Act.eval]) rfl (new_pair _ _ _ _) (pair_one a b) (by omega) (by unfold maxLen; omega) (by omega) (by simp; omega) _ rfl ?_); intro g cap w2 hown hgrow hgg hg2; have hrv := grown_row (HR2.out.drawn.more (.cells #[.int .i64 a, .int .i64 b] 66)) hgrow hap; have fv := hrv.free 0; have cv := hrv.read (i := 0) rfl; have hrk := grown_row (HR1.out.drawn.more (.cells #[.int .i64 a, .int .i64 b] 66)) hgrow hapk; have ck := hrk.read (i := 0) rfl)
    all_goals
      go_end0
      exact keep_done h1 h2 HK.out HB.out HR1.out hown hgrow hblk hrv hrk
  · have HK := Lib.hid (keepF_none (x := (a, b)) hab)
    have H := Lib.hid (show Kept C kb vb G w from ⟨h1, h2, h3, sv, h4, h5⟩)
    show Calls Try.prog 175 #[.agg #[.int .i64 a, .int .i64 b], _] w _
    go_enter Try.func175, Try.ntmps175
    go_wp2_with (go_at_call 110; refine (some_any (a, b) _).mono ?_; rintro e w1 ⟨rfl, hb⟩; have HB := Lib.hid hb)
    go_end0
    have hb' := bl_step (bl_alloc (Below.refl _ _) _) HB.out
    refine ⟨rfl, ?_, .of_below hb'⟩
    rw [HK.out, List.append_nil]
    exact H.out.later (S := fun _ => False) (.of_below hb') (fun _ h => h.elim)
end Go.Proofs.Ytjonkpdjhjobfaa
namespace Go.Proofs.Ytjonkpdjhjobfaa
open Go.RowKit

set_option maxHeartbeats 400000 in
theorem keeper_any (vb : Nat) (w : World) :
    Calls Try.prog 99 #[.pointer (some ⟨vb, 0, none⟩)] w fun e w' => e = .returned (.func (.func 175) #[] #[.pointer (some ⟨w.heap.size, 0, none⟩)]) ∧ w' = w.alloc (.cells #[.pointer (some ⟨vb, 0, none⟩)] 162) := by
  go_enter Try.func99, Try.ntmps99
  go_wp2
  go_ret
  exact ⟨rfl, rfl⟩

theorem only_box {w : World} {o : Obj} {S : Nat → Prop} {p : Addr} {x : Value} (hp : S p.block) : Only S w ((w.alloc o).setCell p x) :=
  ((Only.refl S w).alloc o).set (.inl hp) x

set_option maxHeartbeats 400000 in
theorem count1_any {nb : Nat} {n : Int} {w : World} (y : Int × Int) (h : Row w nb 3 #[.int .i64 n]) (hn : 0 ≤ n ∧ n ≤ 1000000000000) (hy : 0 ≤ y.1 ∧ y.1 ≤ y.2 ∧ y.2 ≤ 65536) :
    Calls Try.prog 105 #[spv y, .pointer (some ⟨nb, 0, none⟩)] w fun e w' => e = .returned (.tuple #[]) ∧ Row w' nb 3 #[.int .i64 (n + (y.2 - y.1))] ∧ Only (fun k => k = nb) w w' := by
  obtain ⟨a, b⟩ := y
  have c0 := (h.more (.cells #[.int .i64 a, .int .i64 b] 66)).read (i := 0) rfl
  have f0 := (h.more (.cells #[.int .i64 a, .int .i64 b] 66)).free 0
  have HR := Lib.hid ((h.more (.cells #[.int .i64 a, .int .i64 b] 66)).written 0 (.int .i64 (n + (b - a))))
  have HO := Lib.hid (only_box (w := w) (o := .cells #[.int .i64 a, .int .i64 b] 66) (S := fun k => k = nb) (p := ⟨nb, 0, none⟩) (x := .int .i64 (n + (b - a))) rfl)
  clear h
  simp only at hy
  show Calls Try.prog 105 #[.agg #[.int .i64 a, .int .i64 b], _] w _
  go_enter Try.func105, Try.ntmps105
  go_wp2
  go_end0
  exact ⟨rfl, HR.out, HO.out⟩

/-- a closure's call that stores a bool -/
def BoolDone (hb : Nat) (v : Bool) (w : World) (e : Ending) (w' : World) : Prop := e = .returned (.tuple #[]) ∧ Row w' hb 4 #[.bool v] ∧ Only (fun k => k = hb) w w'
theorem bool_done {hb : Nat} {h v v' : Bool} {w : World} (hr : Row w hb 4 #[.bool h]) (o : Obj) (he : v = v') : BoolDone hb v w (.returned (.tuple #[])) ((w.alloc o).setCell ⟨hb, 0, none⟩ (.bool v')) := by
  subst he
  exact ⟨rfl, (hr.more o).written 0 (.bool v), only_box rfl⟩

set_option maxHeartbeats 800000 in
theorem has1_any {hb xb : Nat} {h : Bool} {x : Int × Int} {w : World} (y : Int × Int) (v : Bool) (hv : (h || decide (y.1 ≤ x.1 ∧ x.2 ≤ y.2)) = v) (hr : Row w hb 4 #[.bool h]) (hx : Row w xb 66 #[.int .i64 x.1, .int .i64 x.2]) :
    Calls Try.prog 108 #[spv y, .pointer (some ⟨hb, 0, none⟩), .pointer (some ⟨xb, 0, none⟩)] w (BoolDone hb v w) := by
  obtain ⟨a, b⟩ := y
  obtain ⟨c, d⟩ := x
  have c0 := (hr.more (.cells #[.int .i64 a, .int .i64 b] 66)).read (i := 0) rfl
  have f0 := (hr.more (.cells #[.int .i64 a, .int .i64 b] 66)).free 0
  have k1 := (hx.more (.cells #[.int .i64 a, .int .i64 b] 66)).read (i := 0) rfl
  have k2 := (hx.more (.cells #[.int .i64 a, .int .i64 b] 66)).read (i := 1) rfl
  have HD := Lib.hid (fun v v' (h : v = v') => bool_done (v := v) (v' := v') hr (.cells #[.int .i64 a, .int .i64 b] 66) h)
  clear hr hx
  show Calls Try.prog 108 #[.agg #[.int .i64 a, .int .i64 b], _, _] w _
  cases h
  · by_cases h1 : a ≤ c
    · by_cases h2 : d ≤ b
      · obtain rfl : v = true := by rw [← hv]; simp [h1, h2]
        clear hv
        go_enter Try.func108, Try.ntmps108
        go_wp2
        go_end0
        exact HD.out _ _ rfl
      · obtain rfl : v = false := by rw [← hv]; simp [h2]
        clear hv
        go_enter Try.func108, Try.ntmps108
        go_wp2
        go_end0
        exact HD.out _ _ rfl
    · obtain rfl : v = false := by rw [← hv]; simp [h1]
      clear hv
      go_enter Try.func108, Try.ntmps108
      go_wp2
      go_end0
      exact HD.out _ _ rfl
  · obtain rfl : v = true := by rw [← hv]; simp []
    clear hv
    go_enter Try.func108, Try.ntmps108
    go_wp2
    go_end0
    exact HD.out _ _ rfl

set_option maxHeartbeats 800000 in
theorem tou1_any {hb xb : Nat} {h : Bool} {x : Int × Int} {w : World} (y : Int × Int) (v : Bool) (hv : (h || decide (y.1 < x.2 ∧ x.1 < y.2)) = v) (hr : Row w hb 4 #[.bool h]) (hx : Row w xb 66 #[.int .i64 x.1, .int .i64 x.2]) :
    Calls Try.prog 109 #[spv y, .pointer (some ⟨hb, 0, none⟩), .pointer (some ⟨xb, 0, none⟩)] w (BoolDone hb v w) := by
  obtain ⟨a, b⟩ := y
  obtain ⟨c, d⟩ := x
  have c0 := (hr.more (.cells #[.int .i64 a, .int .i64 b] 66)).read (i := 0) rfl
  have f0 := (hr.more (.cells #[.int .i64 a, .int .i64 b] 66)).free 0
  have k1 := (hx.more (.cells #[.int .i64 a, .int .i64 b] 66)).read (i := 0) rfl
  have k2 := (hx.more (.cells #[.int .i64 a, .int .i64 b] 66)).read (i := 1) rfl
  have HD := Lib.hid (fun v v' (h : v = v') => bool_done (v := v) (v' := v') hr (.cells #[.int .i64 a, .int .i64 b] 66) h)
  clear hr hx
  show Calls Try.prog 109 #[.agg #[.int .i64 a, .int .i64 b], _, _] w _
  cases h
  · by_cases h1 : a < d
    · by_cases h2 : c < b
      · obtain rfl : v = true := by rw [← hv]; simp [h1, h2]
        clear hv
        go_enter Try.func109, Try.ntmps109
        go_wp2
        go_end0
        exact HD.out _ _ rfl
      · obtain rfl : v = false := by rw [← hv]; simp [h2]
        clear hv
        go_enter Try.func109, Try.ntmps109
        go_wp2
        go_end0
        exact HD.out _ _ rfl
    · obtain rfl : v = false := by rw [← hv]; simp [h1]
      clear hv
      go_enter Try.func109, Try.ntmps109
      go_wp2
      go_end0
      exact HD.out _ _ rfl
  · obtain rfl : v = true := by rw [← hv]; simp []
    clear hv
    go_enter Try.func109, Try.ntmps109
    go_wp2
    go_end0
    exact HD.out _ _ rfl

/-- a keeper's variables and others: a variable fb of the keeper itself, the span x at block xb, a number at block nb -/
def KeptW (C kb vb fb : Nat) (G : List (Int × Int)) (w : World) : Prop :=
  fb < C ∧ Row w fb 160 #[.func (.func 175) #[] #[.pointer (some ⟨kb, 0, none⟩)]] ∧ Kept C kb vb G w

theorem Kept.ne {C kb vb : Nat} {G : List (Int × Int)} {w : World} (h : Kept C kb vb G w) {g : Nat} {t : TypeId} {cs : Array Value} (hr : Row w g t cs) (h1 : t ≠ 162) (h2 : t ≠ 83) : g ≠ kb ∧ g ≠ vb := by
  obtain ⟨_, _, k1, sv, k2, _⟩ := h
  exact ⟨hr.apart k1 h1, hr.apart k2 h2⟩
theorem KeptW.done {C kb vb fb : Nat} {G G' : List (Int × Int)} {w w' : World} {e : Ending} (h : KeptW C kb vb fb G w) {D : Nat} (hd : KeepDone C D kb vb G' w e w') : KeptW C kb vb fb G' w' := by
  obtain ⟨h1, h2, h3⟩ := h
  obtain ⟨_, h4, h5⟩ := hd
  exact ⟨h1, h2.only h5 (fun hk => by
    rcases hk with hk | hk
    · exact (h3.ne h2 (by decide) (by decide)).2 hk
    · omega), h4⟩
theorem KeptW.own {C kb vb fb : Nat} {G : List (Int × Int)} {w : World} (h : KeptW C kb vb fb G w) : ∀ sv k, Row w vb 83 #[sv] → sv.ownBlock = some k → k < w.heap.size := by
  obtain ⟨_, _, _, _, _, sv, h1, h2⟩ := h
  intro sv' k hr hk
  unfold Row at h1 hr
  rw [h1] at hr
  injection hr with hr
  injection hr with hr _
  injection hr with hr
  injection hr with hr _
  subst hr
  exact (h2.lt k hk).2
theorem KeptW.own1 {C kb vb fb : Nat} {G : List (Int × Int)} {w : World} (h : KeptW C kb vb fb G w) (o : Obj) : ∀ sv k, Row (w.alloc o) vb 83 #[sv] → sv.ownBlock = some k → k < w.heap.size := by
  intro sv k hr hk
  refine h.own sv k ?_ hk
  obtain ⟨_, _, _, _, _, sv, h1, h2⟩ := h
  have := h1.more o
  unfold Row at this hr h1 ⊢
  rw [this] at hr
  rw [h1]
  exact hr
theorem KeptW.later {C kb vb fb : Nat} {G : List (Int × Int)} {w w' : World} (h : KeptW C kb vb fb G w) (hb : Below w.heap.size w w') : KeptW C kb vb fb G w' :=
  ⟨h.1, h.2.1.later hb, h.2.2.later (S := fun _ => False) (.of_below hb) (fun _ h => h.elim)⟩

/-- what a closure over a keeper does: x at block xb stays -/
def Kept1 (C kb vb fb xb : Nat) (x : Int × Int) (G : List (Int × Int)) (w : World) (e : Ending) (w' : World) : Prop :=
  e = .returned (.tuple #[]) ∧ KeptW C kb vb fb G w' ∧ Row w' xb 66 #[.int .i64 x.1, .int .i64 x.2] ∧ Only (fun k => k = vb ∨ C ≤ k) w w'

set_option maxHeartbeats 1600000 in
theorem take1_any {C kb vb fb xb : Nat} {G : List (Int × Int)} {x : Int × Int} {w : World} (y : Int × Int) (h : KeptW C kb vb fb G w) (hx : Row w xb 66 #[.int .i64 x.1, .int .i64 x.2]) (hxC : xb < C) (hC : C ≤ w.heap.size) (hl : G.length ≤ 50000) :
    Calls Try.prog 101 #[spv y, .pointer (some ⟨fb, 0, none⟩), .pointer (some ⟨xb, 0, none⟩)] w (Kept1 C kb vb fb xb x (G ++ takeY x y) w) := by
  obtain ⟨a, b⟩ := y
  obtain ⟨c, d⟩ := x
  have h1 := h.later (bl_alloc (Below.refl _ _) (.cells #[.int .i64 a, .int .i64 b] 66))
  have hx1 := hx.more (.cells #[.int .i64 a, .int .i64 b] 66)
  have hy1 := Row.made w 66 #[.int .i64 a, .int .i64 b]
  have HB := Lib.hid (show Only (fun k => k = vb ∨ C ≤ k) w (w.alloc (.cells #[.int .i64 a, .int .i64 b] 66)) from (Only.refl _ _).alloc _)
  have HOWN := Lib.hid (h.own1 (.cells #[.int .i64 a, .int .i64 b] 66))
  have g0 := h1.2.1.read (i := 0) rfl
  have g1 := hx1.read (i := 0) rfl
  have g2 := hx1.read (i := 1) rfl
  have H1 := Lib.hid h1
  have HX1 := Lib.hid hx1
  have HY1 := Lib.hid hy1
  have hne := (h1.2.2.ne hx1 (by decide) (by decide)).2
  have hney := (h1.2.2.ne hy1 (by decide) (by decide)).2
  clear h hx h1 hx1 hy1
  have htk : G ++ takeY (c, d) (a, b) = (G ++ keepF (a, min b c)) ++ keepF (max a d, b) := by simp [takeY]
  have HT := Lib.hid htk
  clear htk
  have hk1 := keepF_len (a, min b c)
  show Calls Try.prog 101 #[.agg #[.int .i64 a, .int .i64 b], _, _] w _
  rcases Int.lt_or_le c b with m1 | m1
  all_goals rcases Int.lt_or_le a d with m2 | m2
  all_goals
    first | have hmin : min b c = c := by omega | have hmin : min b c = b := by omega
    first | have hmax : max a d = d := by omega | have hmax : max a d = a := by omega
    rw [hmin, hmax] at HT
    rw [hmin] at hk1
    clear hmin hmax
    go_enter Try.func101, Try.ntmps101
    go_wp2_with fail
    refine (keep_any w.heap.size (a, _) H1.out.2.2 HOWN.out (by simp; omega) (by omega)).mono ?_
    rintro e w1 hd
    obtain rfl := hd.1
    have hsz := hd.2.2.size
    have H2 := Lib.hid (H1.out.done hd)
    have HO2 := Lib.hid hd.2.2
    have hx2 := HX1.out.only HO2.out (by omega)
    have hy2 := HY1.out.only HO2.out (by omega)
    have p0 := H2.out.2.1.read (i := 0) rfl
    have p1 := hx2.read (i := 0) rfl
    have p2 := hx2.read (i := 1) rfl
    have p3 := hy2.read (i := 0) rfl
    have p4 := hy2.read (i := 1) rfl
    have HX2 := Lib.hid hx2
    clear hd hx2 hy2 g0 g1 g2
    simp at hsz
    go_wp2_with fail
    refine (keep_any w1.heap.size (_, b) H2.out.2.2 H2.out.own (by omega) (by simp; omega)).mono ?_
    rintro e w2 hd
    obtain rfl := hd.1
    have H3 := Lib.hid (H2.out.done hd)
    have HO3 := Lib.hid hd.2.2
    clear hd
    go_wp2_with fail
    go_end0
    exact ⟨rfl, by rw [HT.out]; exact H3.out, HX2.out.only HO3.out (by omega), (HB.out.andThen HO2.out (fun k _ hk => by omega)).andThen HO3.out (fun k _ hk => by omega)⟩

set_option maxHeartbeats 1600000 in
theorem gaps1_any {C kb vb fb nb tb : Nat} {G : List (Int × Int)} {f to : Int} {w : World} (y : Int × Int) (h : KeptW C kb vb fb G w) (hn : Row w nb 3 #[.int .i64 f]) (ht : Row w tb 3 #[.int .i64 to]) (hnC : nb < C) (htC : tb < C) (hnt : tb ≠ nb) (hC : C ≤ w.heap.size) (hl : G.length ≤ 50000) :
    Calls Try.prog 107 #[spv y, .pointer (some ⟨fb, 0, none⟩), .pointer (some ⟨nb, 0, none⟩), .pointer (some ⟨tb, 0, none⟩)] w fun e w' => e = .returned (.tuple #[]) ∧ KeptW C kb vb fb (G ++ keepF (f, min y.1 to)) w' ∧ Row w' nb 3 #[.int .i64 y.2] ∧ Row w' tb 3 #[.int .i64 to] ∧ Only (fun k => k = vb ∨ k = nb ∨ C ≤ k) w w' := by
  obtain ⟨a, b⟩ := y
  have h1 := h.later (bl_alloc (Below.refl _ _) (.cells #[.int .i64 a, .int .i64 b] 66))
  have hn1 := hn.more (.cells #[.int .i64 a, .int .i64 b] 66)
  have ht1 := ht.more (.cells #[.int .i64 a, .int .i64 b] 66)
  have hy1 := Row.made w 66 #[.int .i64 a, .int .i64 b]
  have HB := Lib.hid (show Only (fun k => k = vb ∨ k = nb ∨ C ≤ k) w (w.alloc (.cells #[.int .i64 a, .int .i64 b] 66)) from (Only.refl _ _).alloc _)
  have HOWN := Lib.hid (h.own1 (.cells #[.int .i64 a, .int .i64 b] 66))
  have g0 := h1.2.1.read (i := 0) rfl
  have g1 := hn1.read (i := 0) rfl
  have g2 := ht1.read (i := 0) rfl
  have H1 := Lib.hid h1
  have HN1 := Lib.hid hn1
  have HT1 := Lib.hid ht1
  have HY1 := Lib.hid hy1
  have hne := (h1.2.2.ne hn1 (by decide) (by decide))
  have hne2 := (h1.2.2.ne ht1 (by decide) (by decide))
  have hney := (h1.2.2.ne hy1 (by decide) (by decide)).2
  have hnf : nb ≠ fb := hn1.apart h1.2.1 (by decide)
  clear h hn ht h1 hn1 ht1 hy1
  have hmin : min a to = if a ≤ to then a else to := rfl
  have HG := Lib.hid (show G ++ keepF (f, min a to) = G ++ keepF (f, min a to) from rfl)
  show Calls Try.prog 107 #[.agg #[.int .i64 a, .int .i64 b], _, _, _] w _
  rcases Int.lt_or_le to a with m1 | m1
  all_goals
    first | rw [if_neg (by omega)] at hmin | rw [if_pos (by omega)] at hmin
    have HM := Lib.hid hmin
    clear hmin
    go_enter Try.func107, Try.ntmps107
    go_wp2_with fail
    refine (keep_any w.heap.size (f, _) H1.out.2.2 HOWN.out (by simp; omega) (by omega)).mono ?_
    rintro e w1 hd
    obtain rfl := hd.1
    have hsz := hd.2.2.size
    have H2 := Lib.hid (H1.out.done hd)
    have HO2 := Lib.hid hd.2.2
    have hn2 := HN1.out.only HO2.out (by omega)
    have ht2 := HT1.out.only HO2.out (by omega)
    have hy2 := HY1.out.only HO2.out (by omega)
    have p1 := hn2.read (i := 0) rfl
    have p3 := hy2.read (i := 0) rfl
    have p4 := hy2.read (i := 1) rfl
    have fn := hn2.free 0
    have HN2 := Lib.hid (hn2.written 0 (.int .i64 b))
    have HT2 := Lib.hid (ht2.elsewhere (p := ⟨nb, 0, none⟩) hnt (.int .i64 b))
    have HO3 := Lib.hid (show Only (fun k => k = nb) w1 (w1.setCell ⟨nb, 0, none⟩ (.int .i64 b)) from (Only.refl (fun k => k = nb) _).set (p := ⟨nb, 0, none⟩) (.inl rfl) _)
    have H3 := Lib.hid (show KeptW C kb vb fb (G ++ keepF (f, min a to)) (w1.setCell ⟨nb, 0, none⟩ (.int .i64 b)) from
      ⟨H2.out.1, H2.out.2.1.only HO3.out (fun e => hnf e.symm), by rw [HM.out]; exact H2.out.2.2.later HO3.out (fun k hk => by subst hk; exact ⟨hne.1, hne.2, hnC⟩)⟩)
    clear hd hn2 hy2 ht2 g0 g1 g2
    go_wp2_with fail
    go_end0
    refine ⟨rfl, H3.out, HN2.out, HT2.out, (HB.out.andThen HO2.out (fun k _ hk => ?_)).andThen HO3.out (fun k _ hk => ?_)⟩
    · rcases hk with hk | hk
      · exact .inl hk
      · exact .inr (.inr hk.1)
    · exact .inr (.inl hk)
end Go.Proofs.Ytjonkpdjhjobfaa
namespace Go.Proofs.Ytjonkpdjhjobfaa
open Go.RowKit

theorem made1 (w : World) (o : Obj) (t : TypeId) (cs : Array Value) : Row ((w.alloc o).alloc (.cells cs t)) (w.heap.size + 1) t cs := by
  have := Row.made (w.alloc o) t cs
  simpa using this
theorem made2 (w : World) (o o' : Obj) (t : TypeId) (cs : Array Value) : Row (((w.alloc o).alloc o').alloc (.cells cs t)) (w.heap.size + 2) t cs := by
  have := made1 (w.alloc o) o' t cs
  simpa using this
theorem take_snoc {α : Type} {L : List α} {k : Nat} {y : α} (h : L[k]? = some y) : L.take (k + 1) = L.take k ++ [y] := by
  rw [List.take_add_one, h]
  rfl
theorem bl_only {B : Nat} {S : Nat → Prop} {w a b : World} (h : Below B w a) (ho : Only S a b) (hS : ∀ k, k < B → ¬ S k) (hB : B ≤ a.heap.size) : Below B w b := h.trans (ho.below hB hS)
theorem countF_le {L : List (Int × Int)} (h : ∀ y ∈ L, 0 ≤ y.1 ∧ y.1 ≤ y.2 ∧ y.2 ≤ 65536) : 0 ≤ countF L ∧ countF L ≤ 65536 * L.length := by
  induction L with
  | nil => simp [countF_nil]
  | cons y r ih =>
    have h1 := h y (List.mem_cons_self ..)
    have h2 := ih fun z hz => h z (List.mem_cons_of_mem _ hz)
    rw [countF_cons]
    simp
    omega
theorem Norm.each {L : List (Int × Int)} (h : Norm 0 L) : ∀ y ∈ L, 0 ≤ y.1 ∧ y.1 ≤ y.2 ∧ y.2 ≤ 65536 := fun y hy => by have := h.mem hy; omega
theorem Norm.at_ {L : List (Int × Int)} (h : Norm 0 L) {k : Nat} {y : Int × Int} (hy : L[k]? = some y) : 0 ≤ y.1 ∧ y.1 ≤ y.2 ∧ y.2 ≤ 65536 := h.each y (List.mem_of_getElem? hy)

theorem each_count {B p nb : Nat} {sv : Value} {L : List (Int × Int)} {w0 w : World} (hr : SRep B w0 p sv L) (hn : Norm 0 L) (hl : L.length ≤ 100000) (hb : Below w0.heap.size w0 w) (hnb : w0.heap.size ≤ nb) (hrow : Row w nb 3 #[.int .i64 0]) :
    Calls Try.prog 100 #[.pointer (some ⟨p, 0, none⟩), .func (.func 105) #[] #[.pointer (some ⟨nb, 0, none⟩)]] w fun e w' => e = .returned (.tuple #[]) ∧ Row w' nb 3 #[.int .i64 (countF L)] ∧ Below w0.heap.size w0 w' := by
  refine (seach_any (B := B) (sv := sv) (L := L) (by omega) (fun k W => Row W nb 3 #[.int .i64 (countF (L.take k))] ∧ Below w0.heap.size w0 W) w ⟨by simpa [countF_nil] using hrow, hb⟩ (fun k W h => hr.later h.2) (fun k W y hy h => ?_)).mono (fun e w' h => ⟨h.1, by simpa using h.2.1, h.2.2⟩)
  have hc := countF_le (L := L.take k) (fun z hz => hn.each z (List.mem_of_mem_take hz))
  have hk : (L.take k).length ≤ L.length := by simp; omega
  refine (count1_any y h.1 (by omega) (hn.at_ hy)).mono ?_
  rintro e w' ⟨rfl, h1, h2⟩
  refine ⟨rfl, ?_, bl_only h.2 h2 (fun k hk => by omega) h.2.size⟩
  rw [take_snoc hy, countF_snoc]
  exact h1

set_option maxHeartbeats 400000 in
theorem count_any {B p : Nat} {sv : Value} {L : List (Int × Int)} {w : World} (hr : SRep B w p sv L) (hn : Norm 0 L) (hl : L.length ≤ 100000) :
    Calls Try.prog 31 #[.pointer (some ⟨p, 0, none⟩)] w fun e w' => e = .returned (.int .i64 (countF L)) ∧ Below w.heap.size w w' := by
  have HE := Lib.hid (fun w1 => each_count (w := w1) (nb := w.heap.size) hr hn hl)
  have HR := Lib.hid hr
  clear hr
  go_enter Try.func31, Try.ntmps31
  go_wp2_with fail
  refine (HE.out _ ?_ (Nat.le_refl _) ?_).mono ?_
  · exact bl_alloc (Below.refl _ _) _
  · exact Row.made _ _ _
  rintro e w1 ⟨rfl, h1, hb⟩
  have c0 := h1.read (i := 0) rfl
  have HB := Lib.hid hb
  clear h1 hb
  go_wp2
  go_ret
  exact ⟨rfl, HB.out⟩

theorem each_has {B p hb xb : Nat} {sv : Value} {L : List (Int × Int)} {x : Int × Int} {w0 w : World} (hr : SRep B w0 p sv L) (hbl : Below w0.heap.size w0 w) (hnb : w0.heap.size ≤ hb) (hrow : Row w hb 4 #[.bool false]) (hx : Row w xb 66 #[.int .i64 x.1, .int .i64 x.2]) :
    Calls Try.prog 100 #[.pointer (some ⟨p, 0, none⟩), .func (.func 108) #[] #[.pointer (some ⟨hb, 0, none⟩), .pointer (some ⟨xb, 0, none⟩)]] w fun e w' => e = .returned (.tuple #[]) ∧ Row w' hb 4 #[.bool (hasF x L)] ∧ Row w' xb 66 #[.int .i64 x.1, .int .i64 x.2] ∧ Below w0.heap.size w0 w' := by
  refine (seach_any (B := B) (sv := sv) (L := L) (by omega) (fun k W => Row W hb 4 #[.bool (hasF x (L.take k))] ∧ Row W xb 66 #[.int .i64 x.1, .int .i64 x.2] ∧ Below w0.heap.size w0 W) w ⟨by simpa [hasF] using hrow, hx, hbl⟩ (fun k W h => hr.later h.2.2) (fun k W y hy h => ?_)).mono (fun e w' h => ⟨h.1, by simpa using h.2.1, h.2.2⟩)
  refine (has1_any y (hasF x (L.take (k + 1))) (by rw [take_snoc hy]; simp [hasF]) h.1 h.2.1).mono ?_
  rintro e w' ⟨rfl, h1, h2⟩
  exact ⟨rfl, h1, h.2.1.only h2 (fun e => h.1.apart h.2.1 (by decide) e.symm), bl_only h.2.2 h2 (fun k hk => by omega) h.2.2.size⟩
theorem each_tou {B p hb xb : Nat} {sv : Value} {L : List (Int × Int)} {x : Int × Int} {w0 w : World} (hr : SRep B w0 p sv L) (hbl : Below w0.heap.size w0 w) (hnb : w0.heap.size ≤ hb) (hrow : Row w hb 4 #[.bool false]) (hx : Row w xb 66 #[.int .i64 x.1, .int .i64 x.2]) :
    Calls Try.prog 100 #[.pointer (some ⟨p, 0, none⟩), .func (.func 109) #[] #[.pointer (some ⟨hb, 0, none⟩), .pointer (some ⟨xb, 0, none⟩)]] w fun e w' => e = .returned (.tuple #[]) ∧ Row w' hb 4 #[.bool (touF x L)] ∧ Row w' xb 66 #[.int .i64 x.1, .int .i64 x.2] ∧ Below w0.heap.size w0 w' := by
  refine (seach_any (B := B) (sv := sv) (L := L) (by omega) (fun k W => Row W hb 4 #[.bool (touF x (L.take k))] ∧ Row W xb 66 #[.int .i64 x.1, .int .i64 x.2] ∧ Below w0.heap.size w0 W) w ⟨by simpa [touF] using hrow, hx, hbl⟩ (fun k W h => hr.later h.2.2) (fun k W y hy h => ?_)).mono (fun e w' h => ⟨h.1, by simpa using h.2.1, h.2.2⟩)
  refine (tou1_any y (touF x (L.take (k + 1))) (by rw [take_snoc hy]; simp [touF]) h.1 h.2.1).mono ?_
  rintro e w' ⟨rfl, h1, h2⟩
  exact ⟨rfl, h1, h.2.1.only h2 (fun e => h.1.apart h.2.1 (by decide) e.symm), bl_only h.2.2 h2 (fun k hk => by omega) h.2.2.size⟩

set_option maxHeartbeats 800000 in
theorem has_any {B p : Nat} {sv : Value} {L : List (Int × Int)} {w : World} (x : Int × Int) (hr : SRep B w p sv L) (v : Bool) (hv : (hasF x L && srightB x) = v) :
    Calls Try.prog 40 #[.pointer (some ⟨p, 0, none⟩), spv x] w fun e w' => e = .returned (.bool v) ∧ Below w.heap.size w w' := by
  obtain ⟨a, b⟩ := x
  have HE := Lib.hid (fun w1 => each_has (w := w1) (hb := w.heap.size + 1) (xb := w.heap.size) (x := (a, b)) hr)
  have HV := Lib.hid hv
  clear hr hv
  show Calls Try.prog 40 #[_, .agg #[.int .i64 a, .int .i64 b]] w _
  generalize hasF (a, b) L = h at *
  go_enter Try.func40, Try.ntmps40
  go_wp2_with fail
  refine (HE.out _ ?_ (by omega) ?_ ?_).mono ?_
  · exact bl_alloc (bl_alloc (Below.refl _ _) _) _
  · exact made1 _ _ _ _
  · exact (Row.made _ _ _).more _
  rintro e w1 ⟨rfl, h1, h2, hb⟩
  have c0 := h1.read (i := 0) rfl
  have c1 := h2.read (i := 0) rfl
  have c2 := h2.read (i := 1) rfl
  have HB := Lib.hid hb
  clear h1 h2 hb
  cases h
  · have HV' := Lib.hid (show false = v by rw [← HV.out]; rfl)
    go_wp2
    go_ret
    exact ⟨ret_bool HV'.out, HB.out⟩
  · have HV' := Lib.hid (show srightB (a, b) = v by rw [← HV.out]; simp)
    go_wp2_with (go_at_call 42; refine (right_any (a, b) _).mono ?_; rintro e w2 ⟨rfl, hb2⟩)
    go_ret
    exact ⟨ret_bool HV'.out, bl_step HB.out hb2⟩
set_option maxHeartbeats 800000 in
theorem tou_any {B p : Nat} {sv : Value} {L : List (Int × Int)} {w : World} (x : Int × Int) (hr : SRep B w p sv L) (v : Bool) (hv : (touF x L && srightB x) = v) :
    Calls Try.prog 41 #[.pointer (some ⟨p, 0, none⟩), spv x] w fun e w' => e = .returned (.bool v) ∧ Below w.heap.size w w' := by
  obtain ⟨a, b⟩ := x
  have HE := Lib.hid (fun w1 => each_tou (w := w1) (hb := w.heap.size + 1) (xb := w.heap.size) (x := (a, b)) hr)
  have HV := Lib.hid hv
  clear hr hv
  show Calls Try.prog 41 #[_, .agg #[.int .i64 a, .int .i64 b]] w _
  generalize touF (a, b) L = h at *
  go_enter Try.func41, Try.ntmps41
  go_wp2_with fail
  refine (HE.out _ ?_ (by omega) ?_ ?_).mono ?_
  · exact bl_alloc (bl_alloc (Below.refl _ _) _) _
  · exact made1 _ _ _ _
  · exact (Row.made _ _ _).more _
  rintro e w1 ⟨rfl, h1, h2, hb⟩
  have c0 := h1.read (i := 0) rfl
  have c1 := h2.read (i := 0) rfl
  have c2 := h2.read (i := 1) rfl
  have HB := Lib.hid hb
  clear h1 h2 hb
  cases h
  · have HV' := Lib.hid (show false = v by rw [← HV.out]; rfl)
    go_wp2
    go_ret
    exact ⟨ret_bool HV'.out, HB.out⟩
  · have HV' := Lib.hid (show srightB (a, b) = v by rw [← HV.out]; simp)
    go_wp2_with (go_at_call 42; refine (right_any (a, b) _).mono ?_; rintro e w2 ⟨rfl, hb2⟩)
    go_ret
    exact ⟨ret_bool HV'.out, bl_step HB.out hb2⟩

/-! of nil -/
set_option maxHeartbeats 400000 in
theorem count_nil (w : World) : Calls Try.prog 31 #[.pointer none] w fun e w' => e = .returned (.int .i64 0) ∧ Below w.heap.size w w' := by
  go_enter Try.func31, Try.ntmps31
  go_wp2_with (go_at_call 100; refine (each_nil _ _).mono ?_; rintro e _ ⟨rfl, rfl⟩)
  go_ret
  exact ⟨rfl, bl_alloc (Below.refl _ _) _⟩
set_option maxHeartbeats 400000 in
theorem has_nil (x : Int × Int) (w : World) : Calls Try.prog 40 #[.pointer none, spv x] w fun e w' => e = .returned (.bool false) ∧ Below w.heap.size w w' := by
  unfold spv
  go_enter Try.func40, Try.ntmps40
  go_wp2_with (go_at_call 100; refine (each_nil _ _).mono ?_; rintro e _ ⟨rfl, rfl⟩)
  go_ret
  exact ⟨rfl, bl_alloc (bl_alloc (Below.refl _ _) _) _⟩
set_option maxHeartbeats 400000 in
theorem tou_nil (x : Int × Int) (w : World) : Calls Try.prog 41 #[.pointer none, spv x] w fun e w' => e = .returned (.bool false) ∧ Below w.heap.size w w' := by
  unfold spv
  go_enter Try.func41, Try.ntmps41
  go_wp2_with (go_at_call 100; refine (each_nil _ _).mono ?_; rintro e _ ⟨rfl, rfl⟩)
  go_ret
  exact ⟨rfl, bl_alloc (bl_alloc (Below.refl _ _) _) _⟩
set_option maxHeartbeats 400000 in
theorem spans_nil (w : World) : Calls Try.prog 36 #[.pointer none] w fun e w' => e = .returned (.slice none 0 0) ∧ w = w' := by
  go_enter Try.func36, Try.ntmps36
  go_wp2
  go_ret
  exact ⟨rfl, rfl⟩
set_option maxHeartbeats 400000 in
theorem gaps_nil (to : Int) (w : World) : Calls Try.prog 38 #[.pointer none, .int .i64 to] w fun e w' => e = .returned (.slice none 0 0) ∧ Below w.heap.size w w' := by
  go_enter Try.func38, Try.ntmps38
  go_wp2
  go_ret
  exact ⟨rfl, bl_alloc (Below.refl _ _) _⟩
set_option maxHeartbeats 400000 in
theorem add_nil (x : Int × Int) (w : World) : Calls Try.prog 29 #[.pointer none, spv x] w fun e w' => e = .returned (.int .i64 6) ∧ Below w.heap.size w w' := by
  obtain ⟨a, b⟩ := x
  show Calls Try.prog 29 #[_, .agg #[.int .i64 a, .int .i64 b]] w _
  go_enter Try.func29, Try.ntmps29
  go_wp2_with (go_at_call 98; refine (fault_nil (a, b) _).mono ?_; rintro e w1 ⟨rfl, hb⟩)
  go_ret
  exact ⟨rfl, bl_step (bl_alloc (Below.refl _ _) _) hb⟩
set_option maxHeartbeats 400000 in
theorem take_nil (x : Int × Int) (w : World) : Calls Try.prog 28 #[.pointer none, spv x] w fun e w' => e = .returned (.int .i64 6) ∧ Below w.heap.size w w' := by
  obtain ⟨a, b⟩ := x
  show Calls Try.prog 28 #[_, .agg #[.int .i64 a, .int .i64 b]] w _
  go_enter Try.func28, Try.ntmps28
  go_wp2_with (go_at_call 98; refine (fault_nil (a, b) _).mono ?_; rintro e w1 ⟨rfl, hb⟩)
  go_ret
  exact ⟨rfl, bl_step (bl_alloc (Below.refl _ _) _) hb⟩
set_option maxHeartbeats 400000 in
theorem add_arg (p : Nat) (x : Int × Int) (w : World) (h : srightB x = false) : Calls Try.prog 29 #[.pointer (some ⟨p, 0, none⟩), spv x] w fun e w' => e = .returned (.int .i64 1) ∧ Below w.heap.size w w' := by
  obtain ⟨a, b⟩ := x
  have H := Lib.hid h
  clear h
  show Calls Try.prog 29 #[_, .agg #[.int .i64 a, .int .i64 b]] w _
  go_enter Try.func29, Try.ntmps29
  go_wp2_with (go_at_call 98; refine (fault_arg p (a, b) _ H.out).mono ?_; rintro e w1 ⟨rfl, hb⟩)
  go_ret
  exact ⟨rfl, bl_step (bl_alloc (Below.refl _ _) _) hb⟩
set_option maxHeartbeats 400000 in
theorem take_arg (p : Nat) (x : Int × Int) (w : World) (h : srightB x = false) : Calls Try.prog 28 #[.pointer (some ⟨p, 0, none⟩), spv x] w fun e w' => e = .returned (.int .i64 1) ∧ Below w.heap.size w w' := by
  obtain ⟨a, b⟩ := x
  have H := Lib.hid h
  clear h
  show Calls Try.prog 28 #[_, .agg #[.int .i64 a, .int .i64 b]] w _
  go_enter Try.func28, Try.ntmps28
  go_wp2_with (go_at_call 98; refine (fault_arg p (a, b) _ H.out).mono ?_; rintro e w1 ⟨rfl, hb⟩)
  go_ret
  exact ⟨rfl, bl_step (bl_alloc (Below.refl _ _) _) hb⟩
end Go.Proofs.Ytjonkpdjhjobfaa
