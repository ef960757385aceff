/-
  The closures of package spans: what each does to the variables that it captured.
-/
import Derived.Test.YtmaefeckkodllaaSpans
import Derived.Deep.RegionLaw
import Derived.Deep.AppendLies
namespace Go.Proofs.Ytmaefeckkodllaa
open Go.RowKit

/-- a keeper's variables: kb holds the pointer to vb, vb the slice of the spans G, whose memory lies from C on -/
def Kept (C kb vb : Nat) (G : List (Int × Int)) (w : World) : Prop :=
  kb < C ∧ vb < C ∧ Row w kb 91 #[.pointer (some ⟨vb, 0, none⟩)] ∧ ∃ sv, Row w vb 45 #[sv] ∧ w.ownsRow C 24 2 sv G.length (spc G)

theorem Kept.later {C kb vb : Nat} {G : List (Int × Int)} {w v : World} {S : Nat → Prop} (h : Kept C kb vb G w) (ho : Only S w v) (hS : ∀ k, S k → k ≠ kb ∧ k ≠ vb ∧ k < C) : Kept C kb vb G v := by
  obtain ⟨h1, h2, h3, sv, h4, h5⟩ := h
  exact ⟨h1, h2, h3.only ho fun hk => (hS _ hk).1 rfl, sv, h4.only ho fun hk => (hS _ hk).2.1 rfl, own_only h5 ho fun k hk hk' => by have := (h5.lt k hk).1; have := (hS _ hk').2.2; omega⟩

/-- what a keeper's call does -/
def KeepDone (C D kb vb : Nat) (G : List (Int × Int)) (w : World) (e : Ending) (w' : World) : Prop :=
  e = .returned (.tuple #[]) ∧ Kept C kb vb G w' ∧ Only (fun k => k = vb ∨ (C ≤ k ∧ k < D)) w w'

theorem keepF_yes {x : Int × Int} (h : x.1 < x.2) : keepF x = [x] := by unfold keepF; rw [if_pos h]

theorem new_pair (W : World) (u v : Value) (t : TypeId) : ∀ j x, [u, v][j]? = some x → (W.alloc (.cells #[u, v] t)).cell? ((⟨W.heap.size, 0, none⟩ : Addr).add j) = some x :=
  World.news_of_block (cs := #[u, v]) (heap_alloc_new W _)
theorem pair_one (a b : Int) : ∀ u ∈ [Value.int .i64 a, .int .i64 b], u.oneCell' = true := by
  intro u hu
  simp at hu
  rcases hu with rfl | rfl <;> rfl
theorem grown_row {w w' : World} {g : Nat} {t : TypeId} {cs : Array Value} {row : Option Nat} (h : Row w g t cs) (hg : w.grownBy w' row) (hr : row ≠ some g) : Row w' g t cs :=
  (hg.block g h.inside (fun e => hr e.symm)).trans h

theorem below_only {B : Nat} {w v : World} {S : Nat → Prop} (h : Below B w v) (hs : ∀ k, k < w.heap.size → ¬ S k → k < B) : Only S w v :=
  ⟨h.os, h.tape, h.output, h.size, fun k hk hn => h.block k (hs k hk hn)⟩

theorem keep_done {C D kb vb g cap : Nat} {G : List (Int × Int)} {w W W2 : World} {sv : Value} {a b : Int} {o : Obj} (h1 : kb < C) (h2 : vb < C) (hK : keepF (a, b) = [(a, b)]) (hb : Below w.heap.size w W)
    (hr1 : Row W kb 91 #[.pointer (some ⟨vb, 0, none⟩)])
    (hown : W2.ownsRow C 24 2 (.slice (some ⟨g, 0, none⟩) (G.length + 1) cap) (G.length + 1) (spc G ++ [.int .i64 a, .int .i64 b])) (hgrow : (W.alloc o).drew.grownBy W2 sv.ownBlock)
    (hblk : ∀ k, sv.ownBlock = some k → C ≤ k ∧ k < D) (hrv : Row W2 vb 45 #[sv]) (hrk : Row W2 kb 91 #[.pointer (some ⟨vb, 0, none⟩)]) :
    KeepDone C D kb vb (G ++ keepF (a, b)) w (.returned (.tuple #[])) (W2.setCell ⟨vb, 0, none⟩ (.slice (some ⟨g, 0, none⟩) (G.length + 1) cap)) := by
  have hne : kb ≠ vb := by
    rintro rfl
    unfold Row at hrv hrk
    rw [hrk] at hrv
    injection hrv with hrv
    injection hrv with _ hrv
    exact absurd hrv (by decide)
  have ho : Only (fun k => k = vb ∨ (C ≤ k ∧ k < D)) w W2 := ((below_only (S := fun k => k = vb ∨ (C ≤ k ∧ k < D)) hb (fun k hk _ => hk)).alloc o |>.drew).grown hgrow (fun k hk => .inl (.inr (hblk k hk)))
  refine ⟨rfl, ⟨h1, h2, hrk.elsewhere (p := ⟨vb, 0, none⟩) hne _, _, hrv.written 0 _, ?_⟩, ho.set (p := ⟨vb, 0, none⟩) (.inl (.inl rfl)) _⟩
  rw [hK, spc_append, List.length_append]
  exact own_only hown ((Only.refl (fun k => k = vb) _).set (p := ⟨vb, 0, none⟩) (.inl rfl) _) (fun k hk hS => by have := (hown.lt k hk).1; omega)

set_option maxHeartbeats 1600000 in
theorem keep_any {C kb vb : Nat} {G : List (Int × Int)} {w : World} (D : Nat) (x : Int × Int) (h : Kept C kb vb G w) (hD : ∀ sv k, Row w vb 45 #[sv] → sv.ownBlock = some k → k < D) (hC : C ≤ w.heap.size) (hl : G.length ≤ 100000) :
    Calls Try.prog 63 #[spv x, .pointer (some ⟨kb, 0, none⟩)] w (KeepDone C D kb vb (G ++ keepF x) w) := by
  obtain ⟨a, b⟩ := x
  obtain ⟨h1, h2, h3, sv, h4, h5⟩ := h
  have c1 : w.cell? ⟨kb, 0, none⟩ = some (.pointer (some ⟨vb, 0, none⟩)) := h3.read rfl
  have c2 : w.cell? ⟨vb, 0, none⟩ = some sv := h4.read rfl
  have f2 := h4.free 0
  by_cases hab : a < b
  · obtain ⟨i0, hi, hi0, hi1, hi2⟩ := info24_parts
    have HK := Lib.hid (keepF_yes (x := (a, b)) hab)
    show Calls Try.prog 63 #[.agg #[.int .i64 a, .int .i64 b], _] w _
    go_enter Try.func63, Try.ntmps63
    go_wp2_with (go_at_call 57; refine (some_any (a, b) _).mono ?_; rintro e w1 ⟨rfl, hb⟩)
    have hr1 := (h3.more (.cells #[.int .i64 a, .int .i64 b] 24)).later hb
    have hr2 := (h4.more (.cells #[.int .i64 a, .int .i64 b] 24)).later hb
    have hr3 := (Row.made w 24 #[.int .i64 a, .int .i64 b]).later hb
    have ho := own_only (S := fun _ => False) (h5.alloc (.cells #[.int .i64 a, .int .i64 b] 24)) (.of_below hb) (fun _ _ h => h)
    have hb' := bl_step (bl_alloc (Below.refl _ _) _) hb
    have hsz := hb'.size
    have hap : sv.ownBlock ≠ some vb := fun hk => by have := (h5.lt _ hk).1; omega
    have hblk : ∀ k, sv.ownBlock = some k → C ≤ k ∧ k < D := fun k hk => ⟨(h5.lt k hk).1, hD sv k h4 hk⟩
    have hapk : sv.ownBlock ≠ some kb := fun hk => by have := (h5.lt _ hk).1; omega
    have c1' : w1.cell? ⟨kb, 0, none⟩ = some (.pointer (some ⟨vb, 0, none⟩)) := hr1.read rfl
    have c2' : w1.cell? ⟨vb, 0, none⟩ = some sv := hr2.read rfl
    have f2' := hr2.free 0
    have c3 : w1.cell? ⟨w.heap.size, 0, none⟩ = some (.int .i64 a) := hr3.read rfl
    have c4 : w1.cell? ⟨w.heap.size, 1, none⟩ = some (.int .i64 b) := hr3.read rfl
    clear c1 c2 f2 h3 h4 h5
    have HR1 := Lib.hid hr1
    have HR2 := Lib.hid hr2
    have HB := Lib.hid hb'
    clear hr1 hr2 hr3 hb hb'
    have d1 := (HR1.out.more (.cells #[.int .i64 a, .int .i64 b] 24)).read (i := 0) rfl
    have d2 := (HR2.out.more (.cells #[.int .i64 a, .int .i64 b] 24)).read (i := 0) rfl
    clear hD
    go_region_law ((refine step_append_lies _ rfl (.tmp 8) (.tmp 10) 45 rfl C 24 i0 (.agg #[.int .i64 0, .int .i64 0]) 2 16 Try.underlying45 hi hi0 hi1 hi2 rfl (by omega) sv G.length (spc G) (by simp [Act.eval]) (ho.alloc _) ⟨w1.heap.size, 0, none⟩ 1 1 [.int .i64 a, .int .i64 b] (by simp [Act.eval]) rfl (new_pair _ _ _ _) (pair_one a b) (by omega) (by unfold maxLen; omega) (by omega) (by simp; omega) _ rfl ?_); intro g cap w2 hown hgrow hgg hg2; have hrv := grown_row (HR2.out.drawn.more (.cells #[.int .i64 a, .int .i64 b] 24)) hgrow hap; have fv := hrv.free 0; have cv := hrv.read (i := 0) rfl; have hrk := grown_row (HR1.out.drawn.more (.cells #[.int .i64 a, .int .i64 b] 24)) hgrow hapk; have ck := hrk.read (i := 0) rfl)
    all_goals
      go_end0
      exact keep_done h1 h2 HK.out HB.out HR1.out hown hgrow hblk hrv hrk
  · have HK := Lib.hid (keepF_none (x := (a, b)) hab)
    have H := Lib.hid (show Kept C kb vb G w from ⟨h1, h2, h3, sv, h4, h5⟩)
    show Calls Try.prog 63 #[.agg #[.int .i64 a, .int .i64 b], _] w _
    go_enter Try.func63, Try.ntmps63
    go_wp2_with (go_at_call 57; refine (some_any (a, b) _).mono ?_; rintro e w1 ⟨rfl, hb⟩; have HB := Lib.hid hb)
    go_end0
    have hb' := bl_step (bl_alloc (Below.refl _ _) _) HB.out
    refine ⟨rfl, ?_, .of_below hb'⟩
    rw [HK.out, List.append_nil]
    exact H.out.later (S := fun _ => False) (.of_below hb') (fun _ h => h.elim)
end Go.Proofs.Ytmaefeckkodllaa
