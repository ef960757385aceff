/-
  What is there and the gaps are all places ahead of any one, each once: as numbers.
-/
import Derived.Test.YtmaefeckkodllaaSpanMath
namespace Go.Proofs.Ytmaefeckkodllaa
open Go.RowKit

/-- how much of a span lies ahead of a place, as the law adds it up -/
def inT (to : Int) (y : Int × Int) : Int := if y.1 < to then (if y.2 < to then y.2 - y.1 else to - y.1) else 0
def insF (to : Int) (L : List (Int × Int)) : Int := L.foldl (fun n y => n + inT to y) 0
theorem insF_acc (to n : Int) (L : List (Int × Int)) : L.foldl (fun n y => n + inT to y) n = n + insF to L := by
  unfold insF
  induction L generalizing n with
  | nil => simp
  | cons y r ih => rw [List.foldl_cons, List.foldl_cons, ih, ih (0 + _)]; omega
theorem insF_cons (to : Int) (y : Int × Int) (r : List (Int × Int)) : insF to (y :: r) = inT to y + insF to r := by
  have := insF_acc to (0 + inT to y) r
  unfold insF at *
  rw [List.foldl_cons, this]
  omega
theorem insF_snoc (to : Int) (A : List (Int × Int)) (y : Int × Int) : insF to (A ++ [y]) = insF to A + inT to y := by
  unfold insF
  rw [List.foldl_append]
  rfl
theorem countF_append (A B : List (Int × Int)) : countF (A ++ B) = countF A + countF B := by
  have := countF_acc (countF A) B
  rw [← this]
  unfold countF
  rw [List.foldl_append]
theorem countF_keepF (x : Int × Int) : countF (keepF x) = max 0 (x.2 - x.1) := by
  unfold keepF
  split
  · rw [countF_cons, countF_nil]; omega
  · rw [countF_nil]; omega
theorem gaps_sum {to : Int} : ∀ {L : List (Int × Int)} {f lo : Int}, Norm lo L → f ≤ lo → countF (gapsR to f L) + insF to L = max 0 (to - f) := by
  intro L
  induction L with
  | nil =>
    intro f lo _ _
    unfold gapsR
    rw [countF_keepF]
    simp [insF]
  | cons y r ih =>
    intro f lo h hf
    obtain ⟨h1, h2, h3, h4⟩ := h
    unfold gapsR
    rw [countF_append, countF_keepF, insF_cons]
    have := ih h4 (by omega : y.2 ≤ y.2 + 1)
    unfold inT
    simp only
    split
    · split <;> omega
    · omega
theorem gaps_mem {to : Int} : ∀ {L : List (Int × Int)} {f lo : Int} {g : Int × Int}, Norm lo L → f ≤ lo → g ∈ gapsR to f L → f ≤ g.1 ∧ g.1 < g.2 ∧ g.2 ≤ to ∧ ∀ p, g.1 ≤ p → p < g.2 → ¬ Ins p L := by
  intro L
  induction L with
  | nil =>
    intro f lo g _ _ hg
    unfold gapsR keepF at hg
    split at hg
    · simp at hg
      subst hg
      exact ⟨by simp, by simpa, by simp, fun p _ _ => ins_nil⟩
    · cases hg
  | cons y r ih =>
    intro f lo g h hf hg
    obtain ⟨h1, h2, h3, h4⟩ := h
    unfold gapsR at hg
    rcases List.mem_append.1 hg with hg | hg
    · unfold keepF at hg
      split at hg
      · rename_i hlt
        simp at hg
        subst hg
        refine ⟨by simp, hlt, by simp only; omega, fun p hp1 hp2 hi => ?_⟩
        simp only at hp1 hp2
        rcases ins_cons.1 hi with hi | hi
        · omega
        · have := (h4.ge hi).1
          omega
      · cases hg
    · obtain ⟨g1, g2, g3, g4⟩ := ih h4 (by omega : y.2 ≤ y.2 + 1) hg
      refine ⟨by omega, g2, g3, fun p hp1 hp2 hi => ?_⟩
      rcases ins_cons.1 hi with hi | hi
      · omega
      · exact g4 p hp1 hp2 hi
theorem gaps_right {to : Int} {L : List (Int × Int)} {g : Int × Int} (h : Norm 0 L) (ht : to ≤ 65536) (hg : g ∈ gapsR to 0 L) : rightB g = true ∧ g.2 ≤ to ∧ (touF g L && rightB g) = false := by
  obtain ⟨g1, g2, g3, g4⟩ := gaps_mem h (Int.le_refl 0) hg
  refine ⟨rightB_iff.2 ⟨g1, by omega, g2⟩, g3, ?_⟩
  rw [Bool.and_eq_false_iff]
  left
  cases ht : touF g L
  · rfl
  · obtain ⟨p, p1, p2, p3⟩ := (touF_iff h g2).1 ht
    exact absurd p3 (g4 p p1 p2)
theorem gapsR_len (to : Int) : ∀ (L : List (Int × Int)) (f : Int), (gapsR to f L).length ≤ L.length + 1 := by
  intro L
  induction L with
  | nil => intro f; exact keepF_len _
  | cons y r ih =>
    intro f
    unfold gapsR
    rw [List.length_append, List.length_cons]
    have := ih y.2
    have := keepF_len (f, min y.1 to)
    omega
theorem norm_right {L : List (Int × Int)} (h : Norm 0 L) {y : Int × Int} (hy : y ∈ L) : rightB y = true := by
  obtain ⟨h1, h2, h3⟩ := h.mem hy
  exact rightB_iff.2 ⟨h1, h3, h2⟩
theorem norm_next : ∀ {L : List (Int × Int)} {lo : Int}, Norm lo L → ∀ {i : Nat} {y z : Int × Int}, L[i]? = some y → L[i + 1]? = some z → y.2 < z.1 := by
  intro L
  induction L with
  | nil => intro lo _ i y z hy _; simp at hy
  | cons a r ih =>
    intro lo h i y z hy hz
    obtain ⟨h1, h2, h3, h4⟩ := h
    cases i with
    | zero =>
      simp at hy
      subst hy
      simp at hz
      have := (h4.mem (List.mem_of_getElem? hz)).1
      omega
    | succ i => exact ih h4 (by simpa using hy) (by simpa using hz)
theorem insF_bd (to : Int) {L : List (Int × Int)} {lo : Int} (h : Norm lo L) : 0 ≤ insF to L ∧ insF to L ≤ countF L := by
  induction L generalizing lo with
  | nil => exact ⟨Int.le_refl _, Int.le_refl _⟩
  | cons y r ih =>
    obtain ⟨h1, h2, h3, h4⟩ := h
    have := ih h4
    rw [insF_cons, countF_cons]
    unfold inT
    split
    · split <;> omega
    · omega
theorem norm_take : ∀ {L : List (Int × Int)} {lo : Int}, Norm lo L → ∀ i, Norm lo (L.take i) := by
  intro L
  induction L with
  | nil => intro lo _ i; simp; trivial
  | cons a r ih =>
    intro lo h i
    cases i with
    | zero => trivial
    | succ i => exact ⟨h.1, h.2.1, h.2.2.1, ih h.2.2.2 i⟩
end Go.Proofs.Ytmaefeckkodllaa
