/-
  Plain mathematics of spans: a normal form, put in, taken out, gaps, how many. Small plain lemmas: frames with holes at a jump, memory below a block, a row's last step. What one call may change in memory: some blocks alone; and what stays. What the small functions of package spans do; how spans are gone through.
-/
import Derived.WalkKit
import Derived.Test.YtjonkpdjhjobfaaProg
import Derived.WalkSpells
import Derived.WalkLawsBesides
import Derived.Deep.QuietTactic
import Derived.BigQuiet
import Derived.Lib.Hide
import Derived.Deep.RegionHeld3
import Derived.Deep.RegionWith
import Derived.WalkMore
import Derived.ScopeJumps
import Derived.Deep.AppendLies
import Derived.Maps.AppendAt
import Derived.Outline
namespace Go.Proofs.Ytjonkpdjhjobfaa

/-- place p is in one of the spans -/
def Ins (p : Int) (L : List (Int × Int)) : Prop := ∃ y ∈ L, y.1 ≤ p ∧ p < y.2
/-- spans rising, none touches the next one, all from lo on -/
def Norm : Int → List (Int × Int) → Prop
  | _, [] => True
  | lo, y :: r => lo ≤ y.1 ∧ y.1 < y.2 ∧ y.2 ≤ 65536 ∧ Norm (y.2 + 1) r

theorem ins_nil {p : Int} : ¬ Ins p [] := fun ⟨_, h, _⟩ => by cases h
theorem ins_cons {p : Int} {y : Int × Int} {r : List (Int × Int)} : Ins p (y :: r) ↔ (y.1 ≤ p ∧ p < y.2) ∨ Ins p r := by
  unfold Ins
  constructor
  · rintro ⟨z, hz, h⟩
    rcases List.mem_cons.1 hz with rfl | hz
    · exact .inl h
    · exact .inr ⟨z, hz, h⟩
  · rintro (h | ⟨z, hz, h⟩)
    · exact ⟨y, List.mem_cons_self .., h⟩
    · exact ⟨z, List.mem_cons_of_mem _ hz, h⟩
theorem ins_append {p : Int} {A B : List (Int × Int)} : Ins p (A ++ B) ↔ Ins p A ∨ Ins p B := by
  induction A with
  | nil => simp [ins_nil]
  | cons a A ih => rw [List.cons_append, ins_cons, ins_cons, ih, or_assoc]

theorem Norm.mono {lo lo' : Int} {L : List (Int × Int)} (h : Norm lo L) (hl : lo' ≤ lo) : Norm lo' L := by
  cases L with
  | nil => trivial
  | cons y r => exact ⟨by have := h.1; omega, h.2⟩
theorem Norm.ge {lo p : Int} {L : List (Int × Int)} (h : Norm lo L) (hp : Ins p L) : lo ≤ p ∧ p < 65536 := by
  induction L generalizing lo with
  | nil => exact (ins_nil hp).elim
  | cons y r ih =>
    obtain ⟨h1, h2, h3, h4⟩ := h
    rcases ins_cons.1 hp with hp | hp
    · omega
    · have := ih h4 hp; omega
theorem Norm.mem {lo : Int} {L : List (Int × Int)} (h : Norm lo L) {y : Int × Int} (hy : y ∈ L) : lo ≤ y.1 ∧ y.1 < y.2 ∧ y.2 ≤ 65536 := by
  induction L generalizing lo with
  | nil => cases hy
  | cons z r ih =>
    obtain ⟨h1, h2, h3, h4⟩ := h
    rcases List.mem_cons.1 hy with rfl | hy
    · exact ⟨h1, h2, h3⟩
    · have := ih h4 hy; omega
theorem Norm.end_out {lo : Int} {L : List (Int × Int)} (h : Norm lo L) {y : Int × Int} (hy : y ∈ L) : ¬ Ins y.2 L := by
  induction L generalizing lo with
  | nil => cases hy
  | cons z r ih =>
    obtain ⟨h1, h2, h3, h4⟩ := h
    rw [ins_cons]
    rcases List.mem_cons.1 hy with rfl | hy
    · rintro (h5 | h5)
      · omega
      · have := h4.ge h5; omega
    · have h6 := h4.mem hy
      rintro (h5 | h5)
      · omega
      · exact ih h4 hy h5

/-- one set of places has one list of spans -/
theorem norm_unique {lo lo' : Int} {A B : List (Int × Int)} (hA : Norm lo A) (hB : Norm lo' B) (h : ∀ p, Ins p A ↔ Ins p B) : A = B := by
  induction A generalizing B lo lo' with
  | nil =>
    cases B with
    | nil => rfl
    | cons b B =>
      exact (ins_nil ((h b.1).2 (ins_cons.2 (.inl ⟨by omega, hB.2.1⟩)))).elim
  | cons a A ih =>
    cases B with
    | nil => exact (ins_nil ((h a.1).1 (ins_cons.2 (.inl ⟨by omega, hA.2.1⟩)))).elim
    | cons b B =>
      obtain ⟨a1, a2, a3, a4⟩ := hA
      obtain ⟨b1, b2, b3, b4⟩ := hB
      have e1 : a.1 = b.1 := by
        have h1 := (h a.1).1 (ins_cons.2 (.inl ⟨by omega, a2⟩))
        have h2 := (h b.1).2 (ins_cons.2 (.inl ⟨by omega, b2⟩))
        rw [ins_cons] at h1 h2
        have h3 : b.1 ≤ a.1 := by
          rcases h1 with h1 | h1
          · omega
          · have := b4.ge h1; omega
        have h4 : a.1 ≤ b.1 := by
          rcases h2 with h2 | h2
          · omega
          · have := a4.ge h2; omega
        omega
      have e2 : a.2 = b.2 := by
        rcases Int.lt_trichotomy a.2 b.2 with hlt | he | hlt
        · exfalso
          have h1 := (h a.2).2 (ins_cons.2 (.inl ⟨by omega, hlt⟩))
          rw [ins_cons] at h1
          rcases h1 with h1 | h1
          · omega
          · have := a4.ge h1; omega
        · exact he
        · exfalso
          have h1 := (h b.2).1 (ins_cons.2 (.inl ⟨by omega, hlt⟩))
          rw [ins_cons] at h1
          rcases h1 with h1 | h1
          · omega
          · have := b4.ge h1; omega
      have e : a = b := Prod.ext e1 e2
      subst e
      rw [ih a4 b4 fun p => ?_]
      have hp := h p
      rw [ins_cons, ins_cons] at hp
      constructor
      · intro h1
        have := a4.ge h1
        rcases hp.1 (.inr h1) with h2 | h2
        · omega
        · exact h2
      · intro h1
        have := b4.ge h1
        rcases hp.2 (.inr h1) with h2 | h2
        · omega
        · exact h2

/-! put in -/
def addStep (s : (Int × Int) × List (Int × Int) × List (Int × Int)) (y : Int × Int) : (Int × Int) × List (Int × Int) × List (Int × Int) :=
  if y.2 < s.1.1 then (s.1, s.2.1 ++ [y], s.2.2)
  else if s.1.2 < y.1 then (s.1, s.2.1, s.2.2 ++ [y])
  else ((min s.1.1 y.1, max s.1.2 y.2), s.2.1, s.2.2)
def addS (x : Int × Int) (L : List (Int × Int)) : (Int × Int) × List (Int × Int) × List (Int × Int) := L.foldl addStep (x, [], [])
def addF (x : Int × Int) (L : List (Int × Int)) : List (Int × Int) := (addS x L).2.1 ++ [(addS x L).1] ++ (addS x L).2.2
def addR : (Int × Int) → List (Int × Int) → List (Int × Int)
  | x, [] => [x]
  | x, y :: r => if y.2 < x.1 then y :: addR x r else if x.2 < y.1 then x :: y :: r else addR (min x.1 y.1, max x.2 y.2) r

theorem fold_behind {x : Int × Int} {A B : List (Int × Int)} : ∀ {r : List (Int × Int)} {lo : Int}, Norm lo r → x.2 < lo → x.1 < x.2 → r.foldl addStep (x, A, B) = (x, A, B ++ r) := by
  intro r
  induction r generalizing B with
  | nil => intros; simp
  | cons y r ih =>
    intro lo h h1 h2
    obtain ⟨a1, a2, a3, a4⟩ := h
    rw [List.foldl_cons]
    have e : addStep (x, A, B) y = (x, A, B ++ [y]) := by
      unfold addStep
      rw [if_neg (by simp; omega), if_pos (by simp; omega)]
    rw [e, ih a4 (by omega) h2, List.append_assoc]
    rfl
theorem addS_addR {A : List (Int × Int)} : ∀ {L : List (Int × Int)} {lo : Int} {x : Int × Int}, Norm lo L → x.1 < x.2 → (L.foldl addStep (x, A, [])).2.1 ++ [(L.foldl addStep (x, A, [])).1] ++ (L.foldl addStep (x, A, [])).2.2 = A ++ addR x L := by
  intro L
  induction L generalizing A with
  | nil => intros; simp [addR]
  | cons y r ih =>
    intro lo x h h2
    obtain ⟨a1, a2, a3, a4⟩ := h
    rw [List.foldl_cons]
    unfold addR
    by_cases c1 : y.2 < x.1
    · have e : addStep (x, A, []) y = (x, A ++ [y], []) := by unfold addStep; rw [if_pos (by simpa using c1)]
      rw [e, ih a4 h2, if_pos c1]
      simp
    · by_cases c2 : x.2 < y.1
      · have e : addStep (x, A, []) y = (x, A, [y]) := by
          unfold addStep
          rw [if_neg (by simpa using c1), if_pos (by simpa using c2)]
          rfl
        rw [e, fold_behind a4 (by omega) h2, if_neg c1, if_pos c2]
        simp
      · have e : addStep (x, A, []) y = ((min x.1 y.1, max x.2 y.2), A, []) := by
          unfold addStep
          rw [if_neg (by simpa using c1), if_neg (by simpa using c2)]
        rw [e, ih a4 (by simp; omega), if_neg c1, if_neg c2]
theorem addF_eq {lo : Int} {L : List (Int × Int)} {x : Int × Int} (h : Norm lo L) (hx : x.1 < x.2) : addF x L = addR x L := by
  have := addS_addR (A := []) h hx
  simpa [addF, addS] using this
theorem addR_norm : ∀ {L : List (Int × Int)} {lo : Int} {x : Int × Int}, Norm lo L → lo ≤ x.1 → x.1 < x.2 → x.2 ≤ 65536 → Norm lo (addR x L) := by
  intro L
  induction L with
  | nil => intro lo x _ h1 h2 h3; exact ⟨h1, h2, h3, trivial⟩
  | cons y r ih =>
    intro lo x h h1 h2 h3
    obtain ⟨a1, a2, a3, a4⟩ := h
    unfold addR
    by_cases c1 : y.2 < x.1
    · rw [if_pos c1]
      exact ⟨a1, a2, a3, ih a4 (by omega) h2 h3⟩
    · rw [if_neg c1]
      by_cases c2 : x.2 < y.1
      · rw [if_pos c2]
        exact ⟨h1, h2, h3, by omega, a2, a3, a4⟩
      · rw [if_neg c2]
        exact ih (a4.mono (by omega)) (by simp; omega) (by simp; omega) (by simp; omega)
theorem addR_ins {p : Int} : ∀ {L : List (Int × Int)} {lo : Int} {x : Int × Int}, Norm lo L → x.1 < x.2 → (Ins p (addR x L) ↔ Ins p L ∨ (x.1 ≤ p ∧ p < x.2)) := by
  intro L
  induction L with
  | nil => intro lo x _ h2; simp [addR, ins_cons, ins_nil]
  | cons y r ih =>
    intro lo x h h2
    obtain ⟨a1, a2, a3, a4⟩ := h
    unfold addR
    by_cases c1 : y.2 < x.1
    · rw [if_pos c1, ins_cons, ih a4 h2, ins_cons, or_assoc]
    · rw [if_neg c1]
      by_cases c2 : x.2 < y.1
      · rw [if_pos c2, ins_cons]
        exact or_comm
      · rw [if_neg c2, ih a4 (by simp; omega), ins_cons]
        have : (min x.1 y.1 ≤ p ∧ p < max x.2 y.2) ↔ ((x.1 ≤ p ∧ p < x.2) ∨ (y.1 ≤ p ∧ p < y.2)) := by omega
        simp only [this]
        constructor
        · rintro (h | h | h)
          · exact .inl (.inr h)
          · exact .inr h
          · exact .inl (.inl h)
        · rintro ((h | h) | h)
          · exact .inr (.inr h)
          · exact .inl h
          · exact .inr (.inl h)
theorem addR_len : ∀ {L : List (Int × Int)} {x : Int × Int}, (addR x L).length ≤ L.length + 1 := by
  intro L
  induction L with
  | nil => intro x; simp [addR]
  | cons y r ih =>
    intro x
    unfold addR
    split
    · simpa using ih
    · split
      · simp
      · have := ih (x := (min x.1 y.1, max x.2 y.2)); simp; omega

/-! taken out -/
def keepF (x : Int × Int) : List (Int × Int) := if x.1 < x.2 then [x] else []
def takeY (x y : Int × Int) : List (Int × Int) := keepF (y.1, min y.2 x.1) ++ keepF (max y.1 x.2, y.2)
def takeF (x : Int × Int) (L : List (Int × Int)) : List (Int × Int) := L.flatMap (takeY x)
theorem ins_keepF {p : Int} {x : Int × Int} : Ins p (keepF x) ↔ x.1 ≤ p ∧ p < x.2 := by
  unfold keepF
  split
  · simp [ins_cons, ins_nil]
  · simp only [ins_nil, false_iff]; omega
theorem norm_keepF {lo lo' : Int} {x : Int × Int} {L : List (Int × Int)} (h : Norm lo' L) (h1 : x.1 < x.2 → lo ≤ x.1 ∧ x.2 < lo' ∧ x.2 ≤ 65536) (h2 : lo ≤ lo') : Norm lo (keepF x ++ L) := by
  unfold keepF
  split
  · rename_i hx
    obtain ⟨k1, k2, k3⟩ := h1 hx
    exact ⟨k1, hx, k3, h.mono (by omega)⟩
  · simpa using h.mono h2
theorem takeF_norm {x : Int × Int} (hx : x.1 < x.2) : ∀ {L : List (Int × Int)} {lo : Int}, Norm lo L → Norm lo (takeF x L) := by
  intro L
  induction L with
  | nil => intros; trivial
  | cons y r ih =>
    intro lo h
    obtain ⟨a1, a2, a3, a4⟩ := h
    have hr := ih a4
    show Norm lo (takeY x y ++ takeF x r)
    unfold takeY
    rw [List.append_assoc]
    have h2 : Norm (max (max lo x.2) (min y.1 (y.2 + 1))) (keepF (max y.1 x.2, y.2) ++ takeF x r) ∨ True := .inr trivial
    clear h2
    by_cases c : max y.1 x.2 < y.2
    · have h3 : Norm (max y.1 x.2) (keepF (max y.1 x.2, y.2) ++ takeF x r) := norm_keepF hr (fun _ => by simp; omega) (by omega)
      exact norm_keepF h3 (fun h => by simp at h ⊢; omega) (by omega)
    · have h3 : keepF (max y.1 x.2, y.2) = [] := by unfold keepF; rw [if_neg (by simpa using c)]
      rw [h3, List.nil_append]
      exact norm_keepF hr (fun h => by simp at h ⊢; omega) (by omega)
theorem takeF_ins {p : Int} {x : Int × Int} (_hx : x.1 < x.2) : ∀ {L : List (Int × Int)}, Ins p (takeF x L) ↔ Ins p L ∧ ¬ (x.1 ≤ p ∧ p < x.2) := by
  intro L
  induction L with
  | nil => simp [takeF, ins_nil]
  | cons y r ih =>
    show Ins p (takeY x y ++ takeF x r) ↔ _
    unfold takeY
    rw [ins_append, ins_append, ins_keepF, ins_keepF, ih, ins_cons]
    simp only
    constructor
    · rintro ((h | h) | h)
      · exact ⟨.inl (by omega), by omega⟩
      · exact ⟨.inl (by omega), by omega⟩
      · exact ⟨.inr h.1, h.2⟩
    · rintro ⟨h | h, h2⟩
      · left
        omega
      · exact .inr ⟨h, h2⟩
theorem keepF_len (x : Int × Int) : (keepF x).length ≤ 1 := by unfold keepF; split <;> simp
theorem keepF_none {x : Int × Int} (h : ¬ x.1 < x.2) : keepF x = [] := by unfold keepF; rw [if_neg h]
theorem takeF_len0 {x : Int × Int} (_hx : x.1 < x.2) : ∀ {L : List (Int × Int)} {lo : Int}, Norm lo L → x.1 ≤ lo → (takeF x L).length ≤ L.length := by
  intro L
  induction L with
  | nil => intros; simp [takeF]
  | cons y r ih =>
    intro lo h h1
    obtain ⟨a1, a2, a3, a4⟩ := h
    have := ih a4 (by omega)
    show (takeY x y ++ takeF x r).length ≤ _
    unfold takeY
    rw [keepF_none (by simp; omega)]
    have h2 := keepF_len (max y.1 x.2, y.2)
    simp
    omega
theorem takeF_len {x : Int × Int} (hx : x.1 < x.2) : ∀ {L : List (Int × Int)} {lo : Int}, Norm lo L → (takeF x L).length ≤ L.length + 1 := by
  intro L
  induction L with
  | nil => intros; simp [takeF]
  | cons y r ih =>
    intro lo h
    obtain ⟨a1, a2, a3, a4⟩ := h
    show (takeY x y ++ takeF x r).length ≤ _
    unfold takeY
    have h2 := keepF_len (max y.1 x.2, y.2)
    have h3 := keepF_len (y.1, min y.2 x.1)
    by_cases c : max y.1 x.2 < y.2
    · have := takeF_len0 hx a4 (by omega)
      simp
      omega
    · rw [keepF_none (x := (max y.1 x.2, y.2)) (by simpa using c)]
      have := ih a4
      simp
      omega

/-! asked -/
def srightB (x : Int × Int) : Bool := decide (0 ≤ x.1 ∧ x.2 ≤ 65536 ∧ x.1 < x.2)
theorem rightB_iff {x : Int × Int} : srightB x = true ↔ 0 ≤ x.1 ∧ x.2 ≤ 65536 ∧ x.1 < x.2 := by simp [srightB]
def hasF (x : Int × Int) (L : List (Int × Int)) : Bool := L.any fun y => decide (y.1 ≤ x.1 ∧ x.2 ≤ y.2)
def touF (x : Int × Int) (L : List (Int × Int)) : Bool := L.any fun y => decide (y.1 < x.2 ∧ x.1 < y.2)
theorem hasF_iff {lo : Int} {L : List (Int × Int)} {x : Int × Int} (h : Norm lo L) (hx : x.1 < x.2) : hasF x L = true ↔ ∀ p, x.1 ≤ p → p < x.2 → Ins p L := by
  unfold hasF
  rw [List.any_eq_true]
  constructor
  · rintro ⟨y, hy, h1⟩ p h2 h3
    have h1 := of_decide_eq_true h1
    exact ⟨y, hy, by omega, by omega⟩
  · intro h1
    obtain ⟨y, hy, h2, h3⟩ := h1 x.1 (by omega) hx
    refine ⟨y, hy, decide_eq_true ⟨h2, ?_⟩⟩
    rcases Int.lt_or_le y.2 x.2 with h4 | h4
    · exact (h.end_out hy (h1 y.2 (by omega) h4)).elim
    · exact h4
theorem touF_iff {lo : Int} {L : List (Int × Int)} {x : Int × Int} (h : Norm lo L) (hx : x.1 < x.2) : touF x L = true ↔ ∃ p, x.1 ≤ p ∧ p < x.2 ∧ Ins p L := by
  unfold touF
  rw [List.any_eq_true]
  constructor
  · rintro ⟨y, hy, h1⟩
    have h1 := of_decide_eq_true h1
    have h2 := h.mem hy
    exact ⟨max x.1 y.1, by omega, by omega, y, hy, by omega, by omega⟩
  · rintro ⟨p, h1, h2, y, hy, h3, h4⟩
    exact ⟨y, hy, decide_eq_true (by omega)⟩

/-! how many -/
def countF (L : List (Int × Int)) : Int := L.foldl (fun n y => n + (y.2 - y.1)) 0
theorem countF_acc (n : Int) (L : List (Int × Int)) : L.foldl (fun n y => n + (y.2 - y.1)) n = n + countF L := by
  unfold countF
  induction L generalizing n with
  | nil => simp
  | cons y r ih => rw [List.foldl_cons, List.foldl_cons, ih, ih (0 + _)]; omega
theorem countF_cons (y : Int × Int) (r : List (Int × Int)) : countF (y :: r) = (y.2 - y.1) + countF r := by
  have := countF_acc (0 + (y.2 - y.1)) r
  unfold countF at *
  rw [List.foldl_cons, this]
  omega
theorem countF_nil : countF [] = 0 := rfl
theorem countF_snoc (A : List (Int × Int)) (y : Int × Int) : countF (A ++ [y]) = countF A + (y.2 - y.1) := by
  unfold countF
  rw [List.foldl_append]
  rfl
/-- how many places below n are so -/
def cnt (f : Nat → Bool) : Nat → Nat
  | 0 => 0
  | n + 1 => cnt f n + if f n then 1 else 0
theorem cnt_congr {f g : Nat → Bool} {n : Nat} (h : ∀ p, p < n → f p = g p) : cnt f n = cnt g n := by
  induction n with
  | zero => rfl
  | succ n ih => unfold cnt; rw [ih fun p hp => h p (by omega), h n (by omega)]
theorem cnt_or {f g : Nat → Bool} {n : Nat} (h : ∀ p, p < n → ¬ (f p = true ∧ g p = true)) : cnt (fun p => f p || g p) n = cnt f n + cnt g n := by
  induction n with
  | zero => rfl
  | succ n ih =>
    unfold cnt
    rw [ih fun p hp => h p (by omega)]
    have := h n (by omega)
    cases h1 : f n <;> cases h2 : g n <;> simp_all <;> omega
theorem cnt_span (a b : Int) (ha : 0 ≤ a) (hb : a ≤ b) : ∀ n : Nat, (cnt (fun p => decide (a ≤ (p : Int) ∧ (p : Int) < b)) n : Int) = max 0 (min (n : Int) b - a) := by
  intro n
  induction n with
  | zero => simp [cnt]; omega
  | succ n ih =>
    unfold cnt
    by_cases h : a ≤ (n : Int) ∧ (n : Int) < b
    · rw [if_pos (by simpa using h)]; omega
    · rw [if_neg (by simpa using h)]; omega
def insB (L : List (Int × Int)) (p : Nat) : Bool := L.any fun y => decide (y.1 ≤ (p : Int) ∧ (p : Int) < y.2)
theorem insB_iff {L : List (Int × Int)} {p : Nat} : insB L p = true ↔ Ins p L := by
  unfold insB Ins
  rw [List.any_eq_true]
  constructor
  · rintro ⟨y, hy, h⟩; exact ⟨y, hy, of_decide_eq_true h⟩
  · rintro ⟨y, hy, h⟩; exact ⟨y, hy, decide_eq_true h⟩
theorem countF_cnt {N : Nat} : ∀ {L : List (Int × Int)} {lo : Int}, 0 ≤ lo → Norm lo L → (∀ y ∈ L, y.2 ≤ (N : Int)) → countF L = cnt (insB L) N := by
  intro L
  induction L with
  | nil =>
    intro lo _ _ _
    have : cnt (insB []) N = cnt (fun _ => false) N := cnt_congr fun _ _ => rfl
    rw [this]
    have : ∀ n, cnt (fun _ => false) n = 0 := by
      intro n
      induction n with
      | zero => rfl
      | succ n ih => unfold cnt; rw [ih]; rfl
    rw [this]
    rfl
  | cons y r ih =>
    intro lo h0 h hN
    obtain ⟨a1, a2, a3, a4⟩ := h
    have e : cnt (insB (y :: r)) N = cnt (fun p => decide (y.1 ≤ (p : Int) ∧ (p : Int) < y.2) || insB r p) N := cnt_congr fun _ _ => rfl
    have hd : ∀ p : Nat, p < N → ¬ (decide (y.1 ≤ (p : Int) ∧ (p : Int) < y.2) = true ∧ insB r p = true) := by
      rintro p _ ⟨h1, h2⟩
      have h1 := of_decide_eq_true h1
      have := a4.ge (insB_iff.1 h2)
      omega
    rw [e, cnt_or hd, countF_cons, ih (by omega) a4 fun z hz => hN z (List.mem_cons_of_mem _ hz)]
    have h1 := cnt_span y.1 y.2 (by omega) (by omega) N
    have h2 := hN y (List.mem_cons_self ..)
    omega

/-! what is not there -/
def gapsR (to : Int) : Int → List (Int × Int) → List (Int × Int)
  | f, [] => keepF (f, to)
  | f, y :: r => keepF (f, min y.1 to) ++ gapsR to y.2 r
theorem gapsR_norm {to : Int} (ht : to ≤ 65536) : ∀ {L : List (Int × Int)} {lo : Int}, Norm lo L → ∀ f, f ≤ lo → Norm f (gapsR to f L) := by
  intro L
  induction L with
  | nil =>
    intro lo _ f _
    have := norm_keepF (lo := f) (lo' := max (f + 1) (to + 1)) (x := (f, to)) (L := []) trivial (fun _ => by simp; omega) (by omega)
    simpa [gapsR] using this
  | cons y r ih =>
    intro lo h f hf
    obtain ⟨a1, a2, a3, a4⟩ := h
    have h1 := ih a4 y.2 (by omega)
    exact norm_keepF h1 (fun h => by simp at h ⊢; omega) (by omega)
theorem gapsR_ins {p to : Int} : ∀ {L : List (Int × Int)} {lo : Int}, Norm lo L → ∀ f, f ≤ lo → (Ins p (gapsR to f L) ↔ f ≤ p ∧ p < to ∧ ¬ Ins p L) := by
  intro L
  induction L with
  | nil =>
    intro lo _ f _
    simp [gapsR, ins_keepF, ins_nil]
  | cons y r ih =>
    intro lo h f hf
    obtain ⟨a1, a2, a3, a4⟩ := h
    show Ins p (keepF (f, min y.1 to) ++ gapsR to y.2 r) ↔ _
    rw [ins_append, ins_keepF, ih a4 y.2 (by omega), ins_cons]
    simp only
    constructor
    · rintro (h | ⟨h1, h2, h3⟩)
      · refine ⟨by omega, by omega, ?_⟩
        rintro (h5 | h5)
        · omega
        · have := a4.ge h5; omega
      · refine ⟨by omega, by omega, ?_⟩
        rintro (h5 | h5)
        · omega
        · exact h3 h5
    · rintro ⟨h1, h2, h3⟩
      rcases Int.lt_or_le p y.1 with h4 | h4
      · exact .inl (by omega)
      · refine .inr ⟨?_, h2, fun h5 => h3 (.inr h5)⟩
        rcases Int.lt_or_le p y.2 with h5 | h5
        · exact (h3 (.inl ⟨h4, h5⟩)).elim
        · exact h5
end Go.Proofs.Ytjonkpdjhjobfaa
namespace Go.Proofs.Ytjonkpdjhjobfaa
open Go.RowKit

/-- a list of values, some of them known -/
def Holes : List (Option Value) → (List Value → Prop) → Prop
  | [], k => k []
  | some v :: r, k => Holes r fun l => k (v :: l)
  | none :: r, k => ∃ u, Holes r fun l => k (u :: l)
/-- the frame at a jump -/
def Fr (xs : List (Option Value)) (a : Act) : Prop := Holes xs fun l => a = { tmps := l.toArray, defers := [] }

theorem ret_bool {a b : Bool} (h : a = b) : Ending.returned (.bool a) = .returned (.bool b) := by rw [h]
theorem bl_step {w a b : World} (h : Below w.heap.size w a) (k : Below a.heap.size a b) : Below w.heap.size w b := h.trans (k.mono h.size)
theorem bl_alloc {w a : World} (h : Below w.heap.size w a) (o : Obj) : Below w.heap.size w (a.alloc o) := h.alloc h.size o
theorem bl_drew {w a : World} (h : Below w.heap.size w a) : Below w.heap.size w a.drew := h.drew

/-- a cell known in a world is known in one that is alike below -/
theorem kept_box {w v : World} {g j : Nat} {x : Value} (hb : Below v.heap.size v w) (h : v.cell? ⟨g, j, none⟩ = some x) : w.cell? ⟨g, j, none⟩ = some x :=
  (hb.cell (p := ⟨g, j, none⟩) (by
    rcases Nat.lt_or_ge g v.heap.size with h1 | h1
    · exact h1
    · exfalso
      simp [World.cell?, Array.getElem?_eq_none h1] at h)).trans h

/-- block g holds just these cells, none of them frozen -/
def Row (w : World) (g : Nat) (t : TypeId) (cs : Array Value) : Prop := w.heap[g]? = some (.cells cs t (0, 0))
section
variable {w v : World} {g : Nat} {t : TypeId} {cs : Array Value}
theorem Row.inside (h : Row w g t cs) : g < w.heap.size := by
  rcases Nat.lt_or_ge g w.heap.size with h1 | h1
  · exact h1
  · exfalso
    unfold Row at h
    rw [Array.getElem?_eq_none h1] at h
    cases h
theorem Row.read (h : Row w g t cs) {i : Nat} {x : Value} (hx : cs[i]? = some x) : w.cell? ⟨g, i, none⟩ = some x := (cell_of_row w g i cs t (0, 0) h).trans hx
theorem Row.free (h : Row w g t cs) (i : Nat) : w.frozen? ⟨g, i, none⟩ = false := by
  unfold Row at h
  simp [World.frozen?, h]
theorem Row.made (w : World) (t : TypeId) (cs : Array Value) : Row (w.alloc (.cells cs t)) w.heap.size t cs := heap_alloc_new w _
theorem Row.later (h : Row w g t cs) (hb : Below w.heap.size w v) : Row v g t cs := (hb.block g h.inside).trans h
theorem Row.more (h : Row w g t cs) (o : Obj) : Row (w.alloc o) g t cs := (Below.heap_alloc w o g h.inside).trans h
theorem Row.drawn (h : Row w g t cs) : Row w.drew g t cs := h
theorem Row.written (h : Row w g t cs) (i : Nat) (x : Value) : Row (w.setCell ⟨g, i, none⟩ x) g t (cs.setIfInBounds i x) := by
  unfold Row at h ⊢
  simp [World.setCell, Array.getElem?_modify, h]
theorem Row.elsewhere (h : Row w g t cs) {p : Addr} (hp : g ≠ p.block) (x : Value) : Row (w.setCell p x) g t cs := (Below.heap_setCell w p x g hp).trans h
end
end Go.Proofs.Ytjonkpdjhjobfaa
namespace Go.Proofs.Ytjonkpdjhjobfaa
open Go.RowKit

/-- from w to v only blocks in S, and new ones, have changed -/
structure Only (S : Nat → Prop) (w v : World) : Prop where
  os : v.os = w.os
  tape : v.tape = w.tape
  output : v.output = w.output
  size : w.heap.size ≤ v.heap.size
  same : ∀ k, k < w.heap.size → ¬ S k → v.heap[k]? = w.heap[k]?

section
variable {S T : Nat → Prop} {w v u : World}
theorem Only.refl (S : Nat → Prop) (w : World) : Only S w w := ⟨rfl, rfl, rfl, Nat.le_refl _, fun _ _ _ => rfl⟩
theorem Only.andThen (h : Only S w v) (h' : Only T v u) (hs : ∀ k, k < w.heap.size → T k → S k) : Only S w u :=
  ⟨h'.os.trans h.os, h'.tape.trans h.tape, h'.output.trans h.output, Nat.le_trans h.size h'.size, fun k hk hn =>
    (h'.same k (Nat.lt_of_lt_of_le hk h.size) fun hk' => hn (hs k hk hk')).trans (h.same k hk hn)⟩
theorem Only.of_below (h : Below w.heap.size w v) : Only S w v := ⟨h.os, h.tape, h.output, h.size, fun k hk _ => h.block k hk⟩
theorem Only.below (h : Only S w v) {B : Nat} (hB : B ≤ w.heap.size) (hs : ∀ k, k < B → ¬ S k) : Below B w v :=
  ⟨h.os, h.tape, h.output, h.size, fun k hk => h.same k (Nat.lt_of_lt_of_le hk hB) (hs k hk)⟩
theorem Only.alloc (h : Only S w v) (o : Obj) : Only S w (v.alloc o) :=
  h.andThen (T := fun _ => False) (.of_below (bl_alloc (Below.refl _ _) o)) fun _ _ hk => hk.elim
theorem Only.drew (h : Only S w v) : Only S w v.drew := ⟨h.os, h.tape, h.output, h.size, h.same⟩
theorem Only.set (h : Only S w v) {p : Addr} (hp : S p.block ∨ w.heap.size ≤ p.block) (x : Value) : Only S w (v.setCell p x) :=
  ⟨h.os, h.tape, h.output, by rw [show (v.setCell p x).heap.size = v.heap.size by simp [World.setCell]]; exact h.size, fun k hk hn =>
    (Below.heap_setCell v p x k (fun e => by subst e; rcases hp with hp | hp; exact hn hp; omega)).trans (h.same k hk hn)⟩
theorem Only.grown (h : Only S w v) {row : Option Nat} (hg : v.grownBy u row) (hr : ∀ k, row = some k → S k ∨ w.heap.size ≤ k) : Only S w u :=
  ⟨hg.os.trans h.os, hg.tape.trans h.tape, hg.output.trans h.output, Nat.le_trans h.size hg.size, fun k hk hn =>
    (hg.block k (Nat.lt_of_lt_of_le hk h.size) (fun e => by rcases hr k e.symm with h1 | h1; exact hn h1; omega)).trans (h.same k hk hn)⟩

theorem Row.only {g : Nat} {t : TypeId} {cs : Array Value} (h : Row w g t cs) (ho : Only S w v) (hg : ¬ S g) : Row v g t cs := (ho.same g h.inside hg).trans h
theorem own_block {base : Nat} {e : TypeId} {size : Nat} {x : Value} {n : Nat} {xs : List Value} (h : w.ownsRow base e size x n xs) : ∀ k, x.ownBlock = some k → base ≤ k ∧ k < w.heap.size := h.lt
theorem own_only {base : Nat} {e : TypeId} {size : Nat} {x : Value} {n : Nat} {xs : List Value} (h : w.ownsRow base e size x n xs) (ho : Only S w v) (hS : ∀ k, x.ownBlock = some k → ¬ S k) : v.ownsRow base e size x n xs := by
  refine ⟨h.1, ?_⟩
  rcases h.2 with h0 | ⟨g, cap, cur, rfl, hb, hh, h1⟩
  · exact .inl h0
  · refine .inr ⟨g, cap, cur, rfl, hb, ?_, h1⟩
    have hl : g < w.heap.size := (h.lt g rfl).2
    exact (ho.same g hl (hS g rfl)).trans hh
/-- rows of different element types lie in different blocks -/
theorem own_apart {base : Nat} {e : TypeId} {size : Nat} {x : Value} {n : Nat} {xs : List Value} {g : Nat} {t : TypeId} {cs : Array Value} (h : w.ownsRow base e size x n xs) (hr : Row w g t cs) (hne : e ≠ t) : x.ownBlock ≠ some g := by
  rcases h.2 with ⟨rfl, _⟩ | ⟨g', cap, cur, rfl, _, hh, _⟩
  · simp [Value.ownBlock]
  · intro he
    have e1 : g' = g := by simpa [Value.ownBlock] using he
    subst e1
    unfold Row at hr
    rw [hh] at hr
    injection hr with hr
    injection hr with _ hr
    exact hne hr
theorem Row.apart {g g' : Nat} {t t' : TypeId} {cs cs' : Array Value} (h : Row w g t cs) (h' : Row w g' t' cs') (hne : t ≠ t') : g ≠ g' := by
  rintro rfl
  unfold Row at h h'
  rw [h] at h'
  injection h' with h'
  injection h' with _ h'
  exact hne h'
end
end Go.Proofs.Ytjonkpdjhjobfaa
namespace Go.Proofs.Ytjonkpdjhjobfaa
open Go.RowKit

theorem Try.info66 : (Try.prog.info? 66).map (fun i => (i.zero, i.size, i.bytes)) = some (some (.agg #[.int .i64 0, .int .i64 0]), 2, 16) := by kernel_rfl
theorem info66_parts : ∃ i, Try.prog.info? 66 = some i ∧ i.zero = some (.agg #[.int .i64 0, .int .i64 0]) ∧ i.size = 2 ∧ i.bytes = 16 := info_parts Try.info66

theorem sadd_zero_addr (g j : Nat) : (⟨g, 0, none⟩ : Addr).add j = ⟨g, j, none⟩ := by
  unfold Addr.add
  split
  · rename_i h
    rw [h]
  · simp
/-- a span as a value -/
def spv (y : Int × Int) : Value := .agg #[.int .i64 y.1, .int .i64 y.2]
/-- spans as cells -/
def spc (L : List (Int × Int)) : List Value := L.flatMap fun y => [.int .i64 y.1, .int .i64 y.2]
theorem spc_cons (y : Int × Int) (r : List (Int × Int)) : spc (y :: r) = .int .i64 y.1 :: .int .i64 y.2 :: spc r := rfl
theorem spc_append (A B : List (Int × Int)) : spc (A ++ B) = spc A ++ spc B := by simp [spc]
theorem length_spc (L : List (Int × Int)) : (spc L).length = L.length * 2 := by
  induction L with
  | nil => rfl
  | cons y r ih => rw [spc_cons]; simp [ih]; omega
theorem spc_one (L : List (Int × Int)) : ∀ v ∈ spc L, v.oneCell' = true := by
  intro v hv
  simp only [spc, List.mem_flatMap] at hv
  obtain ⟨y, _, hv⟩ := hv
  simp at hv
  rcases hv with rfl | rfl <;> rfl
theorem spc_at0 {L : List (Int × Int)} {i : Nat} {y : Int × Int} (h : L[i]? = some y) : (spc L)[i * 2]? = some (.int .i64 y.1) := by
  induction L generalizing i with
  | nil => simp at h
  | cons z r ih =>
    cases i with
    | zero => simp at h; subst h; rfl
    | succ i => rw [spc_cons, show (i + 1) * 2 = i * 2 + 1 + 1 by omega]; simpa using ih (by simpa using h)
theorem spc_at1 {L : List (Int × Int)} {i : Nat} {y : Int × Int} (h : L[i]? = some y) : (spc L)[i * 2 + 1]? = some (.int .i64 y.2) := by
  induction L generalizing i with
  | nil => simp at h
  | cons z r ih =>
    cases i with
    | zero => simp at h; subst h; rfl
    | succ i => rw [spc_cons, show (i + 1) * 2 + 1 = i * 2 + 1 + 1 + 1 by omega]; simpa using ih (by simpa using h)

set_option maxHeartbeats 400000 in
theorem some_any (y : Int × Int) (w : World) :
    Calls Try.prog 110 #[spv y] w fun e w' => e = .returned (.bool (decide (y.1 < y.2))) ∧ Below w.heap.size w w' := by
  unfold spv
  obtain ⟨a, b⟩ := y
  go_enter Try.func110, Try.ntmps110
  go_wp2
  go_ret
  exact ⟨rfl, bl_alloc (Below.refl _ _) _⟩

set_option maxHeartbeats 400000 in
theorem right_any (y : Int × Int) (w : World) :
    Calls Try.prog 42 #[spv y] w fun e w' => e = .returned (.bool (srightB y)) ∧ Below w.heap.size w w' := by
  obtain ⟨a, b⟩ := y
  by_cases h1 : 0 ≤ a
  · by_cases h2 : b ≤ 65536
    · have H := Lib.hid (show srightB (a, b) = decide (a < b) by simp [srightB, h1, h2])
      show Calls Try.prog 42 #[.agg #[.int .i64 a, .int .i64 b]] w _
      go_enter Try.func42, Try.ntmps42
      go_wp2_with (go_at_call 110; refine (some_any (a, b) _).mono ?_; rintro e w1 ⟨rfl, hb⟩)
      go_ret
      exact ⟨ret_bool (by rw [H.out]), bl_step (bl_alloc (Below.refl _ _) _) hb⟩
    · have H := Lib.hid (show srightB (a, b) = false by simp [srightB, h2])
      show Calls Try.prog 42 #[.agg #[.int .i64 a, .int .i64 b]] w _
      go_enter Try.func42, Try.ntmps42
      go_wp2
      go_ret
      exact ⟨ret_bool (by rw [H.out]), bl_alloc (Below.refl _ _) _⟩
  · have H := Lib.hid (show srightB (a, b) = false by simp [srightB, h1])
    show Calls Try.prog 42 #[.agg #[.int .i64 a, .int .i64 b]] w _
    go_enter Try.func42, Try.ntmps42
    go_wp2
    go_ret
    exact ⟨ret_bool (by rw [H.out]), bl_alloc (Below.refl _ _) _⟩

set_option maxHeartbeats 400000 in
theorem fault_nil (y : Int × Int) (w : World) :
    Calls Try.prog 98 #[.pointer none, spv y] w fun e w' => e = .returned (.int .i64 6) ∧ Below w.heap.size w w' := by
  unfold spv
  go_enter Try.func98, Try.ntmps98
  go_wp2
  go_ret
  exact ⟨rfl, bl_alloc (Below.refl _ _) _⟩
set_option maxHeartbeats 400000 in
theorem fault_arg (p : Nat) (y : Int × Int) (w : World) (h : srightB y = false) :
    Calls Try.prog 98 #[.pointer (some ⟨p, 0, none⟩), spv y] w fun e w' => e = .returned (.int .i64 1) ∧ Below w.heap.size w w' := by
  obtain ⟨a, b⟩ := y
  have H := Lib.hid h
  clear h
  show Calls Try.prog 98 #[_, .agg #[.int .i64 a, .int .i64 b]] w _
  go_enter Try.func98, Try.ntmps98
  go_wp2_with (go_at_call 42; refine (right_any (a, b) _).mono ?_; rintro e w1 ⟨rfl, hb⟩; rw [H.out])
  go_ret
  exact ⟨rfl, bl_step (bl_alloc (Below.refl _ _) _) hb⟩
set_option maxHeartbeats 400000 in
theorem fault_ok (p : Nat) (y : Int × Int) (w : World) (h : srightB y = true) :
    Calls Try.prog 98 #[.pointer (some ⟨p, 0, none⟩), spv y] w fun e w' => e = .returned (.int .i64 0) ∧ Below w.heap.size w w' := by
  obtain ⟨a, b⟩ := y
  have H := Lib.hid h
  clear h
  show Calls Try.prog 98 #[_, .agg #[.int .i64 a, .int .i64 b]] w _
  go_enter Try.func98, Try.ntmps98
  go_wp2_with (go_at_call 42; refine (right_any (a, b) _).mono ?_; rintro e w1 ⟨rfl, hb⟩; rw [H.out])
  go_ret
  exact ⟨rfl, bl_step (bl_alloc (Below.refl _ _) _) hb⟩

/-- the set at block p, whose slice value is sv, has these spans; all above block B -/
def SRep (B : Nat) (w : World) (p : Nat) (sv : Value) (L : List (Int × Int)) : Prop :=
  B ≤ p ∧ Row w p 159 #[sv] ∧ w.ownsRow B 66 2 sv L.length (spc L)

theorem SRep.only {B : Nat} {w v : World} {p : Nat} {sv : Value} {L : List (Int × Int)} {S : Nat → Prop} (h : SRep B w p sv L) (ho : Only S w v) (h1 : ¬ S p) (h2 : ∀ k, sv.ownBlock = some k → ¬ S k) : SRep B v p sv L :=
  ⟨h.1, h.2.1.only ho h1, own_only h.2.2 ho h2⟩
theorem SRep.later {B : Nat} {w v : World} {p : Nat} {sv : Value} {L : List (Int × Int)} (h : SRep B w p sv L) (hb : Below w.heap.size w v) : SRep B v p sv L :=
  h.only (S := fun _ => False) (.of_below hb) (fun h => h) (fun _ _ h => h)
theorem sown_shape {w : World} {B : Nat} {e size : Nat} {sv : Value} {n : Nat} {xs : List Value} (h : w.ownsRow B e size sv n xs) : ∃ A cap, sv = .slice A n cap ∧ n ≤ cap ∧ cap ≤ maxLen := by
  rcases h.2 with ⟨rfl, h0⟩ | ⟨g, cap, cur, rfl, _, _, h1, h2, _⟩
  · exact ⟨none, 0, by rw [h0], by omega, by simp [maxLen]⟩
  · exact ⟨_, cap, rfl, h1, h2⟩

set_option maxHeartbeats 400000 in
theorem become_any {B : Nat} {w : World} {p : Nat} {sv sv' : Value} {L L' : List (Int × Int)} (h : SRep B w p sv L) (h' : w.ownsRow B 66 2 sv' L'.length (spc L')) (hl : L'.length ≤ 2048) :
    Calls Try.prog 102 #[.pointer (some ⟨p, 0, none⟩), sv'] w fun e w' => e = .returned (.int .i64 0) ∧ SRep B w' p sv' L' ∧ Only (fun k => k = p) w w' := by
  have hap := own_apart h' h.2.1 (by decide)
  obtain ⟨A, cap, rfl, _, _⟩ := sown_shape h'
  have hf := h.2.1.free 0
  have hc : w.cell? ⟨p, 0, none⟩ = some sv := h.2.1.read rfl
  have HR := Lib.hid (show SRep B (w.setCell ⟨p, 0, none⟩ (.slice A L'.length cap)) p (.slice A L'.length cap) L' from
    ⟨h.1, h.2.1.written 0 _, own_only h' ((Only.refl (fun k => k = p) _).set (.inl rfl) _) (fun k hk hS => by subst hS; exact hap hk)⟩)
  have HO := Lib.hid (show Only (fun k => k = p) w (w.setCell ⟨p, 0, none⟩ (.slice A L'.length cap)) from (Only.refl (fun k => k = p) _).set (.inl rfl) _)
  clear h h' hap
  generalize L'.length = n at *
  go_enter Try.func102, Try.ntmps102
  go_wp2
  go_ret
  exact ⟨rfl, HR.out, HO.out⟩

set_option maxHeartbeats 400000 in
theorem each_nil (f : Value) (w : World) :
    Calls Try.prog 100 #[.pointer none, f] w fun e w' => e = .returned (.tuple #[]) ∧ w = w' := by
  go_enter Try.func100, Try.ntmps100
  go_wp2
  go_step3
  go_wp2
  rw [Exit.noGoto_ret]
  refine bodyPost_ret (results_none rfl _ _ _) rfl ?_
  exact ⟨rfl, rfl⟩

set_option maxRecDepth 100000 in
set_option maxHeartbeats 1600000 in
theorem seach_any {B p K : Nat} {caps : Array Value} {sv : Value} {L : List (Int × Int)} (hK : K = 103 ∨ K = 101 ∨ K = 105 ∨ K = 107 ∨ K = 108 ∨ K = 109) (Inv : Nat → World → Prop) (w : World) (h0 : Inv 0 w)
    (hrep : ∀ k W, Inv k W → SRep B W p sv L)
    (hstep : ∀ k W y, L[k]? = some y → Inv k W → Calls Try.prog K (#[spv y] ++ caps) W fun e W' => e = .returned (.tuple #[]) ∧ Inv (k + 1) W') :
    Calls Try.prog 100 #[.pointer (some ⟨p, 0, none⟩), .func (.func K) #[] caps] w fun e w' => e = .returned (.tuple #[]) ∧ Inv L.length w' := by
  obtain ⟨A, cap, rfl, hcap, hmax⟩ := sown_shape (hrep 0 w h0).2.2
  unfold maxLen at hmax
  have HR := Lib.hid hrep
  have HS := Lib.hid hstep
  have H0 := Lib.hid h0
  clear hrep hstep h0
  go_enter Try.func100, Try.ntmps100
  go_wp2
  refine wp_scope_jumps 0 (fun a' w' => ∃ k : Nat, k ≤ L.length ∧ Fr [some (.pointer (some ⟨p, 0, none⟩)), some (.func (.func K) #[] caps), none, none, some (.int .i64 k), none, none, none, none, none, none, none, none, none, none, none, none, none, none, none, none, none, none, none, none] a' ∧ Inv k w') (fun a' _ => L.length - (intOf (a'.tmps.getD 4 undef)).toNat) rfl ?_ ?_
  · have hc : w.cell? ⟨p, 0, none⟩ = some (.slice A L.length cap) := (HR.out 0 w H0.out).2.1.read rfl
    rcases Nat.eq_zero_or_pos L.length with hk0 | hk0
    · go_wp2
      go_step3
      go_wp2
      simp only [Exit.jump]
      go_end0
      exact ⟨rfl, by rw [hk0]; exact H0.out⟩
    · obtain ⟨g, cap', hv, hB, hg⟩ := (HR.out 0 w H0.out).2.2.form hk0
      injection hv with hA _ _
      subst hA
      obtain ⟨y, hy⟩ : ∃ y, L[0]? = some y := ⟨_, List.getElem?_eq_getElem hk0⟩
      have hcell := (HR.out 0 w H0.out).2.2.cells (g := g) rfl
      have c0 := hcell 0 _ (spc_at0 hy)
      have c1 := hcell 1 _ (spc_at1 hy)
      have HC := Lib.hid (HS.out 0 w y hy H0.out)
      simp [Addr.add] at c0 c1
      clear hcell hy
      rcases hK with rfl | rfl | rfl | rfl | rfl | rfl
      all_goals
        go_wp2
        go_step3
        go_wp2_with fail
        refine (HC.out).mono ?_
        rintro e w1 ⟨rfl, hi⟩
        go_wp2_with fail
        go_step3
        refine ⟨rfl, 1, by omega, ?_, hi⟩
        simp only [Fr, Holes]
        repeat apply Exists.intro
        rfl
  · rintro a' w' ⟨k, hk, hfr, hinv⟩
    simp only [Fr, Holes] at hfr
    repeat (obtain ⟨_, hfr⟩ := hfr)
    have hc : w'.cell? ⟨p, 0, none⟩ = some (.slice A L.length cap) := (HR.out k w' hinv).2.1.read rfl
    rcases Nat.lt_or_ge k L.length with hlt | hge
    · obtain ⟨g, cap', hv, hB, hg⟩ := (HR.out k w' hinv).2.2.form (by omega)
      injection hv with hA _ _
      subst hA
      obtain ⟨y, hy⟩ : ∃ y, L[k]? = some y := ⟨_, List.getElem?_eq_getElem hlt⟩
      have hcell := (HR.out k w' hinv).2.2.cells (g := g) rfl
      have c0 := hcell _ _ (spc_at0 hy)
      have c1 := hcell _ _ (spc_at1 hy)
      have HC := Lib.hid (HS.out k w' y hy hinv)
      have HI := Lib.hid hinv
      rw [sadd_zero_addr] at c0 c1
      clear hcell hy hinv
      rcases hK with rfl | rfl | rfl | rfl | rfl | rfl
      all_goals
        go_wp2_with fail
        refine (HC.out).mono ?_
        rintro e w1 ⟨rfl, hi⟩
        go_wp2_with fail
        go_step3
        refine ⟨rfl, ⟨k + 1, by omega, ?_, hi⟩, ?_⟩
        · simp only [Fr, Holes]
          repeat apply Exists.intro
          rfl
        · simp [intOf]; omega
    · obtain rfl : k = L.length := by omega
      go_wp2
      simp only [Exit.jump]
      go_end0
      exact ⟨rfl, hinv⟩
end Go.Proofs.Ytjonkpdjhjobfaa
