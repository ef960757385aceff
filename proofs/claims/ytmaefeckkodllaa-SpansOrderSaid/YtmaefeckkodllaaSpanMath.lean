/-
  Plain mathematics of spans: a normal form, put in, taken out, gaps, how many.
-/
import Derived.WalkKit
namespace Go.Proofs.Ytmaefeckkodllaa

/-- place p is in one of the spans -/
def Ins (p : Int) (L : List (Int × Int)) : Prop := ∃ y ∈ L, y.1 ≤ p ∧ p < y.2
/-- spans rising, none touches the next one, all from lo on -/
def Norm : Int → List (Int × Int) → Prop
  | _, [] => True
  | lo, y :: r => lo ≤ y.1 ∧ y.1 < y.2 ∧ y.2 ≤ 65536 ∧ Norm (y.2 + 1) r

theorem ins_nil {p : Int} : ¬ Ins p [] := fun ⟨_, h, _⟩ => by cases h
theorem ins_cons {p : Int} {y : Int × Int} {r : List (Int × Int)} : Ins p (y :: r) ↔ (y.1 ≤ p ∧ p < y.2) ∨ Ins p r := by
  unfold Ins
  constructor
  · rintro ⟨z, hz, h⟩
    rcases List.mem_cons.1 hz with rfl | hz
    · exact .inl h
    · exact .inr ⟨z, hz, h⟩
  · rintro (h | ⟨z, hz, h⟩)
    · exact ⟨y, List.mem_cons_self .., h⟩
    · exact ⟨z, List.mem_cons_of_mem _ hz, h⟩
theorem ins_append {p : Int} {A B : List (Int × Int)} : Ins p (A ++ B) ↔ Ins p A ∨ Ins p B := by
  induction A with
  | nil => simp [ins_nil]
  | cons a A ih => rw [List.cons_append, ins_cons, ins_cons, ih, or_assoc]

theorem Norm.mono {lo lo' : Int} {L : List (Int × Int)} (h : Norm lo L) (hl : lo' ≤ lo) : Norm lo' L := by
  cases L with
  | nil => trivial
  | cons y r => exact ⟨by have := h.1; omega, h.2⟩
theorem Norm.ge {lo p : Int} {L : List (Int × Int)} (h : Norm lo L) (hp : Ins p L) : lo ≤ p ∧ p < 65536 := by
  induction L generalizing lo with
  | nil => exact (ins_nil hp).elim
  | cons y r ih =>
    obtain ⟨h1, h2, h3, h4⟩ := h
    rcases ins_cons.1 hp with hp | hp
    · omega
    · have := ih h4 hp; omega
theorem Norm.mem {lo : Int} {L : List (Int × Int)} (h : Norm lo L) {y : Int × Int} (hy : y ∈ L) : lo ≤ y.1 ∧ y.1 < y.2 ∧ y.2 ≤ 65536 := by
  induction L generalizing lo with
  | nil => cases hy
  | cons z r ih =>
    obtain ⟨h1, h2, h3, h4⟩ := h
    rcases List.mem_cons.1 hy with rfl | hy
    · exact ⟨h1, h2, h3⟩
    · have := ih h4 hy; omega
theorem Norm.end_out {lo : Int} {L : List (Int × Int)} (h : Norm lo L) {y : Int × Int} (hy : y ∈ L) : ¬ Ins y.2 L := by
  induction L generalizing lo with
  | nil => cases hy
  | cons z r ih =>
    obtain ⟨h1, h2, h3, h4⟩ := h
    rw [ins_cons]
    rcases List.mem_cons.1 hy with rfl | hy
    · rintro (h5 | h5)
      · omega
      · have := h4.ge h5; omega
    · have h6 := h4.mem hy
      rintro (h5 | h5)
      · omega
      · exact ih h4 hy h5

/-- one set of places has one list of spans -/
theorem norm_unique {lo lo' : Int} {A B : List (Int × Int)} (hA : Norm lo A) (hB : Norm lo' B) (h : ∀ p, Ins p A ↔ Ins p B) : A = B := by
  induction A generalizing B lo lo' with
  | nil =>
    cases B with
    | nil => rfl
    | cons b B =>
      exact (ins_nil ((h b.1).2 (ins_cons.2 (.inl ⟨by omega, hB.2.1⟩)))).elim
  | cons a A ih =>
    cases B with
    | nil => exact (ins_nil ((h a.1).1 (ins_cons.2 (.inl ⟨by omega, hA.2.1⟩)))).elim
    | cons b B =>
      obtain ⟨a1, a2, a3, a4⟩ := hA
      obtain ⟨b1, b2, b3, b4⟩ := hB
      have e1 : a.1 = b.1 := by
        have h1 := (h a.1).1 (ins_cons.2 (.inl ⟨by omega, a2⟩))
        have h2 := (h b.1).2 (ins_cons.2 (.inl ⟨by omega, b2⟩))
        rw [ins_cons] at h1 h2
        have h3 : b.1 ≤ a.1 := by
          rcases h1 with h1 | h1
          · omega
          · have := b4.ge h1; omega
        have h4 : a.1 ≤ b.1 := by
          rcases h2 with h2 | h2
          · omega
          · have := a4.ge h2; omega
        omega
      have e2 : a.2 = b.2 := by
        rcases Int.lt_trichotomy a.2 b.2 with hlt | he | hlt
        · exfalso
          have h1 := (h a.2).2 (ins_cons.2 (.inl ⟨by omega, hlt⟩))
          rw [ins_cons] at h1
          rcases h1 with h1 | h1
          · omega
          · have := a4.ge h1; omega
        · exact he
        · exfalso
          have h1 := (h b.2).1 (ins_cons.2 (.inl ⟨by omega, hlt⟩))
          rw [ins_cons] at h1
          rcases h1 with h1 | h1
          · omega
          · have := b4.ge h1; omega
      have e : a = b := Prod.ext e1 e2
      subst e
      rw [ih a4 b4 fun p => ?_]
      have hp := h p
      rw [ins_cons, ins_cons] at hp
      constructor
      · intro h1
        have := a4.ge h1
        rcases hp.1 (.inr h1) with h2 | h2
        · omega
        · exact h2
      · intro h1
        have := b4.ge h1
        rcases hp.2 (.inr h1) with h2 | h2
        · omega
        · exact h2

/-! put in -/
def addStep (s : (Int × Int) × List (Int × Int) × List (Int × Int)) (y : Int × Int) : (Int × Int) × List (Int × Int) × List (Int × Int) :=
  if y.2 < s.1.1 then (s.1, s.2.1 ++ [y], s.2.2)
  else if s.1.2 < y.1 then (s.1, s.2.1, s.2.2 ++ [y])
  else ((min s.1.1 y.1, max s.1.2 y.2), s.2.1, s.2.2)
def addS (x : Int × Int) (L : List (Int × Int)) : (Int × Int) × List (Int × Int) × List (Int × Int) := L.foldl addStep (x, [], [])
def addF (x : Int × Int) (L : List (Int × Int)) : List (Int × Int) := (addS x L).2.1 ++ [(addS x L).1] ++ (addS x L).2.2
def addR : (Int × Int) → List (Int × Int) → List (Int × Int)
  | x, [] => [x]
  | x, y :: r => if y.2 < x.1 then y :: addR x r else if x.2 < y.1 then x :: y :: r else addR (min x.1 y.1, max x.2 y.2) r

theorem fold_behind {x : Int × Int} {A B : List (Int × Int)} : ∀ {r : List (Int × Int)} {lo : Int}, Norm lo r → x.2 < lo → x.1 < x.2 → r.foldl addStep (x, A, B) = (x, A, B ++ r) := by
  intro r
  induction r generalizing B with
  | nil => intros; simp
  | cons y r ih =>
    intro lo h h1 h2
    obtain ⟨a1, a2, a3, a4⟩ := h
    rw [List.foldl_cons]
    have e : addStep (x, A, B) y = (x, A, B ++ [y]) := by
      unfold addStep
      rw [if_neg (by simp; omega), if_pos (by simp; omega)]
    rw [e, ih a4 (by omega) h2, List.append_assoc]
    rfl
theorem addS_addR {A : List (Int × Int)} : ∀ {L : List (Int × Int)} {lo : Int} {x : Int × Int}, Norm lo L → x.1 < x.2 → (L.foldl addStep (x, A, [])).2.1 ++ [(L.foldl addStep (x, A, [])).1] ++ (L.foldl addStep (x, A, [])).2.2 = A ++ addR x L := by
  intro L
  induction L generalizing A with
  | nil => intros; simp [addR]
  | cons y r ih =>
    intro lo x h h2
    obtain ⟨a1, a2, a3, a4⟩ := h
    rw [List.foldl_cons]
    unfold addR
    by_cases c1 : y.2 < x.1
    · have e : addStep (x, A, []) y = (x, A ++ [y], []) := by unfold addStep; rw [if_pos (by simpa using c1)]
      rw [e, ih a4 h2, if_pos c1]
      simp
    · by_cases c2 : x.2 < y.1
      · have e : addStep (x, A, []) y = (x, A, [y]) := by
          unfold addStep
          rw [if_neg (by simpa using c1), if_pos (by simpa using c2)]
          rfl
        rw [e, fold_behind a4 (by omega) h2, if_neg c1, if_pos c2]
        simp
      · have e : addStep (x, A, []) y = ((min x.1 y.1, max x.2 y.2), A, []) := by
          unfold addStep
          rw [if_neg (by simpa using c1), if_neg (by simpa using c2)]
        rw [e, ih a4 (by simp; omega), if_neg c1, if_neg c2]
theorem addF_eq {lo : Int} {L : List (Int × Int)} {x : Int × Int} (h : Norm lo L) (hx : x.1 < x.2) : addF x L = addR x L := by
  have := addS_addR (A := []) h hx
  simpa [addF, addS] using this
theorem addR_norm : ∀ {L : List (Int × Int)} {lo : Int} {x : Int × Int}, Norm lo L → lo ≤ x.1 → x.1 < x.2 → x.2 ≤ 65536 → Norm lo (addR x L) := by
  intro L
  induction L with
  | nil => intro lo x _ h1 h2 h3; exact ⟨h1, h2, h3, trivial⟩
  | cons y r ih =>
    intro lo x h h1 h2 h3
    obtain ⟨a1, a2, a3, a4⟩ := h
    unfold addR
    by_cases c1 : y.2 < x.1
    · rw [if_pos c1]
      exact ⟨a1, a2, a3, ih a4 (by omega) h2 h3⟩
    · rw [if_neg c1]
      by_cases c2 : x.2 < y.1
      · rw [if_pos c2]
        exact ⟨h1, h2, h3, by omega, a2, a3, a4⟩
      · rw [if_neg c2]
        exact ih (a4.mono (by omega)) (by simp; omega) (by simp; omega) (by simp; omega)
theorem addR_ins {p : Int} : ∀ {L : List (Int × Int)} {lo : Int} {x : Int × Int}, Norm lo L → x.1 < x.2 → (Ins p (addR x L) ↔ Ins p L ∨ (x.1 ≤ p ∧ p < x.2)) := by
  intro L
  induction L with
  | nil => intro lo x _ h2; simp [addR, ins_cons, ins_nil]
  | cons y r ih =>
    intro lo x h h2
    obtain ⟨a1, a2, a3, a4⟩ := h
    unfold addR
    by_cases c1 : y.2 < x.1
    · rw [if_pos c1, ins_cons, ih a4 h2, ins_cons, or_assoc]
    · rw [if_neg c1]
      by_cases c2 : x.2 < y.1
      · rw [if_pos c2, ins_cons]
        exact or_comm
      · rw [if_neg c2, ih a4 (by simp; omega), ins_cons]
        have : (min x.1 y.1 ≤ p ∧ p < max x.2 y.2) ↔ ((x.1 ≤ p ∧ p < x.2) ∨ (y.1 ≤ p ∧ p < y.2)) := by omega
        simp only [this]
        constructor
        · rintro (h | h | h)
          · exact .inl (.inr h)
          · exact .inr h
          · exact .inl (.inl h)
        · rintro ((h | h) | h)
          · exact .inr (.inr h)
          · exact .inl h
          · exact .inr (.inl h)
theorem addR_len : ∀ {L : List (Int × Int)} {x : Int × Int}, (addR x L).length ≤ L.length + 1 := by
  intro L
  induction L with
  | nil => intro x; simp [addR]
  | cons y r ih =>
    intro x
    unfold addR
    split
    · simpa using ih
    · split
      · simp
      · have := ih (x := (min x.1 y.1, max x.2 y.2)); simp; omega

/-! taken out -/
def keepF (x : Int × Int) : List (Int × Int) := if x.1 < x.2 then [x] else []
def takeY (x y : Int × Int) : List (Int × Int) := keepF (y.1, min y.2 x.1) ++ keepF (max y.1 x.2, y.2)
def takeF (x : Int × Int) (L : List (Int × Int)) : List (Int × Int) := L.flatMap (takeY x)
theorem ins_keepF {p : Int} {x : Int × Int} : Ins p (keepF x) ↔ x.1 ≤ p ∧ p < x.2 := by
  unfold keepF
  split
  · simp [ins_cons, ins_nil]
  · simp only [ins_nil, false_iff]; omega
theorem norm_keepF {lo lo' : Int} {x : Int × Int} {L : List (Int × Int)} (h : Norm lo' L) (h1 : x.1 < x.2 → lo ≤ x.1 ∧ x.2 < lo' ∧ x.2 ≤ 65536) (h2 : lo ≤ lo') : Norm lo (keepF x ++ L) := by
  unfold keepF
  split
  · rename_i hx
    obtain ⟨k1, k2, k3⟩ := h1 hx
    exact ⟨k1, hx, k3, h.mono (by omega)⟩
  · simpa using h.mono h2
theorem takeF_norm {x : Int × Int} (hx : x.1 < x.2) : ∀ {L : List (Int × Int)} {lo : Int}, Norm lo L → Norm lo (takeF x L) := by
  intro L
  induction L with
  | nil => intros; trivial
  | cons y r ih =>
    intro lo h
    obtain ⟨a1, a2, a3, a4⟩ := h
    have hr := ih a4
    show Norm lo (takeY x y ++ takeF x r)
    unfold takeY
    rw [List.append_assoc]
    have h2 : Norm (max (max lo x.2) (min y.1 (y.2 + 1))) (keepF (max y.1 x.2, y.2) ++ takeF x r) ∨ True := .inr trivial
    clear h2
    by_cases c : max y.1 x.2 < y.2
    · have h3 : Norm (max y.1 x.2) (keepF (max y.1 x.2, y.2) ++ takeF x r) := norm_keepF hr (fun _ => by simp; omega) (by omega)
      exact norm_keepF h3 (fun h => by simp at h ⊢; omega) (by omega)
    · have h3 : keepF (max y.1 x.2, y.2) = [] := by unfold keepF; rw [if_neg (by simpa using c)]
      rw [h3, List.nil_append]
      exact norm_keepF hr (fun h => by simp at h ⊢; omega) (by omega)
theorem takeF_ins {p : Int} {x : Int × Int} (_hx : x.1 < x.2) : ∀ {L : List (Int × Int)}, Ins p (takeF x L) ↔ Ins p L ∧ ¬ (x.1 ≤ p ∧ p < x.2) := by
  intro L
  induction L with
  | nil => simp [takeF, ins_nil]
  | cons y r ih =>
    show Ins p (takeY x y ++ takeF x r) ↔ _
    unfold takeY
    rw [ins_append, ins_append, ins_keepF, ins_keepF, ih, ins_cons]
    simp only
    constructor
    · rintro ((h | h) | h)
      · exact ⟨.inl (by omega), by omega⟩
      · exact ⟨.inl (by omega), by omega⟩
      · exact ⟨.inr h.1, h.2⟩
    · rintro ⟨h | h, h2⟩
      · left
        omega
      · exact .inr ⟨h, h2⟩
theorem keepF_len (x : Int × Int) : (keepF x).length ≤ 1 := by unfold keepF; split <;> simp
theorem keepF_none {x : Int × Int} (h : ¬ x.1 < x.2) : keepF x = [] := by unfold keepF; rw [if_neg h]
theorem takeF_len0 {x : Int × Int} (_hx : x.1 < x.2) : ∀ {L : List (Int × Int)} {lo : Int}, Norm lo L → x.1 ≤ lo → (takeF x L).length ≤ L.length := by
  intro L
  induction L with
  | nil => intros; simp [takeF]
  | cons y r ih =>
    intro lo h h1
    obtain ⟨a1, a2, a3, a4⟩ := h
    have := ih a4 (by omega)
    show (takeY x y ++ takeF x r).length ≤ _
    unfold takeY
    rw [keepF_none (by simp; omega)]
    have h2 := keepF_len (max y.1 x.2, y.2)
    simp
    omega
theorem takeF_len {x : Int × Int} (hx : x.1 < x.2) : ∀ {L : List (Int × Int)} {lo : Int}, Norm lo L → (takeF x L).length ≤ L.length + 1 := by
  intro L
  induction L with
  | nil => intros; simp [takeF]
  | cons y r ih =>
    intro lo h
    obtain ⟨a1, a2, a3, a4⟩ := h
    show (takeY x y ++ takeF x r).length ≤ _
    unfold takeY
    have h2 := keepF_len (max y.1 x.2, y.2)
    have h3 := keepF_len (y.1, min y.2 x.1)
    by_cases c : max y.1 x.2 < y.2
    · have := takeF_len0 hx a4 (by omega)
      simp
      omega
    · rw [keepF_none (x := (max y.1 x.2, y.2)) (by simpa using c)]
      have := ih a4
      simp
      omega

/-! asked -/
def rightB (x : Int × Int) : Bool := decide (0 ≤ x.1 ∧ x.2 ≤ 65536 ∧ x.1 < x.2)
theorem rightB_iff {x : Int × Int} : rightB x = true ↔ 0 ≤ x.1 ∧ x.2 ≤ 65536 ∧ x.1 < x.2 := by simp [rightB]
def hasF (x : Int × Int) (L : List (Int × Int)) : Bool := L.any fun y => decide (y.1 ≤ x.1 ∧ x.2 ≤ y.2)
def touF (x : Int × Int) (L : List (Int × Int)) : Bool := L.any fun y => decide (y.1 < x.2 ∧ x.1 < y.2)
theorem hasF_iff {lo : Int} {L : List (Int × Int)} {x : Int × Int} (h : Norm lo L) (hx : x.1 < x.2) : hasF x L = true ↔ ∀ p, x.1 ≤ p → p < x.2 → Ins p L := by
  unfold hasF
  rw [List.any_eq_true]
  constructor
  · rintro ⟨y, hy, h1⟩ p h2 h3
    have h1 := of_decide_eq_true h1
    exact ⟨y, hy, by omega, by omega⟩
  · intro h1
    obtain ⟨y, hy, h2, h3⟩ := h1 x.1 (by omega) hx
    refine ⟨y, hy, decide_eq_true ⟨h2, ?_⟩⟩
    rcases Int.lt_or_le y.2 x.2 with h4 | h4
    · exact (h.end_out hy (h1 y.2 (by omega) h4)).elim
    · exact h4
theorem touF_iff {lo : Int} {L : List (Int × Int)} {x : Int × Int} (h : Norm lo L) (hx : x.1 < x.2) : touF x L = true ↔ ∃ p, x.1 ≤ p ∧ p < x.2 ∧ Ins p L := by
  unfold touF
  rw [List.any_eq_true]
  constructor
  · rintro ⟨y, hy, h1⟩
    have h1 := of_decide_eq_true h1
    have h2 := h.mem hy
    exact ⟨max x.1 y.1, by omega, by omega, y, hy, by omega, by omega⟩
  · rintro ⟨p, h1, h2, y, hy, h3, h4⟩
    exact ⟨y, hy, decide_eq_true (by omega)⟩

/-! how many -/
def countF (L : List (Int × Int)) : Int := L.foldl (fun n y => n + (y.2 - y.1)) 0
theorem countF_acc (n : Int) (L : List (Int × Int)) : L.foldl (fun n y => n + (y.2 - y.1)) n = n + countF L := by
  unfold countF
  induction L generalizing n with
  | nil => simp
  | cons y r ih => rw [List.foldl_cons, List.foldl_cons, ih, ih (0 + _)]; omega
theorem countF_cons (y : Int × Int) (r : List (Int × Int)) : countF (y :: r) = (y.2 - y.1) + countF r := by
  have := countF_acc (0 + (y.2 - y.1)) r
  unfold countF at *
  rw [List.foldl_cons, this]
  omega
theorem countF_nil : countF [] = 0 := rfl
theorem countF_snoc (A : List (Int × Int)) (y : Int × Int) : countF (A ++ [y]) = countF A + (y.2 - y.1) := by
  unfold countF
  rw [List.foldl_append]
  rfl
/-- how many places below n are so -/
def cnt (f : Nat → Bool) : Nat → Nat
  | 0 => 0
  | n + 1 => cnt f n + if f n then 1 else 0
theorem cnt_congr {f g : Nat → Bool} {n : Nat} (h : ∀ p, p < n → f p = g p) : cnt f n = cnt g n := by
  induction n with
  | zero => rfl
  | succ n ih => unfold cnt; rw [ih fun p hp => h p (by omega), h n (by omega)]
theorem cnt_or {f g : Nat → Bool} {n : Nat} (h : ∀ p, p < n → ¬ (f p = true ∧ g p = true)) : cnt (fun p => f p || g p) n = cnt f n + cnt g n := by
  induction n with
  | zero => rfl
  | succ n ih =>
    unfold cnt
    rw [ih fun p hp => h p (by omega)]
    have := h n (by omega)
    cases h1 : f n <;> cases h2 : g n <;> simp_all <;> omega
theorem cnt_span (a b : Int) (ha : 0 ≤ a) (hb : a ≤ b) : ∀ n : Nat, (cnt (fun p => decide (a ≤ (p : Int) ∧ (p : Int) < b)) n : Int) = max 0 (min (n : Int) b - a) := by
  intro n
  induction n with
  | zero => simp [cnt]; omega
  | succ n ih =>
    unfold cnt
    by_cases h : a ≤ (n : Int) ∧ (n : Int) < b
    · rw [if_pos (by simpa using h)]; omega
    · rw [if_neg (by simpa using h)]; omega
def insB (L : List (Int × Int)) (p : Nat) : Bool := L.any fun y => decide (y.1 ≤ (p : Int) ∧ (p : Int) < y.2)
theorem insB_iff {L : List (Int × Int)} {p : Nat} : insB L p = true ↔ Ins p L := by
  unfold insB Ins
  rw [List.any_eq_true]
  constructor
  · rintro ⟨y, hy, h⟩; exact ⟨y, hy, of_decide_eq_true h⟩
  · rintro ⟨y, hy, h⟩; exact ⟨y, hy, decide_eq_true h⟩
theorem countF_cnt {N : Nat} : ∀ {L : List (Int × Int)} {lo : Int}, 0 ≤ lo → Norm lo L → (∀ y ∈ L, y.2 ≤ (N : Int)) → countF L = cnt (insB L) N := by
  intro L
  induction L with
  | nil =>
    intro lo _ _ _
    have : cnt (insB []) N = cnt (fun _ => false) N := cnt_congr fun _ _ => rfl
    rw [this]
    have : ∀ n, cnt (fun _ => false) n = 0 := by
      intro n
      induction n with
      | zero => rfl
      | succ n ih => unfold cnt; rw [ih]; rfl
    rw [this]
    rfl
  | cons y r ih =>
    intro lo h0 h hN
    obtain ⟨a1, a2, a3, a4⟩ := h
    have e : cnt (insB (y :: r)) N = cnt (fun p => decide (y.1 ≤ (p : Int) ∧ (p : Int) < y.2) || insB r p) N := cnt_congr fun _ _ => rfl
    have hd : ∀ p : Nat, p < N → ¬ (decide (y.1 ≤ (p : Int) ∧ (p : Int) < y.2) = true ∧ insB r p = true) := by
      rintro p _ ⟨h1, h2⟩
      have h1 := of_decide_eq_true h1
      have := a4.ge (insB_iff.1 h2)
      omega
    rw [e, cnt_or hd, countF_cons, ih (by omega) a4 fun z hz => hN z (List.mem_cons_of_mem _ hz)]
    have h1 := cnt_span y.1 y.2 (by omega) (by omega) N
    have h2 := hN y (List.mem_cons_self ..)
    omega

/-! what is not there -/
def gapsR (to : Int) : Int → List (Int × Int) → List (Int × Int)
  | f, [] => keepF (f, to)
  | f, y :: r => keepF (f, min y.1 to) ++ gapsR to y.2 r
theorem gapsR_norm {to : Int} (ht : to ≤ 65536) : ∀ {L : List (Int × Int)} {lo : Int}, Norm lo L → ∀ f, f ≤ lo → Norm f (gapsR to f L) := by
  intro L
  induction L with
  | nil =>
    intro lo _ f _
    have := norm_keepF (lo := f) (lo' := max (f + 1) (to + 1)) (x := (f, to)) (L := []) trivial (fun _ => by simp; omega) (by omega)
    simpa [gapsR] using this
  | cons y r ih =>
    intro lo h f hf
    obtain ⟨a1, a2, a3, a4⟩ := h
    have h1 := ih a4 y.2 (by omega)
    exact norm_keepF h1 (fun h => by simp at h ⊢; omega) (by omega)
theorem gapsR_ins {p to : Int} : ∀ {L : List (Int × Int)} {lo : Int}, Norm lo L → ∀ f, f ≤ lo → (Ins p (gapsR to f L) ↔ f ≤ p ∧ p < to ∧ ¬ Ins p L) := by
  intro L
  induction L with
  | nil =>
    intro lo _ f _
    simp [gapsR, ins_keepF, ins_nil]
  | cons y r ih =>
    intro lo h f hf
    obtain ⟨a1, a2, a3, a4⟩ := h
    show Ins p (keepF (f, min y.1 to) ++ gapsR to y.2 r) ↔ _
    rw [ins_append, ins_keepF, ih a4 y.2 (by omega), ins_cons]
    simp only
    constructor
    · rintro (h | ⟨h1, h2, h3⟩)
      · refine ⟨by omega, by omega, ?_⟩
        rintro (h5 | h5)
        · omega
        · have := a4.ge h5; omega
      · refine ⟨by omega, by omega, ?_⟩
        rintro (h5 | h5)
        · omega
        · exact h3 h5
    · rintro ⟨h1, h2, h3⟩
      rcases Int.lt_or_le p y.1 with h4 | h4
      · exact .inl (by omega)
      · refine .inr ⟨?_, h2, fun h5 => h3 (.inr h5)⟩
        rcases Int.lt_or_le p y.2 with h5 | h5
        · exact (h3 (.inl ⟨h4, h5⟩)).elim
        · exact h5
/-- the places of spans ahead of a place -/
def aheadF (to : Int) (L : List (Int × Int)) : Int := L.foldl (fun n y => if y.1 < to then (if y.2 < to then n + y.2 - y.1 else n + to - y.1) else n) 0
theorem aheadF_acc (to n : Int) (L : List (Int × Int)) : L.foldl (fun n y => if y.1 < to then (if y.2 < to then n + y.2 - y.1 else n + to - y.1) else n) n = n + aheadF to L := by
  unfold aheadF
  induction L generalizing n with
  | nil => simp
  | cons y r ih => rw [List.foldl_cons, List.foldl_cons, ih, ih (if y.1 < to then _ else _)]; split <;> (try split) <;> omega
theorem gaps_all {to : Int} : ∀ {L : List (Int × Int)} {lo : Int}, Norm lo L → ∀ f, f ≤ lo → countF (gapsR to f L) + aheadF to L = max 0 (to - f) := by
  intro L
  induction L with
  | nil =>
    intro lo _ f _
    simp only [gapsR, keepF, aheadF, List.foldl_nil]
    split
    · rw [countF_cons, countF_nil]; (try simp only at *); omega
    · rw [countF_nil]; (try simp only at *); omega
  | cons y r ih =>
    intro lo h f hf
    obtain ⟨a1, a2, a3, a4⟩ := h
    have h1 := ih a4 y.2 (by omega)
    have h2 : aheadF to (y :: r) = (if y.1 < to then (if y.2 < to then 0 + y.2 - y.1 else 0 + to - y.1) else 0) + aheadF to r := by
      unfold aheadF
      rw [List.foldl_cons]
      exact aheadF_acc to _ r
    rw [h2]
    show countF (keepF (f, min y.1 to) ++ gapsR to y.2 r) + _ = _
    unfold keepF
    split
    · rw [List.singleton_append, countF_cons]
      (try simp only at *)
      split <;> (try split) <;> omega
    · rw [List.nil_append]
      (try simp only at *)
      split <;> (try split) <;> omega
end Go.Proofs.Ytmaefeckkodllaa
