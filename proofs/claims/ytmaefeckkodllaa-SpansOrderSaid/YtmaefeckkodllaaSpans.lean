/-
  What the small functions of package spans do; how spans are gone through.
-/
import Derived.Test.YtmaefeckkodllaaMem
import Derived.Test.YtmaefeckkodllaaSpanMath
import Derived.Outline
namespace Go.Proofs.Ytmaefeckkodllaa
open Go.RowKit

theorem Try.info24 : (Try.prog.info? 24).map (fun i => (i.zero, i.size, i.bytes)) = some (some (.agg #[.int .i64 0, .int .i64 0]), 2, 16) := by kernel_rfl
theorem info24_parts : ∃ i, Try.prog.info? 24 = some i ∧ i.zero = some (.agg #[.int .i64 0, .int .i64 0]) ∧ i.size = 2 ∧ i.bytes = 16 := info_parts Try.info24

theorem add_zero_addr (g j : Nat) : (⟨g, 0, none⟩ : Addr).add j = ⟨g, j, none⟩ := by
  unfold Addr.add
  split
  · rename_i h
    rw [h]
  · simp
/-- a span as a value -/
def spv (y : Int × Int) : Value := .agg #[.int .i64 y.1, .int .i64 y.2]
/-- spans as cells -/
def spc (L : List (Int × Int)) : List Value := L.flatMap fun y => [.int .i64 y.1, .int .i64 y.2]
theorem spc_cons (y : Int × Int) (r : List (Int × Int)) : spc (y :: r) = .int .i64 y.1 :: .int .i64 y.2 :: spc r := rfl
theorem spc_append (A B : List (Int × Int)) : spc (A ++ B) = spc A ++ spc B := by simp [spc]
theorem length_spc (L : List (Int × Int)) : (spc L).length = L.length * 2 := by
  induction L with
  | nil => rfl
  | cons y r ih => rw [spc_cons]; simp [ih]; omega
theorem spc_one (L : List (Int × Int)) : ∀ v ∈ spc L, v.oneCell' = true := by
  intro v hv
  simp only [spc, List.mem_flatMap] at hv
  obtain ⟨y, _, hv⟩ := hv
  simp at hv
  rcases hv with rfl | rfl <;> rfl
theorem spc_at0 {L : List (Int × Int)} {i : Nat} {y : Int × Int} (h : L[i]? = some y) : (spc L)[i * 2]? = some (.int .i64 y.1) := by
  induction L generalizing i with
  | nil => simp at h
  | cons z r ih =>
    cases i with
    | zero => simp at h; subst h; rfl
    | succ i => rw [spc_cons, show (i + 1) * 2 = i * 2 + 1 + 1 by omega]; simpa using ih (by simpa using h)
theorem spc_at1 {L : List (Int × Int)} {i : Nat} {y : Int × Int} (h : L[i]? = some y) : (spc L)[i * 2 + 1]? = some (.int .i64 y.2) := by
  induction L generalizing i with
  | nil => simp at h
  | cons z r ih =>
    cases i with
    | zero => simp at h; subst h; rfl
    | succ i => rw [spc_cons, show (i + 1) * 2 + 1 = i * 2 + 1 + 1 + 1 by omega]; simpa using ih (by simpa using h)

set_option maxHeartbeats 400000 in
theorem some_any (y : Int × Int) (w : World) :
    Calls Try.prog 57 #[spv y] w fun e w' => e = .returned (.bool (decide (y.1 < y.2))) ∧ Below w.heap.size w w' := by
  unfold spv
  obtain ⟨a, b⟩ := y
  go_enter Try.func57, Try.ntmps57
  go_wp2
  go_ret
  exact ⟨rfl, bl_alloc (Below.refl _ _) _⟩

set_option maxHeartbeats 400000 in
theorem right_any (y : Int × Int) (w : World) :
    Calls Try.prog 27 #[spv y] w fun e w' => e = .returned (.bool (rightB y)) ∧ Below w.heap.size w w' := by
  obtain ⟨a, b⟩ := y
  by_cases h1 : 0 ≤ a
  · by_cases h2 : b ≤ 65536
    · have H := Lib.hid (show rightB (a, b) = decide (a < b) by simp [rightB, h1, h2])
      show Calls Try.prog 27 #[.agg #[.int .i64 a, .int .i64 b]] w _
      go_enter Try.func27, Try.ntmps27
      go_wp2_with (go_at_call 57; refine (some_any (a, b) _).mono ?_; rintro e w1 ⟨rfl, hb⟩)
      go_ret
      exact ⟨ret_bool (by rw [H.out]), bl_step (bl_alloc (Below.refl _ _) _) hb⟩
    · have H := Lib.hid (show rightB (a, b) = false by simp [rightB, h2])
      show Calls Try.prog 27 #[.agg #[.int .i64 a, .int .i64 b]] w _
      go_enter Try.func27, Try.ntmps27
      go_wp2
      go_ret
      exact ⟨ret_bool (by rw [H.out]), bl_alloc (Below.refl _ _) _⟩
  · have H := Lib.hid (show rightB (a, b) = false by simp [rightB, h1])
    show Calls Try.prog 27 #[.agg #[.int .i64 a, .int .i64 b]] w _
    go_enter Try.func27, Try.ntmps27
    go_wp2
    go_ret
    exact ⟨ret_bool (by rw [H.out]), bl_alloc (Below.refl _ _) _⟩

set_option maxHeartbeats 400000 in
theorem fault_nil (y : Int × Int) (w : World) :
    Calls Try.prog 45 #[.pointer none, spv y] w fun e w' => e = .returned (.int .i64 6) ∧ Below w.heap.size w w' := by
  unfold spv
  go_enter Try.func45, Try.ntmps45
  go_wp2
  go_ret
  exact ⟨rfl, bl_alloc (Below.refl _ _) _⟩
set_option maxHeartbeats 400000 in
theorem fault_arg (p : Nat) (y : Int × Int) (w : World) (h : rightB y = false) :
    Calls Try.prog 45 #[.pointer (some ⟨p, 0, none⟩), spv y] w fun e w' => e = .returned (.int .i64 1) ∧ Below w.heap.size w w' := by
  obtain ⟨a, b⟩ := y
  have H := Lib.hid h
  clear h
  show Calls Try.prog 45 #[_, .agg #[.int .i64 a, .int .i64 b]] w _
  go_enter Try.func45, Try.ntmps45
  go_wp2_with (go_at_call 27; refine (right_any (a, b) _).mono ?_; rintro e w1 ⟨rfl, hb⟩; rw [H.out])
  go_ret
  exact ⟨rfl, bl_step (bl_alloc (Below.refl _ _) _) hb⟩
set_option maxHeartbeats 400000 in
theorem fault_ok (p : Nat) (y : Int × Int) (w : World) (h : rightB y = true) :
    Calls Try.prog 45 #[.pointer (some ⟨p, 0, none⟩), spv y] w fun e w' => e = .returned (.int .i64 0) ∧ Below w.heap.size w w' := by
  obtain ⟨a, b⟩ := y
  have H := Lib.hid h
  clear h
  show Calls Try.prog 45 #[_, .agg #[.int .i64 a, .int .i64 b]] w _
  go_enter Try.func45, Try.ntmps45
  go_wp2_with (go_at_call 27; refine (right_any (a, b) _).mono ?_; rintro e w1 ⟨rfl, hb⟩; rw [H.out])
  go_ret
  exact ⟨rfl, bl_step (bl_alloc (Below.refl _ _) _) hb⟩

/-- the set at block p, whose slice value is sv, has these spans; all above block B -/
def SRep (B : Nat) (w : World) (p : Nat) (sv : Value) (L : List (Int × Int)) : Prop :=
  B ≤ p ∧ Row w p 88 #[sv] ∧ w.ownsRow B 24 2 sv L.length (spc L)

theorem SRep.only {B : Nat} {w v : World} {p : Nat} {sv : Value} {L : List (Int × Int)} {S : Nat → Prop} (h : SRep B w p sv L) (ho : Only S w v) (h1 : ¬ S p) (h2 : ∀ k, sv.ownBlock = some k → ¬ S k) : SRep B v p sv L :=
  ⟨h.1, h.2.1.only ho h1, own_only h.2.2 ho h2⟩
theorem SRep.later {B : Nat} {w v : World} {p : Nat} {sv : Value} {L : List (Int × Int)} (h : SRep B w p sv L) (hb : Below w.heap.size w v) : SRep B v p sv L :=
  h.only (S := fun _ => False) (.of_below hb) (fun h => h) (fun _ _ h => h)
theorem own_shape {w : World} {B : Nat} {e size : Nat} {sv : Value} {n : Nat} {xs : List Value} (h : w.ownsRow B e size sv n xs) : ∃ A cap, sv = .slice A n cap ∧ n ≤ cap ∧ cap ≤ maxLen := by
  rcases h.2 with ⟨rfl, h0⟩ | ⟨g, cap, cur, rfl, _, _, h1, h2, _⟩
  · exact ⟨none, 0, by rw [h0], by omega, by simp [maxLen]⟩
  · exact ⟨_, cap, rfl, h1, h2⟩

set_option maxHeartbeats 400000 in
theorem become_any {B : Nat} {w : World} {p : Nat} {sv sv' : Value} {L L' : List (Int × Int)} (h : SRep B w p sv L) (h' : w.ownsRow B 24 2 sv' L'.length (spc L')) (hl : L'.length ≤ 2048) :
    Calls Try.prog 49 #[.pointer (some ⟨p, 0, none⟩), sv'] w fun e w' => e = .returned (.int .i64 0) ∧ SRep B w' p sv' L' ∧ Only (fun k => k = p) w w' := by
  have hap := own_apart h' h.2.1 (by decide)
  obtain ⟨A, cap, rfl, _, _⟩ := own_shape h'
  have hf := h.2.1.free 0
  have hc : w.cell? ⟨p, 0, none⟩ = some sv := h.2.1.read rfl
  have HR := Lib.hid (show SRep B (w.setCell ⟨p, 0, none⟩ (.slice A L'.length cap)) p (.slice A L'.length cap) L' from
    ⟨h.1, h.2.1.written 0 _, own_only h' ((Only.refl (fun k => k = p) _).set (.inl rfl) _) (fun k hk hS => by subst hS; exact hap hk)⟩)
  have HO := Lib.hid (show Only (fun k => k = p) w (w.setCell ⟨p, 0, none⟩ (.slice A L'.length cap)) from (Only.refl (fun k => k = p) _).set (.inl rfl) _)
  clear h h' hap
  generalize L'.length = n at *
  go_enter Try.func49, Try.ntmps49
  go_wp2
  go_ret
  exact ⟨rfl, HR.out, HO.out⟩

set_option maxHeartbeats 400000 in
theorem each_nil (f : Value) (w : World) :
    Calls Try.prog 47 #[.pointer none, f] w fun e w' => e = .returned (.tuple #[]) ∧ w = w' := by
  go_enter Try.func47, Try.ntmps47
  go_wp2
  go_step3
  go_wp2
  rw [Exit.noGoto_ret]
  refine bodyPost_ret (results_none rfl _ _ _) rfl ?_
  exact ⟨rfl, rfl⟩

set_option maxRecDepth 100000 in
set_option maxHeartbeats 1600000 in
theorem each_any {B p K : Nat} {caps : Array Value} {sv : Value} {L : List (Int × Int)} (hK : K = 50 ∨ K = 48 ∨ K = 52 ∨ K = 54 ∨ K = 55 ∨ K = 56) (Inv : Nat → World → Prop) (w : World) (h0 : Inv 0 w)
    (hrep : ∀ k W, Inv k W → SRep B W p sv L)
    (hstep : ∀ k W y, L[k]? = some y → Inv k W → Calls Try.prog K (#[spv y] ++ caps) W fun e W' => e = .returned (.tuple #[]) ∧ Inv (k + 1) W') :
    Calls Try.prog 47 #[.pointer (some ⟨p, 0, none⟩), .func (.func K) #[] caps] w fun e w' => e = .returned (.tuple #[]) ∧ Inv L.length w' := by
  obtain ⟨A, cap, rfl, hcap, hmax⟩ := own_shape (hrep 0 w h0).2.2
  unfold maxLen at hmax
  have HR := Lib.hid hrep
  have HS := Lib.hid hstep
  have H0 := Lib.hid h0
  clear hrep hstep h0
  go_enter Try.func47, Try.ntmps47
  go_wp2
  refine wp_scope_jumps 0 (fun a' w' => ∃ k : Nat, k ≤ L.length ∧ Fr [some (.pointer (some ⟨p, 0, none⟩)), some (.func (.func K) #[] caps), none, none, some (.int .i64 k), none, none, none, none, none, none, none, none, none, none, none, none, none, none, none, none, none, none, none, none] a' ∧ Inv k w') (fun a' _ => L.length - (intOf (a'.tmps.getD 4 undef)).toNat) rfl ?_ ?_
  · have hc : w.cell? ⟨p, 0, none⟩ = some (.slice A L.length cap) := (HR.out 0 w H0.out).2.1.read rfl
    rcases Nat.eq_zero_or_pos L.length with hk0 | hk0
    · go_wp2
      go_step3
      go_wp2
      simp only [Exit.jump]
      go_end0
      exact ⟨rfl, by rw [hk0]; exact H0.out⟩
    · obtain ⟨g, cap', hv, hB, hg⟩ := (HR.out 0 w H0.out).2.2.form hk0
      injection hv with hA _ _
      subst hA
      obtain ⟨y, hy⟩ : ∃ y, L[0]? = some y := ⟨_, List.getElem?_eq_getElem hk0⟩
      have hcell := (HR.out 0 w H0.out).2.2.cells (g := g) rfl
      have c0 := hcell 0 _ (spc_at0 hy)
      have c1 := hcell 1 _ (spc_at1 hy)
      have HC := Lib.hid (HS.out 0 w y hy H0.out)
      simp [Addr.add] at c0 c1
      clear hcell hy
      rcases hK with rfl | rfl | rfl | rfl | rfl | rfl
      all_goals
        go_wp2
        go_step3
        go_wp2_with fail
        refine (HC.out).mono ?_
        rintro e w1 ⟨rfl, hi⟩
        go_wp2_with fail
        go_step3
        refine ⟨rfl, 1, by omega, ?_, hi⟩
        simp only [Fr, Holes]
        repeat apply Exists.intro
        rfl
  · rintro a' w' ⟨k, hk, hfr, hinv⟩
    simp only [Fr, Holes] at hfr
    repeat (obtain ⟨_, hfr⟩ := hfr)
    have hc : w'.cell? ⟨p, 0, none⟩ = some (.slice A L.length cap) := (HR.out k w' hinv).2.1.read rfl
    rcases Nat.lt_or_ge k L.length with hlt | hge
    · obtain ⟨g, cap', hv, hB, hg⟩ := (HR.out k w' hinv).2.2.form (by omega)
      injection hv with hA _ _
      subst hA
      obtain ⟨y, hy⟩ : ∃ y, L[k]? = some y := ⟨_, List.getElem?_eq_getElem hlt⟩
      have hcell := (HR.out k w' hinv).2.2.cells (g := g) rfl
      have c0 := hcell _ _ (spc_at0 hy)
      have c1 := hcell _ _ (spc_at1 hy)
      have HC := Lib.hid (HS.out k w' y hy hinv)
      have HI := Lib.hid hinv
      rw [add_zero_addr] at c0 c1
      clear hcell hy hinv
      rcases hK with rfl | rfl | rfl | rfl | rfl | rfl
      all_goals
        go_wp2_with fail
        refine (HC.out).mono ?_
        rintro e w1 ⟨rfl, hi⟩
        go_wp2_with fail
        go_step3
        refine ⟨rfl, ⟨k + 1, by omega, ?_, hi⟩, ?_⟩
        · simp only [Fr, Holes]
          repeat apply Exists.intro
          rfl
        · simp [intOf]; omega
    · obtain rfl : k = L.length := by omega
      go_wp2
      simp only [Exit.jump]
      go_end0
      exact ⟨rfl, hinv⟩
end Go.Proofs.Ytmaefeckkodllaa
