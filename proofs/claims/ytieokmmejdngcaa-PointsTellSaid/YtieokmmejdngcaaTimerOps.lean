/-
  What Start, Stop, Left and New of a set of timers answer.
-/
import Derived.Test.YtieokmmejdngcaaTimers
namespace Go.Proofs.Ytieokmmejdngcaa
open Go.RowKit

def isP (p : Nat) (k : Nat) : Prop := k = p
def SE (i n : Int) : Int := if inR i && (decide (1 ≤ n) && decide (n ≤ 1000)) then 0 else 1
def SL (L : List Int) (i n : Int) : List Int := if inR i && (decide (1 ≤ n) && decide (n ≤ 1000)) then L.set i.toNat n else L
def PL (L : List Int) (i : Int) : List Int := if inR i then L.set i.toNat 0 else L
def LV (L : List Int) (i : Int) : Int := if inR i then L[i.toNat]?.getD 0 else 0

theorem new_t (w : World) : Calls Try.prog 10 #[] w fun e w' => e = .returned (.pointer (some ⟨w.heap.size, 0, none⟩)) ∧ TRep w' w.heap.size (List.replicate 8 0) ∧ Below w.heap.size w w' := by
  go_enter Try.func10, Try.ntmps10
  go_wp2
  go_ret
  refine ⟨rfl, ⟨rfl, fun x hx => ?_, Row.made _ _ _⟩, bl_alloc (Below.refl _ _) _⟩
  simp at hx
  omega

theorem start_t {p : Nat} {L : List Int} (i n : Int) (w : World) (h : TRep w p L) :
    Calls Try.prog 11 #[.pointer (some ⟨p, 0, none⟩), .int .i64 i, .int .i64 n] w fun e w' => e = .returned (.int .i64 (SE i n)) ∧ TRep w' p (SL L i n) ∧ Only (isP p) w w' := by
  have H := Lib.hid h
  cases hi : inR i
  · have hs : SE i n = 1 := by unfold SE; rw [hi]; rfl
    have hl : SL L i n = L := by unfold SL; rw [hi]; rfl
    rw [hs, hl]
    clear hs hl h
    go_enter Try.func11, Try.ntmps11
    go_wp2_with (go_at_call 37; refine (fault_bad _ hi _ H.out).mono ?_; rintro e w1 ⟨rfl, rfl⟩)
    go_ret
    exact ⟨rfl, H.out, Only.refl _ _⟩
  · obtain ⟨k, rfl, hk⟩ := inR_nat hi
    by_cases hn : 1 ≤ n ∧ n ≤ 1000
    · have hb : (inR (k : Int) && (decide (1 ≤ n) && decide (n ≤ 1000))) = true := by rw [hi]; simp; omega
      have hs : SE k n = 0 := by unfold SE; rw [hb]; rfl
      have hl : SL L k n = L.set k n := by unfold SL; rw [hb]; rfl
      rw [hs, hl]
      obtain ⟨hn1, hn2⟩ := hn
      obtain ⟨x, hx, _, _⟩ := h.has hk
      have hc := h.at hx
      have hf := h.free (1 + k)
      have hk0 : (0 : Int) ≤ (k : Int) := by omega
      have hk8 : (k : Int) < 8 := by omega
      clear hs hl hb hx h hi
      go_enter Try.func11, Try.ntmps11
      go_wp2_with (go_at_call 37; refine (fault_ok k hk _ H.out).mono ?_; rintro e w1 ⟨rfl, rfl⟩)
      go_ret
      exact ⟨rfl, H.out.set k (by omega) hn2, wrote_at _ _ _ _⟩
    · have hb : (inR (k : Int) && (decide (1 ≤ n) && decide (n ≤ 1000))) = false := by rw [hi]; simp; omega
      have hs : SE k n = 1 := by unfold SE; rw [hb]; rfl
      have hl : SL L k n = L := by unfold SL; rw [hb]; rfl
      rw [hs, hl]
      clear hs hl h hb hi
      by_cases h1 : n < 1
      · go_enter Try.func11, Try.ntmps11
        go_wp2_with (go_at_call 37; refine (fault_ok k hk _ H.out).mono ?_; rintro e w1 ⟨rfl, rfl⟩)
        go_ret
        exact ⟨rfl, H.out, Only.refl _ _⟩
      · have h2 : 1000 < n := by omega
        go_enter Try.func11, Try.ntmps11
        go_wp2_with (go_at_call 37; refine (fault_ok k hk _ H.out).mono ?_; rintro e w1 ⟨rfl, rfl⟩)
        go_ret
        exact ⟨rfl, H.out, Only.refl _ _⟩

theorem stop_t {p : Nat} {L : List Int} (i : Int) (w : World) (h : TRep w p L) :
    Calls Try.prog 13 #[.pointer (some ⟨p, 0, none⟩), .int .i64 i] w fun e w' => e = .returned (.int .i64 (FE i)) ∧ TRep w' p (PL L i) ∧ Only (isP p) w w' := by
  have H := Lib.hid h
  cases hi : inR i
  · have hs : FE i = 1 := by unfold FE; rw [hi]; rfl
    have hl : PL L i = L := by unfold PL; rw [hi]; rfl
    rw [hs, hl]
    clear hs hl h
    go_enter Try.func13, Try.ntmps13
    go_wp2_with (go_at_call 37; refine (fault_bad _ hi _ H.out).mono ?_; rintro e w1 ⟨rfl, rfl⟩)
    go_ret
    exact ⟨rfl, H.out, Only.refl _ _⟩
  · obtain ⟨k, rfl, hk⟩ := inR_nat hi
    have hs : FE k = 0 := by unfold FE; rw [hi]; rfl
    have hl : PL L k = L.set k 0 := by unfold PL; rw [hi]; rfl
    rw [hs, hl]
    obtain ⟨x, hx, _, _⟩ := h.has hk
    have hc := h.at hx
    have hf := h.free (1 + k)
    have hk0 : (0 : Int) ≤ (k : Int) := by omega
    have hk8 : (k : Int) < 8 := by omega
    clear hs hl hx h hi
    go_enter Try.func13, Try.ntmps13
    go_wp2_with (go_at_call 37; refine (fault_ok k hk _ H.out).mono ?_; rintro e w1 ⟨rfl, rfl⟩)
    go_ret
    exact ⟨rfl, H.out.set k (by omega) (by omega), wrote_at _ _ _ _⟩

theorem left_t {p : Nat} {L : List Int} (i : Int) (w : World) (h : TRep w p L) :
    Calls Try.prog 19 #[.pointer (some ⟨p, 0, none⟩), .int .i64 i] w fun e w' => e = .returned (.int .i64 (LV L i)) ∧ w = w' := by
  have H := Lib.hid h
  cases hi : inR i
  · have hs : LV L i = 0 := by unfold LV; rw [hi]; rfl
    rw [hs]
    clear hs h
    go_enter Try.func19, Try.ntmps19
    go_wp2_with (go_at_call 37; refine (fault_bad _ hi _ H.out).mono ?_; rintro e w1 ⟨rfl, rfl⟩)
    go_ret
    exact ⟨rfl, rfl⟩
  · obtain ⟨k, rfl, hk⟩ := inR_nat hi
    obtain ⟨x, hx, _, _⟩ := h.has hk
    have hs : LV L k = x := by unfold LV; rw [hi, if_pos rfl, Int.toNat_natCast, hx]; rfl
    rw [hs]
    have hc := h.at hx
    have hk0 : (0 : Int) ≤ (k : Int) := by omega
    have hk8 : (k : Int) < 8 := by omega
    clear hs hx h hi
    go_enter Try.func19, Try.ntmps19
    go_wp2_with (go_at_call 37; refine (fault_ok k hk _ H.out).mono ?_; rintro e w1 ⟨rfl, rfl⟩)
    go_ret
    exact ⟨rfl, rfl⟩
theorem start_nil (i n : Int) (w : World) : Calls Try.prog 11 #[.pointer none, .int .i64 i, .int .i64 n] w fun e w' => e = .returned (.int .i64 6) ∧ w = w' := by
  go_enter Try.func11, Try.ntmps11
  go_wp2_with (go_at_call 37; refine (fault_nil _ _).mono ?_; rintro e w1 ⟨rfl, rfl⟩)
  go_ret
  exact ⟨rfl, rfl⟩
theorem start_zero {p : Nat} (i n : Int) (w : World) (h : TZero w p) : Calls Try.prog 11 #[.pointer (some ⟨p, 0, none⟩), .int .i64 i, .int .i64 n] w fun e w' => e = .returned (.int .i64 6) ∧ w = w' := by
  go_enter Try.func11, Try.ntmps11
  go_wp2_with (go_at_call 37; refine (fault_zero _ _ h).mono ?_; rintro e w1 ⟨rfl, rfl⟩)
  go_ret
  exact ⟨rfl, rfl⟩
theorem stop_nil (i : Int) (w : World) : Calls Try.prog 13 #[.pointer none, .int .i64 i] w fun e w' => e = .returned (.int .i64 6) ∧ w = w' := by
  go_enter Try.func13, Try.ntmps13
  go_wp2_with (go_at_call 37; refine (fault_nil _ _).mono ?_; rintro e w1 ⟨rfl, rfl⟩)
  go_ret
  exact ⟨rfl, rfl⟩
theorem stop_zero {p : Nat} (i : Int) (w : World) (h : TZero w p) : Calls Try.prog 13 #[.pointer (some ⟨p, 0, none⟩), .int .i64 i] w fun e w' => e = .returned (.int .i64 6) ∧ w = w' := by
  go_enter Try.func13, Try.ntmps13
  go_wp2_with (go_at_call 37; refine (fault_zero _ _ h).mono ?_; rintro e w1 ⟨rfl, rfl⟩)
  go_ret
  exact ⟨rfl, rfl⟩
theorem left_nil (i : Int) (w : World) : Calls Try.prog 19 #[.pointer none, .int .i64 i] w fun e w' => e = .returned (.int .i64 0) ∧ w = w' := by
  go_enter Try.func19, Try.ntmps19
  go_wp2_with (go_at_call 37; refine (fault_nil _ _).mono ?_; rintro e w1 ⟨rfl, rfl⟩)
  go_ret
  exact ⟨rfl, rfl⟩
theorem left_zero {p : Nat} (i : Int) (w : World) (h : TZero w p) : Calls Try.prog 19 #[.pointer (some ⟨p, 0, none⟩), .int .i64 i] w fun e w' => e = .returned (.int .i64 0) ∧ w = w' := by
  go_enter Try.func19, Try.ntmps19
  go_wp2_with (go_at_call 37; refine (fault_zero _ _ h).mono ?_; rintro e w1 ⟨rfl, rfl⟩)
  go_ret
  exact ⟨rfl, rfl⟩
end Go.Proofs.Ytieokmmejdngcaa
