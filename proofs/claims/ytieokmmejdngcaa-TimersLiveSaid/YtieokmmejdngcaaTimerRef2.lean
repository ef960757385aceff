/-
  The document's Tick; the law's own comparison of two lists of ints.
-/
import Derived.Test.YtieokmmejdngcaaTimerRef
namespace Go.Proofs.Ytieokmmejdngcaa
open Go.RowKit

def ISrc (w : World) (A : Option Addr) (l : List Int) : Prop := ∀ (i : Nat) (x : Int), l[i]? = some x → ∃ g, A = some ⟨g, 0, none⟩ ∧ w.cell? ⟨g, i, none⟩ = some (Value.int .i64 x)
theorem ISrc.drewN {w : World} {A : Option Addr} {l : List Int} (h : ISrc w A l) (q : Nat) : ISrc (w.drewN q) A l := fun i x hx => by
  obtain ⟨g, h1, h2⟩ := h i x hx
  exact ⟨g, h1, kept_box (below_drewN (Below.refl _ _) q) h2⟩

theorem Ints.src {B : Nat} {w : World} {A : Option Addr} {n c : Nat} {l : List Int} (h : Ints B w (.slice A n c) l) : ISrc w A l := fun i x hx => by
  obtain ⟨A', hv, hr⟩ := h.read
  injection hv with hv _ _
  subst hv
  obtain ⟨g, h1, _, h2⟩ := hr i x hx
  exact ⟨g, h1, h2⟩

def SameOk (w : World) (e : Ending) (w' : World) : Prop := e = .returned (.bool true) ∧ ∃ q, w' = w.drewN q
set_option maxHeartbeats 800000 in
theorem same_t (A A' : Option Addr) (l : List Int) (c c' : Nat) (w : World) (hl : l.length ≤ 1000000) (h : ISrc w A l) (h' : ISrc w A' l) :
    Calls Try.prog 15 #[.slice A l.length c, .slice A' l.length c'] w (SameOk w) := by
  have H := Lib.hid h
  have H' := Lib.hid h'
  clear h h'
  have HQ0 := Lib.hid (show ∃ q, w = w.drewN q from ⟨0, rfl⟩)
  go_enter Try.func15, Try.ntmps15
  go_wp2_with fail
  go_loopw [5] (fun i wr => ∃ k : Nat, k ≤ l.length ∧ i = .int .i64 k ∧ Hid (∃ q, wr = w.drewN q)) (fun i _ => l.length - (intOf i).toNat)
  case atStart => exact ⟨0, by omega, rfl, HQ0⟩
  case round =>
    obtain ⟨k, hk, rfl, HQ⟩ := hrel
    clear HQ0
    obtain ⟨q, hq⟩ := HQ.out
    by_cases hlt : k < l.length
    · obtain ⟨x, hx⟩ : ∃ x, l[k]? = some x := ⟨_, List.getElem?_eq_getElem hlt⟩
      obtain ⟨g, rfl, c0⟩ := H.out k x hx
      obtain ⟨g', rfl, c1⟩ := H'.out k x hx
      have d0 : wr.cell? ⟨g, k, none⟩ = some (.int .i64 x) := by rw [hq]; exact kept_box (below_drewN (Below.refl _ _) q) c0
      have d1 : wr.cell? ⟨g', k, none⟩ = some (.int .i64 x) := by rw [hq]; exact kept_box (below_drewN (Below.refl _ _) q) c1
      have hk0 : (0 : Int) ≤ (k : Int) := by omega
      have hk1 : (k : Int) < (l.length : Int) := by omega
      have HD := Lib.hid (fun n => show ∃ q, wr.drewN n = w.drewN q from ⟨q + n, by rw [hq]; exact (World.drewN_drewN ..)⟩)
      have hxx : (x != x) = false := by simp
      clear c0 c1 hx hq HQ
      go_wp2_with fail
      go_quiet (fail)
      go_wp2
      go_roundw
      case rel => exact ⟨k + 1, by omega, by go_num, Lib.hid (HD.out _)⟩
      case measure => simp [intOf]; omega
    · have hk1 : ¬ (k : Int) < (l.length : Int) := by omega
      have HF := Lib.hid (show SameOk w (.returned (.bool true)) wr from ⟨rfl, q, hq⟩)
      clear hq HQ
      go_wp2
      go_ret
      exact HF.out
end Go.Proofs.Ytieokmmejdngcaa
