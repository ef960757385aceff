/-
  Plain facts for TimersOnce and TimersAnew: what a tick tells, and what it leaves.
-/
import Derived.Test.YtieokmmejdngcaaTimerMore
import Derived.Test.YtieokmmejdngcaaTArgs
namespace Go.Proofs.Ytieokmmejdngcaa
open Go.RowKit

theorem tickE_rises (L : List Int) : (tickE L).Pairwise (· < ·) := (runF_rises L 8).filter _
theorem tickE_le (L : List Int) : (tickE L).length ≤ 8 := Nat.le_trans (List.length_filter_le _ _) (runF_le L 8)
theorem mem_tickE {L : List Int} {k : Nat} {x : Int} (hk : k < 8) (hx : L[k]? = some x) : (k : Int) ∈ tickE L ↔ x = 1 := by
  unfold tickE endF
  rw [List.mem_filter, mem_runF, Int.toNat_natCast, hx, Option.getD_some, beq_iff_eq]
  constructor
  · exact fun h => h.2
  · intro h
    exact ⟨⟨k, hk, rfl, by rw [hx, Option.getD_some]; omega⟩, h⟩
theorem tickL_at {L : List Int} {k : Nat} {x : Int} (hx : L[k]? = some x) : (tickL L)[k]? = some (if 0 < x then x - 1 else x) := by
  unfold tickL decT
  rw [List.getElem?_map, hx]
  rfl
theorem SL_other {L : List Int} {k : Nat} {i n : Int} (h : i ≠ k) : (SL L i n)[k]? = L[k]? := by
  unfold SL
  split
  · rename_i hb
    rw [Bool.and_eq_true] at hb
    obtain ⟨j, rfl, _⟩ := inR_nat hb.1
    rw [Int.toNat_natCast, List.getElem?_set_ne (by omega)]
  · rfl
theorem PL_other {L : List Int} {k : Nat} {i : Int} (h : i ≠ k) : (PL L i)[k]? = L[k]? := by
  unfold PL
  split
  · rename_i hb
    obtain ⟨j, rfl, _⟩ := inR_nat hb
    rw [Int.toNat_natCast, List.getElem?_set_ne (by omega)]
  · rfl
theorem SL_same {L : List Int} {k : Nat} {n : Int} (h8 : L.length = 8) (hk : k < 8) (h1 : 1 ≤ n) (h2 : n ≤ 1000) : (SL L k n)[k]? = some n := by
  unfold SL
  rw [inR_of hk, decide_eq_true h1, decide_eq_true h2, Bool.and_self, Bool.and_self, if_pos rfl, Int.toNat_natCast, List.getElem?_set_self (by omega)]
theorem PL_same {L : List Int} {k : Nat} (h8 : L.length = 8) (hk : k < 8) : (PL L k)[k]? = some 0 := by
  unfold PL
  rw [inR_of hk, if_pos rfl, Int.toNat_natCast, List.getElem?_set_self (by omega)]
theorem LV_at {L : List Int} {k : Nat} {x : Int} (hk : k < 8) (hx : L[k]? = some x) : LV L k = x := by
  unfold LV
  rw [inR_of hk, if_pos rfl, Int.toNat_natCast, hx]
  rfl
theorem SE_in {k : Nat} {n : Int} (hk : k < 8) (h1 : 1 ≤ n) (h2 : n ≤ 1000) : SE k n = 0 := by
  unfold SE
  rw [inR_of hk, decide_eq_true h1, decide_eq_true h2]
  rfl
theorem take_snoc {α : Type} {l : List α} {k : Nat} {x : α} (h : l[k]? = some x) : l.take (k + 1) = l.take k ++ [x] := by
  obtain ⟨hl, rfl⟩ := List.getElem?_eq_some_iff.1 h
  exact List.take_succ_eq_append_getElem hl

/-- behind at ticks: the timer k, that had n -/
def OnceInv (p k n at' : Nat) (L : List Int) (w : World) : Prop := TRep w p L ∧ L[k]? = some ((n - at' : Nat) : Int)
theorem OnceInv.later {p k n a : Nat} {L : List Int} {w v : World} (h : OnceInv p k n a L w) (hb : Below w.heap.size w v) : OnceInv p k n a L v := ⟨h.1.later hb, h.2⟩

theorem src_cell {w0 : World} {A : Option Addr} {l : List (Int × (Int × Int))} (h : OSrc w0 A l) {k : Nat} (hk : k < l.length) : ∃ b off K I N, A = some ⟨b, off, none⟩ ∧ l[k]? = some (K, (I, N)) ∧ b < w0.heap.size ∧
    w0.cell? ⟨b, off + k * 3, none⟩ = some (.int .i64 K) ∧ w0.cell? ⟨b, off + k * 3 + 1, none⟩ = some (.int .i64 I) ∧ w0.cell? ⟨b, off + k * 3 + 2, none⟩ = some (.int .i64 N) := by
  obtain ⟨b, off, rfl, hc⟩ := h (by omega)
  have ho : l[k]? = some l[k] := List.getElem?_eq_getElem hk
  obtain ⟨c0, c1, c2⟩ := hc k _ ho
  refine ⟨b, off, l[k].1, l[k].2.1, l[k].2.2, rfl, ho, ?_, c0, c1, c2⟩
  rcases Nat.lt_or_ge b w0.heap.size with h | h
  · exact h
  · exfalso
    simp [World.cell?, Array.getElem?_eq_none h] at c0
end Go.Proofs.Ytieokmmejdngcaa
