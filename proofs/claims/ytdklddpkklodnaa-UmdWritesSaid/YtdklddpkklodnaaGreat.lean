/-
  Are fields too much for a statement?
-/
import Derived.Test.YtdklddpkklodnaaFldRows
namespace Go.Proofs.Ytdklddpkklodnaa
open Go.RowKit


/-- what it answers: at least a bound, where it says no -/
def GreatAns (n q : Nat) (w : World) (e : Ending) (w' : World) : Prop := (∃ b, e = .returned (.bool b) ∧ (b = false → n ≤ 40 ∧ q ≤ 9000)) ∧ w = w'
set_option maxRecDepth 100000 in
set_option maxHeartbeats 1600000 in
theorem great_any {A : Option Addr} {L : List RowB} (n cap : Nat) (w : World) (hL : L.length = n) (hn : n ≤ 9223372036854775807) (hs : RSrc w A L) (hm : ∀ m ∈ lens L, m ≤ 9223372036854775807) :
    Calls Try.prog 11 #[.slice A n cap] w (GreatAns n (lens L).sum w) := by
  have HS := Lib.hid hs
  have HL := Lib.hid hL
  have HM := Lib.hid hm
  clear hs hL hm
  go_enter Try.func11, Try.ntmps11
  go_wp2
  go_loopw [3, 4] (fun s i wr => ∃ k q : Nat, k ≤ n ∧ q ≤ 4200 * 41 ∧ i = .int .i64 k ∧ s = .int .i64 q ∧ Hid (q = sumTo (lens L) k ∧ q ≤ 4200 * k ∧ (0 < k → n ≤ 40)) ∧ w = wr) (fun _ i _ => n - (intOf i).toNat)
  case atStart => exact ⟨0, 0, by omega, by omega, rfl, rfl, Lib.hid ⟨by rw [sumTo_zero], by omega, by omega⟩, rfl⟩
  case round =>
    obtain ⟨k, q, hk, hq, rfl, rfl, HK, rfl⟩ := hrel
    by_cases hlt : k < n
    · obtain ⟨ad, rfl, hc⟩ := HS.out (by rw [HL.out]; omega)
      obtain ⟨r, hr⟩ : ∃ r, L[k]? = some r := ⟨_, List.getElem?_eq_getElem (by rw [HL.out]; exact hlt)⟩
      have hcell : w.cell? (ad.add k) = some (.slice r.A r.bs.length r.cap) := (hc k r hr).1
      have HSU := Lib.hid (sumTo_succ (lens_at hr))
      have hlm := HM.out _ (List.mem_of_getElem? (lens_at hr))
      clear hc hr
      generalize r.bs.length = len at *
      by_cases h40 : 40 < n
      · have h40' : (40 : Int) < n := by omega
        go_wp2
        go_ret
        exact ⟨⟨true, rfl, fun h => by cases h⟩, rfl⟩
      · have h40' : ¬ (40 : Int) < n := by omega
        by_cases h42 : 4200 < len
        · have h42' : (4200 : Int) < len := by omega
          go_wp2
          go_ret
          exact ⟨⟨true, rfl, fun h => by cases h⟩, rfl⟩
        · have h42' : ¬ (4200 : Int) < len := by omega
          have hb : q ≤ 4200 * k := HK.out.2.1
          go_wp2
          go_roundw
          case rel => exact ⟨k + 1, q + len, by omega, by omega, by go_num, by go_num, Lib.hid ⟨by rw [HSU.out, HK.out.1], by omega, fun _ => by omega⟩, trivial⟩
          case measure => simp [intOf]; omega
    · have hkn : k = n := by omega
      go_wp2
      go_ret
      refine ⟨⟨_, rfl, fun h => ?_⟩, rfl⟩
      have h2 : ¬ (9000 : Int) < q := by simpa using h
      have h9 := HK.out.1
      rw [hkn, show n = (lens L).length by rw [length_lens, HL.out], sumTo_all] at h9
      refine ⟨?_, by omega⟩
      rcases Nat.eq_zero_or_pos k with h0 | h0
      · omega
      · exact HK.out.2.2 h0
end Go.Proofs.Ytdklddpkklodnaa
