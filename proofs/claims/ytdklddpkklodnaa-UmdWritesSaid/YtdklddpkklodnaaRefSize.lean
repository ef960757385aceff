/-
  How many bytes a packet has: the document's answer.
-/
import Derived.Test.YtdklddpkklodnaaFldRows
import Derived.Test.YtdklddpkklodnaaUmdSize
namespace Go.Proofs.Ytdklddpkklodnaa
open Go.RowKit


theorem fieldsF_bad {ls : List Nat} {head wd : Int} (h : okTo ls ls.length = false ∨ 4000 < head + sizeF ((ls.length : Int) - 1) wd + ls.sum) : fieldsF ls head wd = 0 := by
  unfold fieldsF
  rw [if_neg (fun h2 => by
    rcases h with h | h
    · rw [h] at h2; exact absurd h2.2.2.1 (by decide)
    · omega)]
theorem fieldsF_good {ls : List Nat} {head wd : Int} (h1 : 1 ≤ ls.length) (h2 : ls.length ≤ 24) (h3 : okTo ls ls.length = true) (h4 : head + sizeF ((ls.length : Int) - 1) wd + ls.sum ≤ 4000) : fieldsF ls head wd = head + sizeF ((ls.length : Int) - 1) wd + ls.sum := by
  unfold fieldsF
  rw [if_pos ⟨h1, h2, h3, h4⟩]
set_option maxRecDepth 100000 in
set_option maxHeartbeats 3200000 in
theorem rfields_any {A : Option Addr} {L : List RowB} (n cap : Nat) (head wd : Int) (w : World) (hL : L.length = n) (hn : n ≤ 40) (hsum : (lens L).sum ≤ 9000) (h0 : 0 ≤ head) (h5 : head ≤ 5) (hs : RSrc w A L) :
    Calls Try.prog 39 #[.slice A n cap, .int .i64 head, .int .i64 wd] w fun e w' => e = .returned (.int .i64 (fieldsF (lens L) head wd)) ∧ w = w' := by
  have hll : (lens L).length = n := by rw [length_lens, hL]
  rcases Nat.eq_zero_or_pos n with hn0 | hn0
  · have HF := Lib.hid (show fieldsF (lens L) head wd = 0 by unfold fieldsF; rw [if_neg (by omega)])
    subst hn0
    clear hs hsum hL hll
    go_enter Try.func39, Try.ntmps39
    go_wp2
    go_ret
    exact ⟨by rw [HF.out]; rfl, rfl⟩
  · have hn1 : ¬ (n : Int) < 1 := by omega
    rcases Nat.lt_or_ge 24 n with h24 | h24
    · have HF := Lib.hid (show fieldsF (lens L) head wd = 0 by unfold fieldsF; rw [if_neg (by omega)])
      have h24' : (24 : Int) < n := by omega
      clear hs hsum hL hll
      go_enter Try.func39, Try.ntmps39
      go_wp2
      go_ret
      exact ⟨by rw [HF.out]; rfl, rfl⟩
    · have h24' : ¬ (24 : Int) < n := by omega
      have HS := Lib.hid hs
      have HL := Lib.hid hL
      have HLL := Lib.hid hll
      have hz := sizeF_nonneg ((n : Int) - 1) wd
      have HZ := Lib.hid (fun W => refsize_any ((n : Int) - 1) wd W)
      have HSUM := Lib.hid hsum
      have HFB := Lib.hid (fun (h : okTo (lens L) n = false ∨ 4000 < head + sizeF ((n : Int) - 1) wd + (lens L).sum) => (show fieldsF (lens L) head wd = 0 from fieldsF_bad (by rw [hll]; exact h)))
      have HFG := Lib.hid (fun (h3 : okTo (lens L) n = true) (h4 : head + sizeF ((n : Int) - 1) wd + (lens L).sum ≤ 4000) => (show fieldsF (lens L) head wd = head + sizeF ((n : Int) - 1) wd + (lens L).sum from by
        have h9 := fieldsF_good (ls := lens L) (head := head) (wd := wd) (by omega) (by omega) (by rw [hll]; exact h3) (by rw [hll]; exact h4)
        rw [hll] at h9
        exact h9))
      have hs0 : n = 1 → sizeF ((n : Int) - 1) wd = 0 := fun e => by
        subst e
        unfold sizeF
        simp
      generalize sizeF ((n : Int) - 1) wd = z at *
      obtain ⟨hz0, hz1⟩ := hz
      have HALL := Lib.hid (show sumTo (lens L) n = (lens L).sum by rw [← hll]; exact sumTo_all _)
      clear hs hL hll hsum
      have body : ∀ (q0 : Int), q0 = head + z → 0 ≤ q0 → q0 ≤ 4000 → True := fun _ _ _ _ => trivial
      clear body
      by_cases hn2 : n = 1
      · have hz2 := hs0 hn2
        have hn2' : ¬ (1 : Int) < n := by omega
        have HZ0 := Lib.hid hz2
        clear hs0 hn2 hz2 HZ
        go_enter Try.func39, Try.ntmps39
        go_wp2
        go_loopw [8, 9] (fun v iv wr => ∃ (k : Nat) (q : Int), k ≤ n ∧ iv = .int .i64 k ∧ v = .int .i64 q ∧ 0 ≤ q ∧ q ≤ 4000 ∧ Hid (q = head + z + sumTo (lens L) k ∧ okTo (lens L) k = true) ∧ w = wr) (fun _ iv _ => n - (intOf iv).toNat)
        case atStart => exact ⟨0, head, by omega, rfl, rfl, h0, by omega, Lib.hid ⟨by rw [sumTo_zero, HZ0.out]; omega, okTo_zero _⟩, rfl⟩
        case round =>
          obtain ⟨k, q, hk, rfl, rfl, hq0, hq1, HK, rfl⟩ := hrel
          by_cases hlt : k < n
          · obtain ⟨ad, rfl, hc⟩ := HS.out (by rw [HL.out]; omega)
            obtain ⟨r, hr⟩ : ∃ r, L[k]? = some r := ⟨_, List.getElem?_eq_getElem (by rw [HL.out]; exact hlt)⟩
            have hcell : w.cell? (ad.add k) = some (.slice r.A r.bs.length r.cap) := (hc k r hr).1
            have HSU := Lib.hid (sumTo_succ (lens_at hr))
            have HOK := Lib.hid (okTo_at (lens_at hr) HK.out.2)
            rw [HLL.out] at HOK
            have HLE := Lib.hid (sumTo_le (lens L) (k + 1))
            have hlm : r.bs.length ≤ 9000 := by have := HLE.out; have := HSU.out; have := HSUM.out; omega
            clear hc hr
            generalize r.bs.length = len at *
            rcases Nat.eq_zero_or_pos len with hl0 | hl0
            · have HB := Lib.hid (HFB.out (.inl (okTo_later (k := k + 1) (by rw [HOK.out]; unfold okAt; rw [decide_eq_false (by omega)]; rfl) (by omega))))
              subst hl0
              go_wp2
              go_ret
              exact ⟨by rw [HB.out]; rfl, rfl⟩
            · have hl1 : ((len : Int) == 0) = false := by simp; omega
              by_cases hlast : k + 1 < n
              · have hlast' : (k : Int) + 1 < n := by omega
                by_cases h2047 : 2047 < len
                · have h2047' : (2047 : Int) < len := by omega
                  have HB := Lib.hid (HFB.out (.inl (okTo_later (k := k + 1) (by rw [HOK.out]; unfold okAt; rw [if_neg (by omega), decide_eq_false (show ¬ len ≤ 2047 by omega)]; simp) (by omega))))
                  go_wp2
                  go_ret
                  exact ⟨by rw [HB.out]; rfl, rfl⟩
                · have h2047' : ¬ (2047 : Int) < len := by omega
                  by_cases h4 : 4000 < q + len
                  · have HB := Lib.hid (HFB.out (.inr (by have := HLE.out; have := HSU.out; have := HK.out.1; omega)))
                    go_wp2
                    go_ret
                    exact ⟨by rw [HB.out]; rfl, rfl⟩
                  · have HOK2 := Lib.hid (show okTo (lens L) (k + 1) = true by rw [HOK.out]; unfold okAt; rw [if_neg (by omega), decide_eq_true (show 1 ≤ len by omega), decide_eq_true (show len ≤ 2047 by omega)]; rfl)
                    go_wp2
                    go_roundw
                    case rel => exact ⟨k + 1, q + len, by omega, by go_num, rfl, by omega, by omega, Lib.hid ⟨by rw [HSU.out, HK.out.1]; omega, HOK2.out⟩, trivial⟩
                    case measure => simp [intOf]; omega
              · have hlast' : ¬ (k : Int) + 1 < n := by omega
                by_cases h4 : 4000 < q + len
                · have HB := Lib.hid (HFB.out (.inr (by have := HLE.out; have := HSU.out; have := HK.out.1; omega)))
                  go_wp2
                  go_ret
                  exact ⟨by rw [HB.out]; rfl, rfl⟩
                · have HOK2 := Lib.hid (show okTo (lens L) (k + 1) = true by rw [HOK.out]; unfold okAt; rw [if_pos (by omega), decide_eq_true (show 1 ≤ len by omega), decide_eq_true (show len ≤ 4000 by omega)]; rfl)
                  go_wp2
                  go_roundw
                  case rel => exact ⟨k + 1, q + len, by omega, by go_num, rfl, by omega, by omega, Lib.hid ⟨by rw [HSU.out, HK.out.1]; omega, HOK2.out⟩, trivial⟩
                  case measure => simp [intOf]; omega
          · have hkn : k = n := by omega
            have h9 := HK.out
            rw [hkn, HALL.out] at h9
            have HG := Lib.hid (HFG.out h9.2 (by omega))
            have HQ := Lib.hid h9.1
            clear hkn h9
            go_wp2
            go_ret
            exact ⟨ret_int (by rw [HG.out, HQ.out]), rfl⟩

      · have hn2' : (1 : Int) < n := by omega
        clear hs0
        go_enter Try.func39, Try.ntmps39
        go_wp2_with (go_at_call 70; refine (HZ.out _).mono ?_; rintro e w1 ⟨rfl, rfl⟩)
        go_loopw [8, 9] (fun v iv wr => ∃ (k : Nat) (q : Int), k ≤ n ∧ iv = .int .i64 k ∧ v = .int .i64 q ∧ 0 ≤ q ∧ q ≤ 4000 ∧ Hid (q = head + z + sumTo (lens L) k ∧ okTo (lens L) k = true) ∧ w = wr) (fun _ iv _ => n - (intOf iv).toNat)
        case atStart => exact ⟨0, head + z, by omega, rfl, rfl, by omega, by omega, Lib.hid ⟨by rw [sumTo_zero]; omega, okTo_zero _⟩, rfl⟩
        case round =>
          obtain ⟨k, q, hk, rfl, rfl, hq0, hq1, HK, rfl⟩ := hrel
          by_cases hlt : k < n
          · obtain ⟨ad, rfl, hc⟩ := HS.out (by rw [HL.out]; omega)
            obtain ⟨r, hr⟩ : ∃ r, L[k]? = some r := ⟨_, List.getElem?_eq_getElem (by rw [HL.out]; exact hlt)⟩
            have hcell : w.cell? (ad.add k) = some (.slice r.A r.bs.length r.cap) := (hc k r hr).1
            have HSU := Lib.hid (sumTo_succ (lens_at hr))
            have HOK := Lib.hid (okTo_at (lens_at hr) HK.out.2)
            rw [HLL.out] at HOK
            have HLE := Lib.hid (sumTo_le (lens L) (k + 1))
            have hlm : r.bs.length ≤ 9000 := by have := HLE.out; have := HSU.out; have := HSUM.out; omega
            clear hc hr
            generalize r.bs.length = len at *
            rcases Nat.eq_zero_or_pos len with hl0 | hl0
            · have HB := Lib.hid (HFB.out (.inl (okTo_later (k := k + 1) (by rw [HOK.out]; unfold okAt; rw [decide_eq_false (by omega)]; rfl) (by omega))))
              subst hl0
              go_wp2
              go_ret
              exact ⟨by rw [HB.out]; rfl, rfl⟩
            · have hl1 : ((len : Int) == 0) = false := by simp; omega
              by_cases hlast : k + 1 < n
              · have hlast' : (k : Int) + 1 < n := by omega
                by_cases h2047 : 2047 < len
                · have h2047' : (2047 : Int) < len := by omega
                  have HB := Lib.hid (HFB.out (.inl (okTo_later (k := k + 1) (by rw [HOK.out]; unfold okAt; rw [if_neg (by omega), decide_eq_false (show ¬ len ≤ 2047 by omega)]; simp) (by omega))))
                  go_wp2
                  go_ret
                  exact ⟨by rw [HB.out]; rfl, rfl⟩
                · have h2047' : ¬ (2047 : Int) < len := by omega
                  by_cases h4 : 4000 < q + len
                  · have HB := Lib.hid (HFB.out (.inr (by have := HLE.out; have := HSU.out; have := HK.out.1; omega)))
                    go_wp2
                    go_ret
                    exact ⟨by rw [HB.out]; rfl, rfl⟩
                  · have HOK2 := Lib.hid (show okTo (lens L) (k + 1) = true by rw [HOK.out]; unfold okAt; rw [if_neg (by omega), decide_eq_true (show 1 ≤ len by omega), decide_eq_true (show len ≤ 2047 by omega)]; rfl)
                    go_wp2
                    go_roundw
                    case rel => exact ⟨k + 1, q + len, by omega, by go_num, rfl, by omega, by omega, Lib.hid ⟨by rw [HSU.out, HK.out.1]; omega, HOK2.out⟩, trivial⟩
                    case measure => simp [intOf]; omega
              · have hlast' : ¬ (k : Int) + 1 < n := by omega
                by_cases h4 : 4000 < q + len
                · have HB := Lib.hid (HFB.out (.inr (by have := HLE.out; have := HSU.out; have := HK.out.1; omega)))
                  go_wp2
                  go_ret
                  exact ⟨by rw [HB.out]; rfl, rfl⟩
                · have HOK2 := Lib.hid (show okTo (lens L) (k + 1) = true by rw [HOK.out]; unfold okAt; rw [if_pos (by omega), decide_eq_true (show 1 ≤ len by omega), decide_eq_true (show len ≤ 4000 by omega)]; rfl)
                  go_wp2
                  go_roundw
                  case rel => exact ⟨k + 1, q + len, by omega, by go_num, rfl, by omega, by omega, Lib.hid ⟨by rw [HSU.out, HK.out.1]; omega, HOK2.out⟩, trivial⟩
                  case measure => simp [intOf]; omega
          · have hkn : k = n := by omega
            have h9 := HK.out
            rw [hkn, HALL.out] at h9
            have HG := Lib.hid (HFG.out h9.2 (by omega))
            have HQ := Lib.hid h9.1
            clear hkn h9
            go_wp2
            go_ret
            exact ⟨ret_int (by rw [HG.out, HQ.out]), rfl⟩

end Go.Proofs.Ytdklddpkklodnaa
