/-
  TimersOnce: a timer that is started, and not touched, is told just by the Tick of that number, once, whatever others do.
-/
import Derived.Test.YtieokmmejdngcaaOnceKit
import Derived.IntWalk
namespace Go.Proofs.Ytieokmmejdngcaa
open Go.RowKit

set_option maxRecDepth 100000 in
set_option maxHeartbeats 3200000 in
theorem once_walk (i ti : Int) (A : Option Addr) (l : List (Int × (Int × Int))) (cap : Nat) (w : World) (hi0 : 0 ≤ i) (hi1 : i < 256) (ht0 : 0 ≤ ti) (ht1 : ti < 256) (hs : OSrc w A l) :
    Calls Try.prog 4 #[.int .u8 i, .int .u8 ti, .slice A l.length cap] w fun e w' => e = .returned (.bool true) ∧ Below w.heap.size w w' := by
  have HS := Lib.hid hs
  clear hs
  go_enter Try.func4, Try.ntmps4
  go_wp2_with fail
  refine (new_t _).mono ?_
  rintro e w1 ⟨rfl, h1, hb1⟩
  have H1 := Lib.hid h1
  have HB1 := Lib.hid hb1
  clear h1 hb1
  go_wp2_with fail
  have hk0 : 0 ≤ i % 8 := by omega
  have hk8 : i % 8 < 8 := by omega
  have hn0 : 1 ≤ 1 + ti % 64 := by omega
  have hn8 : 1 + ti % 64 ≤ 64 := by omega
  generalize i % 8 = k at *
  generalize ti % 64 = tm at *
  generalize 1 + tm = n at *
  obtain ⟨k, rfl⟩ : ∃ m : Nat, k = m := ⟨k.toNat, by omega⟩
  obtain ⟨n, rfl⟩ : ∃ m : Nat, n = m := ⟨n.toNat, by omega⟩
  have HE := Lib.hid (SE_in (k := k) (n := n) (by omega) hn0 (by omega))
  refine (start_t _ _ _ H1.out).mono ?_
  rintro e w2 ⟨rfl, h2, ho2⟩
  rw [HE.out]
  have HI2 := Lib.hid (show OnceInv w.heap.size k n 0 (SL (List.replicate 8 0) k n) w2 from ⟨h2, SL_same rfl (by omega) hn0 (by omega)⟩)
  have HB2 := Lib.hid (HB1.out.trans (ho2.below HB1.out.size (fun k hk e => by unfold isP at e; omega)))
  clear h2 ho2 H1 HB1
  go_wp2_with fail
  go_loopw [10, 11] (fun av jv wr => ∃ (a j : Nat) (L : List Int), j ≤ l.length ∧ j ≤ 300 ∧ a ≤ j ∧ av = .int .i64 a ∧ jv = .int .i64 j ∧ Hid (OnceInv w.heap.size k n a L wr) ∧ Hid (Below w.heap.size w wr)) (fun _ jv _ => l.length - (intOf jv).toNat)
  case atStart => exact ⟨0, 0, _, by omega, by omega, by omega, rfl, rfl, HI2, HB2⟩
  case round =>
    obtain ⟨a, j, L, hjl, hj3, haj, rfl, rfl, HI, HB⟩ := hrel
    clear HI2 HB2
    by_cases hlt : j < l.length ∧ j < 300
    · obtain ⟨hlt, hlt3⟩ := hlt
      obtain ⟨b, off, K, I, N, rfl, hl, hbw, c0, c1, c2⟩ := src_cell HS.out hlt
      have d0 := kept_box HB.out c0
      have d1 := kept_box HB.out c1
      have d2 := kept_box HB.out c2
      have hj0 : (0 : Int) ≤ (j : Int) := by omega
      have hj1 : (j : Int) < (l.length : Int) := by omega
      have hj2 : (j : Int) < 300 := by omega
      have HIA := Lib.hid (HI.out.later (bl_alloc (Below.refl _ _) (.cells #[.int .i64 K, .int .i64 I, .int .i64 N] 30)))
      have HBA := Lib.hid (bl_alloc HB.out (.cells #[.int .i64 K, .int .i64 I, .int .i64 N] 30))
      have hpx : w.heap.size < wr.heap.size := HI.out.1.inside
      clear c0 c1 c2 hl
      by_cases hK0 : K = 0
      · subst hK0
        by_cases hIk : I = k
        · subst hIk
          go_wp2
          go_roundw
          case rel => exact ⟨a, j + 1, L, by omega, by omega, by omega, rfl, by go_num, HIA, HBA⟩
          case measure => simp [intOf]; omega
        · go_wp2_with fail
          refine (start_t _ _ _ HIA.out.1).mono ?_
          rintro e w3 ⟨rfl, h3, ho3⟩
          have q0 : w3.cell? ⟨wr.heap.size, 0, none⟩ = some (.int .i64 0) := cell_only (by simp) ho3 (by unfold isP; omega)
          have HI3 := Lib.hid (show OnceInv w.heap.size k n a (SL L I N) w3 from ⟨h3, by rw [SL_other hIk]; exact HIA.out.2⟩)
          have HB3 := Lib.hid (HBA.out.trans (ho3.below HBA.out.size (fun k hk e => by unfold isP at e; omega)))
          clear h3 ho3 HIA HBA HI HB d0 d1 d2
          go_wp2
          go_roundw
          case rel => exact ⟨a, j + 1, _, by omega, by omega, by omega, rfl, by go_num, HI3, HB3⟩
          case measure => simp [intOf]; omega
      · by_cases hK1 : K = 1
        · subst hK1
          by_cases hIk : I = k
          · subst hIk
            go_wp2
            go_roundw
            case rel => exact ⟨a, j + 1, L, by omega, by omega, by omega, rfl, by go_num, HIA, HBA⟩
            case measure => simp [intOf]; omega
          · go_wp2_with fail
            refine (stop_t _ _ HIA.out.1).mono ?_
            rintro e w3 ⟨rfl, h3, ho3⟩
            have q0 : w3.cell? ⟨wr.heap.size, 0, none⟩ = some (.int .i64 1) := cell_only (by simp) ho3 (by unfold isP; omega)
            have HI3 := Lib.hid (show OnceInv w.heap.size k n a (PL L I) w3 from ⟨h3, by rw [PL_other hIk]; exact HIA.out.2⟩)
            have HB3 := Lib.hid (HBA.out.trans (ho3.below HBA.out.size (fun k hk e => by unfold isP at e; omega)))
            clear h3 ho3 HIA HBA HI HB d0 d1 d2
            go_wp2
            go_roundw
            case rel => exact ⟨a, j + 1, _, by omega, by omega, by omega, rfl, by go_num, HI3, HB3⟩
            case measure => simp [intOf]; omega
        · by_cases hK2 : K = 2
          · subst hK2
            go_wp2_with fail
            refine (tick_t _ HIA.out.1).mono ?_
            rintro e w3 ⟨⟨u, rfl, hu⟩, h3, ho3⟩
            have HX := Lib.hid HI.out.2
            obtain ⟨UA, rfl, hread⟩ := hu.read
            have HU := Lib.hid hread
            have H3 := Lib.hid h3
            have HB3 := Lib.hid (HBA.out.trans (ho3.below HBA.out.size (fun k hk e => by unfold isP at e; omega)))
            have hul := tickE_le L
            clear h3 ho3 HIA HBA HI HB d0 d1 d2 hread hu
            go_wp2_with fail
            generalize wr.heap.size = ob at *
            go_loopw [14, 15] (fun tv mv wq => ∃ (b : Bool) (m : Nat), m ≤ (tickE L).length ∧ tv = .bool b ∧ mv = .int .i64 m ∧ Hid (b = true ↔ (k : Int) ∈ (tickE L).take m) ∧ Hid (Below w3.heap.size w3 wq)) (fun _ mv _ => (tickE L).length - (intOf mv).toNat)
            case atStart => exact ⟨false, 0, by omega, rfl, rfl, Lib.hid (by simp), Lib.hid (Below.refl _ _)⟩
            case round =>
              obtain ⟨bb, m, hm, rfl, rfl, HM, HQ⟩ := hrel
              by_cases hml : m < (tickE L).length
              · obtain ⟨y, hy⟩ : ∃ y, (tickE L)[m]? = some y := ⟨_, List.getElem?_eq_getElem hml⟩
                obtain ⟨g, rfl, _, cy0⟩ := HU.out m y hy
                have cy := kept_box HQ.out cy0
                have hts := Lib.hid (take_snoc hy)
                have HM2 := Lib.hid (show (decide (bb = true ∨ y = (k : Int))) = true ↔ (k : Int) ∈ (tickE L).take (m + 1) by
                  rw [hts.out, List.mem_append, decide_eq_true_iff, HM.out, List.mem_singleton]
                  exact or_congr Iff.rfl eq_comm)
                have hm0 : (0 : Int) ≤ (m : Int) := by omega
                have hm1 : (m : Int) < ((tickE L).length : Int) := by omega
                have HQ2 := Lib.hid (fun q => below_drewN HQ.out q)
                rcases Nat.eq_zero_or_pos m with hz | hz
                · have hd : decide ((0 : Int) < (m : Int)) = false := by simp; omega
                  have hd' : decide (0 < m) = false := by simp; omega
                  clear cy0 hy hts HM hz
                  go_wp2_with fail
                  go_quiet (fail)
                  clear hd hd'
                  have HB9 := Lib.hid (HQ2.out nq)
                  cases bb
                  · by_cases hyk : y = (k : Int)
                    · subst hyk
                      have HM3 := Lib.hid (show true = true ↔ (k : Int) ∈ (tickE L).take (m + 1) by rw [← HM2.out]; simp)
                      go_wp2
                      go_roundw
                      case rel => exact ⟨true, m + 1, by omega, rfl, by go_num, HM3, HB9⟩
                      case measure => simp [intOf]; omega
                    · have HM3 := Lib.hid (show false = true ↔ (k : Int) ∈ (tickE L).take (m + 1) by rw [← HM2.out]; simp [hyk])
                      have hyk' : (y == (k : Int)) = false := by simp [hyk]
                      go_wp2
                      go_roundw
                      case rel => exact ⟨false, m + 1, by omega, rfl, by go_num, HM3, HB9⟩
                      case measure => simp [intOf]; omega
                  · have HM3 := Lib.hid (show true = true ↔ (k : Int) ∈ (tickE L).take (m + 1) by rw [← HM2.out]; simp)
                    go_wp2
                    go_roundw
                    case rel => exact ⟨true, m + 1, by omega, rfl, by go_num, HM3, HB9⟩
                    case measure => simp [intOf]; omega
                · have hd : decide ((0 : Int) < (m : Int)) = true := by simp; omega
                  obtain ⟨x', hx'⟩ : ∃ x', (tickE L)[m - 1]? = some x' := ⟨_, List.getElem?_eq_getElem (by omega)⟩
                  obtain ⟨g', hg', _, cx0⟩ := HU.out (m - 1) x' hx'
                  obtain rfl : g = g' := by simpa using hg'
                  have cx := kept_box HQ.out cx0
                  have hlt' : x' < y := by
                    obtain ⟨h1, h2⟩ := List.getElem?_eq_some_iff.1 hx'
                    obtain ⟨h3, h4⟩ := List.getElem?_eq_some_iff.1 hy
                    have := List.pairwise_iff_getElem.1 (tickE_rises L) (m - 1) m h1 h3 (by omega)
                    rw [h2, h4] at this
                    exact this
                  have hge : decide (y ≤ x') = false := by simp; omega
                  have hw1 : IntKind.i64.wrap ((m : Int) - 1) = (m : Int) - 1 := IntWalk.i64_in _ (by omega)
                  have hw2 : (0 : Int) ≤ (m : Int) - 1 := by omega
                  have hw3 : (1 : Int) ≤ (m : Int) := by omega
                  have hw4 : (m : Int) - 1 < ((tickE L).length : Int) := by omega
                  have hw5 : ((m : Int) - 1).toNat = m - 1 := by omega
                  clear cy0 cx0 hy hx' hg' hts HM hlt'
                  go_wp2_with fail
                  go_quiet (fail)
                  clear hd hge hw1 hw2 hw3 hw4 hw5
                  have HB9 := Lib.hid (HQ2.out nq)
                  cases bb
                  · by_cases hyk : y = (k : Int)
                    · subst hyk
                      have HM3 := Lib.hid (show true = true ↔ (k : Int) ∈ (tickE L).take (m + 1) by rw [← HM2.out]; simp)
                      go_wp2
                      go_roundw
                      case rel => exact ⟨true, m + 1, by omega, rfl, by go_num, HM3, HB9⟩
                      case measure => simp [intOf]; omega
                    · have HM3 := Lib.hid (show false = true ↔ (k : Int) ∈ (tickE L).take (m + 1) by rw [← HM2.out]; simp [hyk])
                      have hyk' : (y == (k : Int)) = false := by simp [hyk]
                      go_wp2
                      go_roundw
                      case rel => exact ⟨false, m + 1, by omega, rfl, by go_num, HM3, HB9⟩
                      case measure => simp [intOf]; omega
                  · have HM3 := Lib.hid (show true = true ↔ (k : Int) ∈ (tickE L).take (m + 1) by rw [← HM2.out]; simp)
                    go_wp2
                    go_roundw
                    case rel => exact ⟨true, m + 1, by omega, rfl, by go_num, HM3, HB9⟩
                    case measure => simp [intOf]; omega
              · obtain rfl : m = (tickE L).length := by omega
                have hbb : bb = true ↔ n = a + 1 := by
                  rw [HM.out, List.take_length, mem_tickE (by omega) HX.out]
                  omega
                have HV := Lib.hid (LV_at (by omega) (tickL_at HX.out))
                have HT := Lib.hid (H3.out.later HQ.out)
                have HI9 := Lib.hid (show OnceInv w.heap.size k n (a + 1) (tickL L) wr from ⟨H3.out.later HQ.out, by rw [tickL_at HX.out]; congr 1; split <;> omega⟩)
                have HB9 := Lib.hid (bl_step HB3.out HQ.out)
                have hn64 : (n : Int) ≤ 64 := by omega
                have ha3 : (a : Int) ≤ 300 := by omega
                have hm1 : ¬ ((tickE L).length : Int) < ((tickE L).length : Int) := by omega
                clear HM HQ HU hml hm
                rcases Nat.lt_trichotomy (a + 1) n with h | h | h
                · obtain rfl : bb = false := by cases bb; rfl; have := hbb.1 rfl; omega
                  have hL : LV (tickL L) k = (n : Int) - ((a : Int) + 1) := by rw [HV.out, if_pos (by omega)]; omega
                  have HL := Lib.hid hL
                  have e1 : ((a : Int) + 1 == (n : Int)) = false := by simp; omega
                  have e2 : (0 : Int) ≤ (n : Int) - ((a : Int) + 1) := by omega
                  have e3 : ¬ (n : Int) < (a : Int) + 1 := by omega
                  clear hbb hL
                  go_wp2_with (go_at_call 19; refine (left_t _ _ HT.out).mono ?_; rintro e w5 ⟨rfl, rfl⟩; rw [HL.out])
                  go_roundw
                  case rel => exact ⟨a + 1, j + 1, _, by omega, by omega, by omega, by go_num, by go_num, HI9, HB9⟩
                  case measure => simp [intOf]; omega
                · obtain rfl : bb = true := hbb.2 h.symm
                  have hL : LV (tickL L) k = (n : Int) - ((a : Int) + 1) := by rw [HV.out]; split <;> omega
                  have HL := Lib.hid hL
                  have e1 : ((a : Int) + 1 == (n : Int)) = true := by simp; omega
                  have e2 : (0 : Int) ≤ (n : Int) - ((a : Int) + 1) := by omega
                  have e3 : ¬ (n : Int) < (a : Int) + 1 := by omega
                  clear hbb hL h
                  go_wp2_with (go_at_call 19; refine (left_t _ _ HT.out).mono ?_; rintro e w5 ⟨rfl, rfl⟩; rw [HL.out])
                  go_roundw
                  case rel => exact ⟨a + 1, j + 1, _, by omega, by omega, by omega, by go_num, by go_num, HI9, HB9⟩
                  case measure => simp [intOf]; omega
                · obtain rfl : bb = false := by cases bb; rfl; have := hbb.1 rfl; omega
                  have hL : LV (tickL L) k = 0 := by rw [HV.out]; split <;> omega
                  have HL := Lib.hid hL
                  have e1 : ((a : Int) + 1 == (n : Int)) = false := by simp; omega
                  have e2 : (n : Int) - ((a : Int) + 1) < 0 := by omega
                  have e3 : (n : Int) < (a : Int) + 1 := by omega
                  clear hbb hL
                  go_wp2_with (go_at_call 19; refine (left_t _ _ HT.out).mono ?_; rintro e w5 ⟨rfl, rfl⟩; rw [HL.out])
                  go_roundw
                  case rel => exact ⟨a + 1, j + 1, _, by omega, by omega, by omega, by go_num, by go_num, HI9, HB9⟩
                  case measure => simp [intOf]; omega
          · go_wp2
            go_roundw
            case rel => exact ⟨a, j + 1, L, by omega, by omega, by omega, rfl, by go_num, HIA, HBA⟩
            case measure => simp [intOf]; omega
    · have hx : l.length ≤ j ∨ 300 ≤ j := by omega
      clear hlt
      rcases Nat.lt_or_ge j l.length with hjl2 | hjl2
      · have h3 : ¬ (j : Int) < 300 := by omega
        have h4 : (j : Int) < (l.length : Int) := by omega
        go_wp2_with (go_at_call 22; refine (alive5_any _).mono ?_; rintro e w3 ⟨rfl, hb3⟩)
        go_ret
        exact ⟨rfl, bl_step HB.out hb3⟩
      · have h4 : ¬ (j : Int) < (l.length : Int) := by omega
        go_wp2_with (go_at_call 22; refine (alive5_any _).mono ?_; rintro e w3 ⟨rfl, hb3⟩)
        go_ret
        exact ⟨rfl, bl_step HB.out hb3⟩
end Go.Proofs.Ytieokmmejdngcaa
