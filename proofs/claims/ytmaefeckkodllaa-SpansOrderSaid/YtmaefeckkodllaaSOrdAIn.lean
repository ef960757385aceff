/-
  SpansOrder: spans are rising, and none touches the next one; what is there and the gaps are all places ahead of any one, each once.
-/
import Derived.Test.YtmaefeckkodllaaAddsKit
import Derived.Test.YtmaefeckkodllaaSpanGaps
import Derived.Test.YtmaefeckkodllaaSOrdMath
import Derived.StillTailTactics
import Derived.Test.YtmaefeckkodllaaSOrdKit
import Derived.Test.YtmaefeckkodllaaHand
namespace Go.Proofs.Ytmaefeckkodllaa
open Go.RowKit

set_option maxRecDepth 100000 in
set_option maxHeartbeats 6400000 in
theorem so_a_in (A : Option Addr) (l : List (Bool × (Int × Int))) (cap : Nat) (to : Int) (w : World) (hN : l.length ≤ 9223372036854775807) (hs : OSrc w A l) (ht1 : 1 ≤ to) (ht2 : to ≤ 65536) (hlen : l.length ≤ 200) :
    Calls Try.prog 4 #[.slice A l.length cap, .int .i64 to] w fun e w' => e = .returned (.bool true) ∧ Below w.heap.size w w' := by
  have HS := Lib.hid hs
  clear hs
  go_enter Try.func4, Try.ntmps4
  go_wp2_with fail
  refine (new_sits _).mono ?_
  rintro e w1 ⟨rfl, h1, hb1⟩
  have HB1 := Lib.hid hb1
  have H1 := Lib.hid h1
  clear h1 hb1
  go_wp2_with fail
  go_loopw [7] (fun i wr => ∃ k : Nat, k ≤ l.length ∧ k ≤ 200 ∧ i = .int .i64 k ∧ Sits w.heap.size w.heap.size (runO (l.take k)) wr ∧ Below w.heap.size w wr) (fun i _ => l.length - (intOf i).toNat)
  case atStart => exact ⟨0, by omega, by omega, rfl, H1.out, HB1.out⟩
  case round =>
    obtain ⟨k, hk, hk2, rfl, hs1, hbr⟩ := hrel
    have HS1 := Lib.hid hs1
    have HBR := Lib.hid hbr
    clear hs1 hbr H1 HB1
    have hll := (runO_ok (l.take k)).2
    rw [List.length_take] at hll
    have HLL := Lib.hid (show (runO (l.take k)).length ≤ 200 by omega)
    clear hll
    by_cases hlt : k < l.length ∧ k < 200
    · obtain ⟨hlt, hlt2⟩ := hlt
      obtain ⟨b, off, rfl, hc⟩ := HS.out (by omega)
      obtain ⟨o, ho⟩ : ∃ o, l[k]? = some o := ⟨_, List.getElem?_eq_getElem hlt⟩
      have HT1 := Lib.hid (show runO (l.take (k + 1)) = opO o (runO (l.take k)) by rw [take_snoc ho, runO_snoc])
      obtain ⟨c0, c1, c2⟩ := hc k o ho
      have d0 := kept_box HBR.out c0
      have d1 := kept_box HBR.out c1
      have d2 := kept_box HBR.out c2
      clear hc ho c0 c1 c2
      obtain ⟨t, x⟩ := o
      obtain ⟨a, b1⟩ := x
      simp only at d0 d1 d2
      have hi0 : (0 : Int) ≤ (k : Int) := by omega
      have hi1 : (k : Int) < (l.length : Int) := by omega
      have hi2 : (k : Int) < 200 := by omega
      cases t
      · go_wp2_with fail
        refine (sit_add (a, b1) HS1.out (by have := HLL.out; omega)).mono ?_
        rintro e w3 ⟨rfl, h3, ho3⟩
        have H3 := Lib.hid h3
        have HB3 := Lib.hid (bl_only HBR.out ho3 (fun k hk hh => by omega) HBR.out.size)
        clear h3 ho3
        go_wp2
        go_roundw
        case rel => exact ⟨k + 1, by omega, by omega, by go_num, by rw [HT1.out]; exact H3.out, HB3.out⟩
        case measure => simp [intOf]; omega
      · go_wp2_with fail
        refine (sit_take (a, b1) HS1.out (by have := HLL.out; omega)).mono ?_
        rintro e w3 ⟨rfl, h3, ho3⟩
        have H3 := Lib.hid h3
        have HB3 := Lib.hid (bl_only HBR.out ho3 (fun k hk hh => by omega) HBR.out.size)
        clear h3 ho3
        go_wp2
        go_roundw
        case rel => exact ⟨k + 1, by omega, by omega, by go_num, by rw [HT1.out]; exact H3.out, HB3.out⟩
        case measure => simp [intOf]; omega
    · have HNL := Lib.hid (runO_ok (l.take k)).1
      generalize runO (l.take k) = L at *
      have hL := HLL.out
      have hcb := count_bounds HNL.out
      have hlt' : l.length ≤ k ∨ 200 ≤ k := by omega
      clear hlt
      all_goals
        have h80 : ¬ (k : Int) < (l.length : Int) := by omega
        clear hlt'
        go_wp2_with fail
        refine (sit_spans HS1.out (by omega)).mono ?_
        rintro e w3 ⟨rfl, r3, hb3⟩
        have HR3 := Lib.hid r3
        have HI3 := Lib.hid (HS1.out.later hb3)
        have HB3 := Lib.hid (bl_step HBR.out hb3)
        clear r3 hb3 HS1 HBR
        generalize wr.heap.size = ga at *
        go_wp2_with fail
        go_loopw [9, 10, 11] (fun n ins i wq => ∃ j : Nat, j ≤ L.length ∧ n = .int .i64 (countF (L.take j)) ∧ ins = .int .i64 (insF to (L.take j)) ∧ i = .int .i64 j ∧ Hid (Row wq ga 24 (spc L).toArray) ∧ Hid (Sits w.heap.size w.heap.size L wq) ∧ Hid (Below w.heap.size w wq)) (fun _ _ i _ => L.length - (intOf i).toNat)
        case atStart => exact ⟨0, by omega, rfl, rfl, rfl, HR3, HI3, HB3⟩
        case round =>
          obtain ⟨j, hj, rfl, rfl, rfl, HR, HI, HB⟩ := hrel
          clear HR3 HI3 HB3
          by_cases hjl : j < L.length
          · skip
            obtain ⟨y, hy⟩ : ∃ y, L[j]? = some y := ⟨_, List.getElem?_eq_getElem hjl⟩
            have c0 := HR.out.read (i := j * 2) (x := .int .i64 y.1) (by simpa using spc_at0 hy)
            have c1 := HR.out.read (i := j * 2 + 1) (x := .int .i64 y.2) (by simpa using spc_at1 hy)
            obtain ⟨hy0, hy1, hy2⟩ := HNL.out.mem (List.mem_of_getElem? hy)
            have HRT := Lib.hid (norm_right HNL.out (List.mem_of_getElem? hy))
            have HCT := Lib.hid (show countF (L.take (j + 1)) = countF (L.take j) + (y.2 - y.1) by rw [take_snoc hy, countF_snoc])
            have HIT := Lib.hid (show insF to (L.take (j + 1)) = insF to (L.take j) + inT to y by rw [take_snoc hy, insF_snoc])
            obtain ⟨hn0, hn1⟩ := count_bounds (norm_take HNL.out j)
            obtain ⟨hs0, hs1⟩ := insF_bd to (norm_take HNL.out j)
            have HPV := Lib.hid (show (∃ j' z, j' + 1 = j ∧ L[j']? = some z ∧ z.2 < y.1) ∨ j = 0 by
              cases j with
              | zero => exact .inr rfl
              | succ j' => exact .inl ⟨j', L[j'], rfl, List.getElem?_eq_getElem (by omega), norm_next HNL.out (List.getElem?_eq_getElem (by omega)) hy⟩)
            obtain ⟨a, b⟩ := y
            simp only at c0 c1 hy0 hy1 hy2 HCT HPV
            have hi0 : (0 : Int) ≤ (j : Int) := by omega
            have hi1 : (j : Int) < (L.length : Int) := by omega
            generalize countF (L.take j) = n at *
            generalize insF to (L.take j) = s at *
            have v1 : IntKind.i64.wrap (n + b) = n + b := IntWalk.i64_in _ (by omega)
            have v2 : IntKind.i64.wrap (n + b - a) = n + b - a := IntWalk.i64_in _ (by omega)
            have v3 : IntKind.i64.wrap (s + b) = s + b := IntWalk.i64_in _ (by omega)
            have v4 : IntKind.i64.wrap (s + b - a) = s + b - a := IntWalk.i64_in _ (by omega)
            have v5 : IntKind.i64.wrap (s + to) = s + to := IntWalk.i64_in _ (by omega)
            have v6 : IntKind.i64.wrap (s + to - a) = s + to - a := IntWalk.i64_in _ (by omega)
            clear hy
            have HPV2 := HPV.out
            clear HPV
            rcases HPV2 with ⟨j', ⟨za, zb⟩, hj', hz, hzy⟩ | hj00
            · skip
              have c2 := HR.out.read (i := j' * 2 + 1) (x := .int .i64 zb) (by simpa using spc_at1 hz)
              have hj1 : (0 : Int) < (j : Int) := by omega
              have g1 : IntKind.i64.wrap ((j : Int) - 1) = (j' : Int) := by rw [IntWalk.i64_in _ (by omega)]; omega
              have g2 : (0 : Int) ≤ (j' : Int) := by omega
              have g3 : (j' : Int) < (L.length : Int) := by omega
              simp only at hzy
              have g4 : ¬ a ≤ zb := by omega
              clear hz hj'
              go_wp2_with fail
              refine wp_region_noPanic ?_
              refine wp_region_held_drew (S := fun W => Below wr.heap.size wr W) (by kernel_rfl) (bl_drew (Below.refl _ _)) (fun hS => ?_)
              refine take_at 0 61 (v := ?vp0) (by simp only [List.getElem?_toArray, List.getElem?_cons_zero]; rfl) rfl (by kernel_rfl) (by kernel_rfl) (by kernel_rfl) (fun _ _ _ h => h) (Or.inl ⟨by rfl, ?yp0⟩) hS ?_
              case yp0 =>
                intro W hSW
                (try dsimp only at hSW)
                go_simp
                first | done | with_reducible rfl
              simp only [Act.put, List.setIfInBounds_toArray, List.set_cons_zero, List.set_cons_succ]
              refine take_at 1 62 (v := ?vp1) (by simp only [List.getElem?_toArray, List.getElem?_cons_succ, List.getElem?_cons_zero]; rfl) rfl (by kernel_rfl) (by kernel_rfl) (by kernel_rfl) (fun _ _ _ h => h) (Or.inl ⟨by rfl, ?yp1⟩) hS ?_
              case yp1 =>
                intro W hSW
                (try dsimp only at hSW)
                go_simp
                first | done | with_reducible rfl
              simp only [Act.put, List.setIfInBounds_toArray, List.set_cons_zero, List.set_cons_succ]
              refine take_at 2 63 (v := ?vp2) (by simp only [List.getElem?_toArray, List.getElem?_cons_succ, List.getElem?_cons_zero]; rfl) rfl (by kernel_rfl) (by kernel_rfl) (by kernel_rfl) (fun _ _ _ h => h) (Or.inl ⟨by rfl, ?yp2⟩) hS ?_
              case yp2 =>
                intro W hSW
                (try dsimp only at hSW)
                go_simp
                first | done | with_reducible rfl
              simp only [Act.put, List.setIfInBounds_toArray, List.set_cons_zero, List.set_cons_succ]
              refine take_at 3 64 (v := ?vp3) (by simp only [List.getElem?_toArray, List.getElem?_cons_succ, List.getElem?_cons_zero]; rfl) rfl (by kernel_rfl) (by kernel_rfl) (by kernel_rfl) (fun _ _ _ h => h) (Or.inl ⟨by rfl, ?yp3⟩) hS ?_
              case yp3 =>
                intro W hSW
                (try dsimp only at hSW)
                have z0 := kept_box hSW c0
                have z1 := kept_box hSW c1
                go_simp
                first | done | with_reducible rfl
              simp only [Act.put, List.setIfInBounds_toArray, List.set_cons_zero, List.set_cons_succ]
              refine wpAnyH_ready (rs := [4]) (by kernel_rfl) (by simp) ?_
              refine AllReadyH.cons rfl (fun K hK => ?_) AllReadyH.nil
              go_simp
              refine (right_p a b HRT.out _).mono ?_
              rintro e v9 ⟨rfl, hv9⟩
              try go_simp
              refine hK.out _ _ (bl_step hS hv9) (fun hS => ?_)
              clear hK K
              try simp only [Act.put, List.setIfInBounds_toArray, List.set_cons_zero, List.set_cons_succ]
              have hBv9 : Below wr.heap.size wr v9 := hS
              refine wpAnyH_more (S' := fun W => Below v9.heap.size v9 W) ?_ (fun _ h => bl_step hBv9 h)
              clear hS
              have hS : (fun W => Below v9.heap.size v9 W) v9 := Below.refl _ _
              refine take_at 5 66 (v := ?vp5) (by simp only [List.getElem?_toArray, List.getElem?_cons_succ, List.getElem?_cons_zero]; rfl) rfl (by kernel_rfl) (by kernel_rfl) (by kernel_rfl) (fun _ _ _ h => h) (Or.inl ⟨by rfl, ?yp5⟩) hS ?_
              case yp5 =>
                intro W hSW
                (try dsimp only at hSW)
                go_simp
                first | done | with_reducible rfl
              simp only [Act.put, List.setIfInBounds_toArray, List.set_cons_zero, List.set_cons_succ]
              refine take_at 6 67 (v := ?vp6) (by simp only [List.getElem?_toArray, List.getElem?_cons_succ, List.getElem?_cons_zero]; rfl) rfl (by kernel_rfl) (by kernel_rfl) (by kernel_rfl) (fun _ _ _ h => h) (Or.inl ⟨by rfl, ?yp6⟩) hS ?_
              case yp6 =>
                intro W hSW
                (try dsimp only at hSW)
                go_simp
                first | done | with_reducible rfl
              simp only [Act.put, List.setIfInBounds_toArray, List.set_cons_zero, List.set_cons_succ]
              refine take_at 7 68 (v := ?vp7) (by simp only [List.getElem?_toArray, List.getElem?_cons_succ, List.getElem?_cons_zero]; rfl) rfl (by kernel_rfl) (by kernel_rfl) (by kernel_rfl) (fun _ _ _ h => h) (Or.inl ⟨by rfl, ?yp7⟩) hS ?_
              case yp7 =>
                intro W hSW
                (try dsimp only at hSW)
                go_simp
                first | done | with_reducible rfl
              simp only [Act.put, List.setIfInBounds_toArray, List.set_cons_zero, List.set_cons_succ]
              refine take_at 8 69 (v := .bool true) (by simp only [List.getElem?_toArray, List.getElem?_cons_succ, List.getElem?_cons_zero]; rfl) rfl (by kernel_rfl) (by kernel_rfl) (by kernel_rfl) (fun _ _ _ h => h) (Or.inl ⟨by rfl, ?yp8⟩) hS ?_
              case yp8 =>
                intro W hSW
                (try dsimp only at hSW)
                go_simp
                first | done | with_reducible rfl | omega | (simp; omega)
              simp only [Act.put, List.setIfInBounds_toArray, List.set_cons_zero, List.set_cons_succ]
              refine take_at 9 70 (v := ?vp9) (by simp only [List.getElem?_toArray, List.getElem?_cons_succ, List.getElem?_cons_zero]; rfl) rfl (by kernel_rfl) (by kernel_rfl) (by kernel_rfl) (fun _ _ _ h => h) (Or.inl ⟨by rfl, ?yp9⟩) hS ?_
              case yp9 =>
                intro W hSW
                (try dsimp only at hSW)
                go_simp
                first | done | with_reducible rfl
              simp only [Act.put, List.setIfInBounds_toArray, List.set_cons_zero, List.set_cons_succ]
              refine take_at 10 71 (v := ?vp10) (by simp only [List.getElem?_toArray, List.getElem?_cons_succ, List.getElem?_cons_zero]; rfl) rfl (by kernel_rfl) (by kernel_rfl) (by kernel_rfl) (fun _ _ _ h => h) (Or.inl ⟨by rfl, ?yp10⟩) hS ?_
              case yp10 =>
                intro W hSW
                (try dsimp only at hSW)
                go_simp
                first | done | with_reducible rfl
              simp only [Act.put, List.setIfInBounds_toArray, List.set_cons_zero, List.set_cons_succ]
              refine take_at 11 72 (v := ?vp11) (by simp only [List.getElem?_toArray, List.getElem?_cons_succ, List.getElem?_cons_zero]; rfl) rfl (by kernel_rfl) (by kernel_rfl) (by kernel_rfl) (fun _ _ _ h => h) (Or.inl ⟨by rfl, ?yp11⟩) hS ?_
              case yp11 =>
                intro W hSW
                (try dsimp only at hSW)
                go_simp
                first | done | with_reducible rfl
              simp only [Act.put, List.setIfInBounds_toArray, List.set_cons_zero, List.set_cons_succ]
              refine take_at 12 73 (v := ?vp12) (by simp only [List.getElem?_toArray, List.getElem?_cons_succ, List.getElem?_cons_zero]; rfl) rfl (by kernel_rfl) (by kernel_rfl) (by kernel_rfl) (fun _ _ _ h => h) (Or.inl ⟨by rfl, ?yp12⟩) hS ?_
              case yp12 =>
                intro W hSW
                (try dsimp only at hSW)
                go_simp
                first | done | with_reducible rfl
              simp only [Act.put, List.setIfInBounds_toArray, List.set_cons_zero, List.set_cons_succ]
              refine take_at 13 74 (v := ?vp13) (by simp only [List.getElem?_toArray, List.getElem?_cons_succ, List.getElem?_cons_zero]; rfl) rfl (by kernel_rfl) (by kernel_rfl) (by kernel_rfl) (fun _ _ _ h => h) (Or.inl ⟨by rfl, ?yp13⟩) hS ?_
              case yp13 =>
                intro W hSW
                (try dsimp only at hSW)
                go_simp
                first | done | with_reducible rfl
              simp only [Act.put, List.setIfInBounds_toArray, List.set_cons_zero, List.set_cons_succ]
              refine take_at 14 75 (v := ?vp14) (by simp only [List.getElem?_toArray, List.getElem?_cons_succ, List.getElem?_cons_zero]; rfl) rfl (by kernel_rfl) (by kernel_rfl) (by kernel_rfl) (fun _ _ _ h => h) (Or.inl ⟨by rfl, ?yp14⟩) hS ?_
              case yp14 =>
                intro W hSW
                (try dsimp only at hSW)
                go_simp
                first | done | with_reducible rfl
              simp only [Act.put, List.setIfInBounds_toArray, List.set_cons_zero, List.set_cons_succ]
              refine take_at 15 76 (v := ?vp15) (by simp only [List.getElem?_toArray, List.getElem?_cons_succ, List.getElem?_cons_zero]; rfl) rfl (by kernel_rfl) (by kernel_rfl) (by kernel_rfl) (fun _ _ _ h => h) (Or.inl ⟨by rfl, ?yp15⟩) hS ?_
              case yp15 =>
                intro W hSW
                (try dsimp only at hSW)
                have z2 := kept_box (bl_step hBv9 hSW) c2
                go_simp
                first | done | with_reducible rfl
              simp only [Act.put, List.setIfInBounds_toArray, List.set_cons_zero, List.set_cons_succ]
              refine take_at 16 77 (v := ?vp16) (by simp only [List.getElem?_toArray, List.getElem?_cons_succ, List.getElem?_cons_zero]; rfl) rfl (by kernel_rfl) (by kernel_rfl) (by kernel_rfl) (fun _ _ _ h => h) (Or.inl ⟨by rfl, ?yp16⟩) hS ?_
              case yp16 =>
                intro W hSW
                (try dsimp only at hSW)
                go_simp
                first | done | with_reducible rfl
              simp only [Act.put, List.setIfInBounds_toArray, List.set_cons_zero, List.set_cons_succ]
              refine take_at 17 78 (v := ?vp17) (by simp only [List.getElem?_toArray, List.getElem?_cons_succ, List.getElem?_cons_zero]; rfl) rfl (by kernel_rfl) (by kernel_rfl) (by kernel_rfl) (fun _ _ _ h => h) (Or.inl ⟨by rfl, ?yp17⟩) hS ?_
              case yp17 =>
                intro W hSW
                (try dsimp only at hSW)
                go_simp
                first | done | with_reducible rfl
              simp only [Act.put, List.setIfInBounds_toArray, List.set_cons_zero, List.set_cons_succ]
              refine take_at 18 79 (v := ?vp18) (by simp only [List.getElem?_toArray, List.getElem?_cons_succ, List.getElem?_cons_zero]; rfl) rfl (by kernel_rfl) (by kernel_rfl) (by kernel_rfl) (fun _ _ _ h => h) (Or.inl ⟨by rfl, ?yp18⟩) hS ?_
              case yp18 =>
                intro W hSW
                (try dsimp only at hSW)
                go_simp
                first | done | with_reducible rfl
              simp only [Act.put, List.setIfInBounds_toArray, List.set_cons_zero, List.set_cons_succ]
              refine take_at 19 80 (v := ?vp19) (by simp only [List.getElem?_toArray, List.getElem?_cons_succ, List.getElem?_cons_zero]; rfl) rfl (by kernel_rfl) (by kernel_rfl) (by kernel_rfl) (fun _ _ _ h => h) (Or.inl ⟨by rfl, ?yp19⟩) hS ?_
              case yp19 =>
                intro W hSW
                (try dsimp only at hSW)
                go_simp
                first | done | with_reducible rfl
              simp only [Act.put, List.setIfInBounds_toArray, List.set_cons_zero, List.set_cons_succ]
              refine take_at 20 81 (v := ?vp20) (by simp only [List.getElem?_toArray, List.getElem?_cons_succ, List.getElem?_cons_zero]; rfl) rfl (by kernel_rfl) (by kernel_rfl) (by kernel_rfl) (fun _ _ _ h => h) (Or.inl ⟨by rfl, ?yp20⟩) hS ?_
              case yp20 =>
                intro W hSW
                (try dsimp only at hSW)
                have z0 := kept_box (bl_step hBv9 hSW) c0
                go_simp
                first | done | with_reducible rfl
              simp only [Act.put, List.setIfInBounds_toArray, List.set_cons_zero, List.set_cons_succ]
              refine take_at 21 82 (v := .bool false) (by simp only [List.getElem?_toArray, List.getElem?_cons_succ, List.getElem?_cons_zero]; rfl) rfl (by kernel_rfl) (by kernel_rfl) (by kernel_rfl) (fun _ _ _ h => h) (Or.inl ⟨by rfl, ?yp21⟩) hS ?_
              case yp21 =>
                intro W hSW
                (try dsimp only at hSW)
                go_simp
                first | done | with_reducible rfl | omega | (simp; omega)
              simp only [Act.put, List.setIfInBounds_toArray, List.set_cons_zero, List.set_cons_succ]
              refine take_at 22 83 (v := ?vp22) (by simp only [List.getElem?_toArray, List.getElem?_cons_succ, List.getElem?_cons_zero]; rfl) rfl (by kernel_rfl) (by kernel_rfl) (by kernel_rfl) (fun _ _ _ h => h) (Or.inl ⟨by rfl, ?yp22⟩) hS ?_
              case yp22 =>
                intro W hSW
                (try dsimp only at hSW)
                go_simp
                first | done | with_reducible rfl
              simp only [Act.put, List.setIfInBounds_toArray, List.set_cons_zero, List.set_cons_succ]
              refine take_at 23 84 (v := ?vp23) (by simp only [List.getElem?_toArray, List.getElem?_cons_succ, List.getElem?_cons_zero]; rfl) rfl (by kernel_rfl) (by kernel_rfl) (by kernel_rfl) (fun _ _ _ h => h) (Or.inl ⟨by rfl, ?yp23⟩) hS ?_
              case yp23 =>
                intro W hSW
                (try dsimp only at hSW)
                go_simp
                first | done | with_reducible rfl
              simp only [Act.put, List.setIfInBounds_toArray, List.set_cons_zero, List.set_cons_succ]
              refine wpAnyH_done (by kernel_rfl) ?_ _
              refine NoPanic.normal ?_
              have q0 := kept_box hBv9 c0
              have q1 := kept_box hBv9 c1
              have HF9 := Lib.hid (And.intro (HR.out.later hBv9) (And.intro (HI.out.later hBv9) (bl_step HB.out hBv9)))
              clear c0 c1 c2 hS hBv9
              go_wp2_with fail
              have e0 : v9.drew.cell? ⟨ga, j * 2, none⟩ = some (.int .i64 a) := q0
              have e1 : v9.drew.cell? ⟨ga, j * 2 + 1, none⟩ = some (.int .i64 b) := q1
              refine wp_region_still_lit (by kernel_rfl) (by kernel_rfl) ?_
              change wpStill _ _ v9.drew (fun b => _) _ _
              generalize v9.drew = x1 at e0 e1 ⊢
              repeat still_step
              refine wpStill_nil ?_
              clear e0 e1
              have f0 : v9.drew.cell? ⟨ga, j * 2, none⟩ = some (.int .i64 a) := q0
              have f1 : v9.drew.cell? ⟨ga, j * 2 + 1, none⟩ = some (.int .i64 b) := q1
              rcases (by omega : to ≤ a ∨ (a < to ∧ b < to) ∨ (a < to ∧ to ≤ b)) with t3 | ⟨t3, t4⟩ | ⟨t3, t4⟩
              · have HVN := Lib.hid (show insF to (L.take (j + 1)) = s + (0) by rw [HIT.out]; unfold inT; simp only; rw [if_neg (by omega)])
                have t5 : ¬ a < to := by omega
                have HZ := Lib.hid (show Row v9.drew ga 24 (spc L).toArray ∧ Sits w.heap.size w.heap.size L v9.drew ∧ Below w.heap.size w v9.drew from ⟨HF9.out.1, (HF9.out.2.1.later (bl_drew (Below.refl _ _))), bl_drew (HF9.out.2.2)⟩)
                go_wp2
                go_roundw
                case rel => exact ⟨j + 1, by omega, congrArg (Value.int .i64) (by have := HCT.out; omega), congrArg (Value.int .i64) (by have := HVN.out; omega), by go_num, Lib.hid HZ.out.1, Lib.hid HZ.out.2.1, Lib.hid HZ.out.2.2⟩
                case measure => simp [intOf]; omega
              · have HVN := Lib.hid (show insF to (L.take (j + 1)) = s + (b - a) by rw [HIT.out]; unfold inT; simp only; rw [if_pos (by omega), if_pos (by omega)])
                go_wp2_with fail
                have e0 : v9.drew.drew.cell? ⟨ga, j * 2, none⟩ = some (.int .i64 a) := q0
                have e1 : v9.drew.drew.cell? ⟨ga, j * 2 + 1, none⟩ = some (.int .i64 b) := q1
                refine wp_region_still_lit (by kernel_rfl) (by kernel_rfl) ?_
                change wpStill _ _ v9.drew.drew (fun b => _) _ _
                generalize v9.drew.drew = x2 at e0 e1 ⊢
                repeat still_step
                refine wpStill_nil ?_
                clear e0 e1
                have HZ := Lib.hid (show Row v9.drew.drew ga 24 (spc L).toArray ∧ Sits w.heap.size w.heap.size L v9.drew.drew ∧ Below w.heap.size w v9.drew.drew from ⟨HF9.out.1, ((HF9.out.2.1.later (bl_drew (Below.refl _ _))).later (bl_drew (Below.refl _ _))), bl_drew (bl_drew (HF9.out.2.2))⟩)
                go_wp2
                go_roundw
                case rel => exact ⟨j + 1, by omega, congrArg (Value.int .i64) (by have := HCT.out; omega), congrArg (Value.int .i64) (by have := HVN.out; omega), by go_num, Lib.hid HZ.out.1, Lib.hid HZ.out.2.1, Lib.hid HZ.out.2.2⟩
                case measure => simp [intOf]; omega
              · have HVN := Lib.hid (show insF to (L.take (j + 1)) = s + (to - a) by rw [HIT.out]; unfold inT; simp only; rw [if_pos (by omega), if_neg (by omega)])
                have t5 : ¬ b < to := by omega
                have HZ := Lib.hid (show Row v9.drew ga 24 (spc L).toArray ∧ Sits w.heap.size w.heap.size L v9.drew ∧ Below w.heap.size w v9.drew from ⟨HF9.out.1, (HF9.out.2.1.later (bl_drew (Below.refl _ _))), bl_drew (HF9.out.2.2)⟩)
                go_wp2
                go_roundw
                case rel => exact ⟨j + 1, by omega, congrArg (Value.int .i64) (by have := HCT.out; omega), congrArg (Value.int .i64) (by have := HVN.out; omega), by go_num, Lib.hid HZ.out.1, Lib.hid HZ.out.2.1, Lib.hid HZ.out.2.2⟩
                case measure => simp [intOf]; omega
            · skip
              have hj1 : ¬ (0 : Int) < (j : Int) := by omega
              clear hj00
              go_wp2_with fail
              refine wp_region_noPanic ?_
              refine wp_region_held_drew (S := fun W => Below wr.heap.size wr W) (by kernel_rfl) (bl_drew (Below.refl _ _)) (fun hS => ?_)
              refine take_at 0 61 (v := ?vn0) (by simp only [List.getElem?_toArray, List.getElem?_cons_zero]; rfl) rfl (by kernel_rfl) (by kernel_rfl) (by kernel_rfl) (fun _ _ _ h => h) (Or.inl ⟨by rfl, ?yn0⟩) hS ?_
              case yn0 =>
                intro W hSW
                (try dsimp only at hSW)
                go_simp
                first | done | with_reducible rfl
              simp only [Act.put, List.setIfInBounds_toArray, List.set_cons_zero, List.set_cons_succ]
              refine take_at 1 62 (v := ?vn1) (by simp only [List.getElem?_toArray, List.getElem?_cons_succ, List.getElem?_cons_zero]; rfl) rfl (by kernel_rfl) (by kernel_rfl) (by kernel_rfl) (fun _ _ _ h => h) (Or.inl ⟨by rfl, ?yn1⟩) hS ?_
              case yn1 =>
                intro W hSW
                (try dsimp only at hSW)
                go_simp
                first | done | with_reducible rfl
              simp only [Act.put, List.setIfInBounds_toArray, List.set_cons_zero, List.set_cons_succ]
              refine take_at 2 63 (v := ?vn2) (by simp only [List.getElem?_toArray, List.getElem?_cons_succ, List.getElem?_cons_zero]; rfl) rfl (by kernel_rfl) (by kernel_rfl) (by kernel_rfl) (fun _ _ _ h => h) (Or.inl ⟨by rfl, ?yn2⟩) hS ?_
              case yn2 =>
                intro W hSW
                (try dsimp only at hSW)
                go_simp
                first | done | with_reducible rfl
              simp only [Act.put, List.setIfInBounds_toArray, List.set_cons_zero, List.set_cons_succ]
              refine take_at 3 64 (v := ?vn3) (by simp only [List.getElem?_toArray, List.getElem?_cons_succ, List.getElem?_cons_zero]; rfl) rfl (by kernel_rfl) (by kernel_rfl) (by kernel_rfl) (fun _ _ _ h => h) (Or.inl ⟨by rfl, ?yn3⟩) hS ?_
              case yn3 =>
                intro W hSW
                (try dsimp only at hSW)
                have z0 := kept_box hSW c0
                have z1 := kept_box hSW c1
                go_simp
                first | done | with_reducible rfl
              simp only [Act.put, List.setIfInBounds_toArray, List.set_cons_zero, List.set_cons_succ]
              refine wpAnyH_ready (rs := [4]) (by kernel_rfl) (by simp) ?_
              refine AllReadyH.cons rfl (fun K hK => ?_) AllReadyH.nil
              go_simp
              refine (right_p a b HRT.out _).mono ?_
              rintro e v9 ⟨rfl, hv9⟩
              try go_simp
              refine hK.out _ _ (bl_step hS hv9) (fun hS => ?_)
              clear hK K
              try simp only [Act.put, List.setIfInBounds_toArray, List.set_cons_zero, List.set_cons_succ]
              have hBv9 : Below wr.heap.size wr v9 := hS
              refine wpAnyH_more (S' := fun W => Below v9.heap.size v9 W) ?_ (fun _ h => bl_step hBv9 h)
              clear hS
              have hS : (fun W => Below v9.heap.size v9 W) v9 := Below.refl _ _
              refine take_at 5 66 (v := ?vn5) (by simp only [List.getElem?_toArray, List.getElem?_cons_succ, List.getElem?_cons_zero]; rfl) rfl (by kernel_rfl) (by kernel_rfl) (by kernel_rfl) (fun _ _ _ h => h) (Or.inl ⟨by rfl, ?yn5⟩) hS ?_
              case yn5 =>
                intro W hSW
                (try dsimp only at hSW)
                go_simp
                first | done | with_reducible rfl
              simp only [Act.put, List.setIfInBounds_toArray, List.set_cons_zero, List.set_cons_succ]
              refine take_at 6 67 (v := ?vn6) (by simp only [List.getElem?_toArray, List.getElem?_cons_succ, List.getElem?_cons_zero]; rfl) rfl (by kernel_rfl) (by kernel_rfl) (by kernel_rfl) (fun _ _ _ h => h) (Or.inl ⟨by rfl, ?yn6⟩) hS ?_
              case yn6 =>
                intro W hSW
                (try dsimp only at hSW)
                go_simp
                first | done | with_reducible rfl
              simp only [Act.put, List.setIfInBounds_toArray, List.set_cons_zero, List.set_cons_succ]
              refine take_at 7 68 (v := ?vn7) (by simp only [List.getElem?_toArray, List.getElem?_cons_succ, List.getElem?_cons_zero]; rfl) rfl (by kernel_rfl) (by kernel_rfl) (by kernel_rfl) (fun _ _ _ h => h) (Or.inl ⟨by rfl, ?yn7⟩) hS ?_
              case yn7 =>
                intro W hSW
                (try dsimp only at hSW)
                go_simp
                first | done | with_reducible rfl
              simp only [Act.put, List.setIfInBounds_toArray, List.set_cons_zero, List.set_cons_succ]
              refine take_at 8 69 (v := .bool false) (by simp only [List.getElem?_toArray, List.getElem?_cons_succ, List.getElem?_cons_zero]; rfl) rfl (by kernel_rfl) (by kernel_rfl) (by kernel_rfl) (fun _ _ _ h => h) (Or.inl ⟨by rfl, ?yn8⟩) hS ?_
              case yn8 =>
                intro W hSW
                (try dsimp only at hSW)
                go_simp
                first | done | with_reducible rfl | omega | (simp; omega)
              simp only [Act.put, List.setIfInBounds_toArray, List.set_cons_zero, List.set_cons_succ]
              refine take_at 9 70 (v := ?vn9) (by simp only [List.getElem?_toArray, List.getElem?_cons_succ, List.getElem?_cons_zero]; rfl) rfl (by kernel_rfl) (by kernel_rfl) (by kernel_rfl) (fun _ _ _ h => h) (Or.inl ⟨by rfl, ?yn9⟩) hS ?_
              case yn9 =>
                intro W hSW
                (try dsimp only at hSW)
                go_simp
                first | done | with_reducible rfl
              simp only [Act.put, List.setIfInBounds_toArray, List.set_cons_zero, List.set_cons_succ]
              refine take_at 10 71 (v := undef) (by simp only [List.getElem?_toArray, List.getElem?_cons_succ, List.getElem?_cons_zero]; rfl) rfl (by kernel_rfl) (by kernel_rfl) (by kernel_rfl) (fun _ _ _ h => h) (Or.inr ⟨by rfl, rfl⟩) hS ?_
              simp only [Act.put, List.setIfInBounds_toArray, List.set_cons_zero, List.set_cons_succ]
              refine take_at 11 72 (v := undef) (by simp only [List.getElem?_toArray, List.getElem?_cons_succ, List.getElem?_cons_zero]; rfl) rfl (by kernel_rfl) (by kernel_rfl) (by kernel_rfl) (fun _ _ _ h => h) (Or.inr ⟨by rfl, rfl⟩) hS ?_
              simp only [Act.put, List.setIfInBounds_toArray, List.set_cons_zero, List.set_cons_succ]
              refine take_at 12 73 (v := undef) (by simp only [List.getElem?_toArray, List.getElem?_cons_succ, List.getElem?_cons_zero]; rfl) rfl (by kernel_rfl) (by kernel_rfl) (by kernel_rfl) (fun _ _ _ h => h) (Or.inr ⟨by rfl, rfl⟩) hS ?_
              simp only [Act.put, List.setIfInBounds_toArray, List.set_cons_zero, List.set_cons_succ]
              refine take_at 13 74 (v := undef) (by simp only [List.getElem?_toArray, List.getElem?_cons_succ, List.getElem?_cons_zero]; rfl) rfl (by kernel_rfl) (by kernel_rfl) (by kernel_rfl) (fun _ _ _ h => h) (Or.inr ⟨by rfl, rfl⟩) hS ?_
              simp only [Act.put, List.setIfInBounds_toArray, List.set_cons_zero, List.set_cons_succ]
              refine take_at 14 75 (v := undef) (by simp only [List.getElem?_toArray, List.getElem?_cons_succ, List.getElem?_cons_zero]; rfl) rfl (by kernel_rfl) (by kernel_rfl) (by kernel_rfl) (fun _ _ _ h => h) (Or.inr ⟨by rfl, rfl⟩) hS ?_
              simp only [Act.put, List.setIfInBounds_toArray, List.set_cons_zero, List.set_cons_succ]
              refine take_at 15 76 (v := undef) (by simp only [List.getElem?_toArray, List.getElem?_cons_succ, List.getElem?_cons_zero]; rfl) rfl (by kernel_rfl) (by kernel_rfl) (by kernel_rfl) (fun _ _ _ h => h) (Or.inr ⟨by rfl, rfl⟩) hS ?_
              simp only [Act.put, List.setIfInBounds_toArray, List.set_cons_zero, List.set_cons_succ]
              refine take_at 16 77 (v := undef) (by simp only [List.getElem?_toArray, List.getElem?_cons_succ, List.getElem?_cons_zero]; rfl) rfl (by kernel_rfl) (by kernel_rfl) (by kernel_rfl) (fun _ _ _ h => h) (Or.inr ⟨by rfl, rfl⟩) hS ?_
              simp only [Act.put, List.setIfInBounds_toArray, List.set_cons_zero, List.set_cons_succ]
              refine take_at 17 78 (v := undef) (by simp only [List.getElem?_toArray, List.getElem?_cons_succ, List.getElem?_cons_zero]; rfl) rfl (by kernel_rfl) (by kernel_rfl) (by kernel_rfl) (fun _ _ _ h => h) (Or.inr ⟨by rfl, rfl⟩) hS ?_
              simp only [Act.put, List.setIfInBounds_toArray, List.set_cons_zero, List.set_cons_succ]
              refine take_at 18 79 (v := undef) (by simp only [List.getElem?_toArray, List.getElem?_cons_succ, List.getElem?_cons_zero]; rfl) rfl (by kernel_rfl) (by kernel_rfl) (by kernel_rfl) (fun _ _ _ h => h) (Or.inr ⟨by rfl, rfl⟩) hS ?_
              simp only [Act.put, List.setIfInBounds_toArray, List.set_cons_zero, List.set_cons_succ]
              refine take_at 19 80 (v := undef) (by simp only [List.getElem?_toArray, List.getElem?_cons_succ, List.getElem?_cons_zero]; rfl) rfl (by kernel_rfl) (by kernel_rfl) (by kernel_rfl) (fun _ _ _ h => h) (Or.inr ⟨by rfl, rfl⟩) hS ?_
              simp only [Act.put, List.setIfInBounds_toArray, List.set_cons_zero, List.set_cons_succ]
              refine take_at 20 81 (v := undef) (by simp only [List.getElem?_toArray, List.getElem?_cons_succ, List.getElem?_cons_zero]; rfl) rfl (by kernel_rfl) (by kernel_rfl) (by kernel_rfl) (fun _ _ _ h => h) (Or.inr ⟨by rfl, rfl⟩) hS ?_
              simp only [Act.put, List.setIfInBounds_toArray, List.set_cons_zero, List.set_cons_succ]
              refine take_at 21 82 (v := undef) (by simp only [List.getElem?_toArray, List.getElem?_cons_succ, List.getElem?_cons_zero]; rfl) rfl (by kernel_rfl) (by kernel_rfl) (by kernel_rfl) (fun _ _ _ h => h) (Or.inr ⟨by rfl, rfl⟩) hS ?_
              simp only [Act.put, List.setIfInBounds_toArray, List.set_cons_zero, List.set_cons_succ]
              refine take_at 22 83 (v := ?vn22) (by simp only [List.getElem?_toArray, List.getElem?_cons_succ, List.getElem?_cons_zero]; rfl) rfl (by kernel_rfl) (by kernel_rfl) (by kernel_rfl) (fun _ _ _ h => h) (Or.inl ⟨by rfl, ?yn22⟩) hS ?_
              case yn22 =>
                intro W hSW
                (try dsimp only at hSW)
                go_simp
                first | done | with_reducible rfl
              simp only [Act.put, List.setIfInBounds_toArray, List.set_cons_zero, List.set_cons_succ]
              refine take_at 23 84 (v := ?vn23) (by simp only [List.getElem?_toArray, List.getElem?_cons_succ, List.getElem?_cons_zero]; rfl) rfl (by kernel_rfl) (by kernel_rfl) (by kernel_rfl) (fun _ _ _ h => h) (Or.inl ⟨by rfl, ?yn23⟩) hS ?_
              case yn23 =>
                intro W hSW
                (try dsimp only at hSW)
                go_simp
                first | done | with_reducible rfl
              simp only [Act.put, List.setIfInBounds_toArray, List.set_cons_zero, List.set_cons_succ]
              refine wpAnyH_done (by kernel_rfl) ?_ _
              refine NoPanic.normal ?_
              have q0 := kept_box hBv9 c0
              have q1 := kept_box hBv9 c1
              have HF9 := Lib.hid (And.intro (HR.out.later hBv9) (And.intro (HI.out.later hBv9) (bl_step HB.out hBv9)))
              clear c0 c1 hS hBv9
              go_wp2_with fail
              have e0 : v9.drew.cell? ⟨ga, j * 2, none⟩ = some (.int .i64 a) := q0
              have e1 : v9.drew.cell? ⟨ga, j * 2 + 1, none⟩ = some (.int .i64 b) := q1
              refine wp_region_still_lit (by kernel_rfl) (by kernel_rfl) ?_
              change wpStill _ _ v9.drew (fun b => _) _ _
              generalize v9.drew = x1 at e0 e1 ⊢
              repeat still_step
              refine wpStill_nil ?_
              clear e0 e1
              have f0 : v9.drew.cell? ⟨ga, j * 2, none⟩ = some (.int .i64 a) := q0
              have f1 : v9.drew.cell? ⟨ga, j * 2 + 1, none⟩ = some (.int .i64 b) := q1
              rcases (by omega : to ≤ a ∨ (a < to ∧ b < to) ∨ (a < to ∧ to ≤ b)) with t3 | ⟨t3, t4⟩ | ⟨t3, t4⟩
              · have HVN := Lib.hid (show insF to (L.take (j + 1)) = s + (0) by rw [HIT.out]; unfold inT; simp only; rw [if_neg (by omega)])
                have t5 : ¬ a < to := by omega
                have HZ := Lib.hid (show Row v9.drew ga 24 (spc L).toArray ∧ Sits w.heap.size w.heap.size L v9.drew ∧ Below w.heap.size w v9.drew from ⟨HF9.out.1, (HF9.out.2.1.later (bl_drew (Below.refl _ _))), bl_drew (HF9.out.2.2)⟩)
                go_wp2
                go_roundw
                case rel => exact ⟨j + 1, by omega, congrArg (Value.int .i64) (by have := HCT.out; omega), congrArg (Value.int .i64) (by have := HVN.out; omega), by go_num, Lib.hid HZ.out.1, Lib.hid HZ.out.2.1, Lib.hid HZ.out.2.2⟩
                case measure => simp [intOf]; omega
              · have HVN := Lib.hid (show insF to (L.take (j + 1)) = s + (b - a) by rw [HIT.out]; unfold inT; simp only; rw [if_pos (by omega), if_pos (by omega)])
                go_wp2_with fail
                have e0 : v9.drew.drew.cell? ⟨ga, j * 2, none⟩ = some (.int .i64 a) := q0
                have e1 : v9.drew.drew.cell? ⟨ga, j * 2 + 1, none⟩ = some (.int .i64 b) := q1
                refine wp_region_still_lit (by kernel_rfl) (by kernel_rfl) ?_
                change wpStill _ _ v9.drew.drew (fun b => _) _ _
                generalize v9.drew.drew = x2 at e0 e1 ⊢
                repeat still_step
                refine wpStill_nil ?_
                clear e0 e1
                have HZ := Lib.hid (show Row v9.drew.drew ga 24 (spc L).toArray ∧ Sits w.heap.size w.heap.size L v9.drew.drew ∧ Below w.heap.size w v9.drew.drew from ⟨HF9.out.1, ((HF9.out.2.1.later (bl_drew (Below.refl _ _))).later (bl_drew (Below.refl _ _))), bl_drew (bl_drew (HF9.out.2.2))⟩)
                go_wp2
                go_roundw
                case rel => exact ⟨j + 1, by omega, congrArg (Value.int .i64) (by have := HCT.out; omega), congrArg (Value.int .i64) (by have := HVN.out; omega), by go_num, Lib.hid HZ.out.1, Lib.hid HZ.out.2.1, Lib.hid HZ.out.2.2⟩
                case measure => simp [intOf]; omega
              · have HVN := Lib.hid (show insF to (L.take (j + 1)) = s + (to - a) by rw [HIT.out]; unfold inT; simp only; rw [if_pos (by omega), if_neg (by omega)])
                have t5 : ¬ b < to := by omega
                have HZ := Lib.hid (show Row v9.drew ga 24 (spc L).toArray ∧ Sits w.heap.size w.heap.size L v9.drew ∧ Below w.heap.size w v9.drew from ⟨HF9.out.1, (HF9.out.2.1.later (bl_drew (Below.refl _ _))), bl_drew (HF9.out.2.2)⟩)
                go_wp2
                go_roundw
                case rel => exact ⟨j + 1, by omega, congrArg (Value.int .i64) (by have := HCT.out; omega), congrArg (Value.int .i64) (by have := HVN.out; omega), by go_num, Lib.hid HZ.out.1, Lib.hid HZ.out.2.1, Lib.hid HZ.out.2.2⟩
                case measure => simp [intOf]; omega
          · have hjl2 : ¬ (j : Int) < (L.length : Int) := by omega
            have hct : L.take j = L := List.take_of_length_le (by omega)
            rw [hct]
            have h2048 : ¬ (2048 : Int) < (L.length : Int) := by omega
            have HCT := Lib.hid hct
            clear hct hjl hj
            have HGR := Lib.hid (fun g (hg : g ∈ gapsR to 0 L) => gaps_right HNL.out ht2 hg)
            have HGL := Lib.hid (gapsR_len to L 0)
            have hsum := gaps_sum (to := to) HNL.out (Int.le_refl 0)
            have hsum2 : countF (gapsR to 0 L) + insF to L = to := by rw [hsum]; omega
            obtain ⟨hs0, hs1⟩ := insF_bd to HNL.out
            have HGA := Lib.hid (fun W sv (h : SRep w.heap.size W w.heap.size sv L) => gaps_any to ht1 ht2 h (by omega))
            generalize hG : gapsR to 0 L = G at *
            clear hG hsum
            have hG201 : G.length ≤ 201 := by have := HGL.out; omega
            have HPOS := Lib.hid (fun q => count_part q (fun g hg => (HGR.out g hg).1))
            have HSUM := Lib.hid hsum2
            have hcg := HPOS.out G.length
            generalize insF to L = I at *
            go_wp2_with (first
              | (go_at_call 16; refine (sit_count HI.out (by omega)).mono ?_; rintro e w5 ⟨rfl, hb5⟩; have HI5 := Lib.hid (HI.out.later hb5); have HB5 := Lib.hid (bl_step HB.out hb5); obtain ⟨_, _, _, sv5, hr5⟩ := HI5.out; have HR5 := Lib.hid hr5; clear hb5 hr5)
              | (go_at_call 23; refine (HGA.out w5 sv5 HR5.out).mono ?_; rintro e w6 ⟨AG, rfl, hsrc, hb6⟩; have HI6 := Lib.hid (HI5.out.later hb6); have HB6 := Lib.hid (bl_step HB5.out hb6); have HSG := Lib.hid hsrc; clear hb6 hsrc))
            clear hs1
            go_loopw [10, 13] (fun ins i wq => ∃ q : Nat, q ≤ G.length ∧ ins = .int .i64 (I + countF (G.take q)) ∧ i = .int .i64 q ∧ Hid (SrcO wq AG (spc G)) ∧ Hid (Sits w.heap.size w.heap.size L wq) ∧ Hid (Below w.heap.size w wq)) (fun _ i _ => G.length - (intOf i).toNat)
            case atStart => exact ⟨0, by omega, congrArg (Value.int .i64) (by simp [countF_nil]), rfl, HSG, HI6, HB6⟩
            case round =>
              obtain ⟨q, hq, rfl, rfl, HS9, HI9, HB9⟩ := hrel
              obtain ⟨hp0, hp1⟩ := HPOS.out q
              clear HSG HI6 HB6
              by_cases hql : q < G.length
              · obtain ⟨⟨ya, yb⟩, hy⟩ : ∃ y, G[q]? = some y := ⟨_, List.getElem?_eq_getElem hql⟩
                obtain ⟨hgr1, hgr2, hgr3⟩ := HGR.out _ (List.mem_of_getElem? hy)
                obtain ⟨b9, o9, rfl, hc9⟩ := HS9.out (by have := List.getElem?_eq_some_iff.1 (spc_at0 hy); obtain ⟨h, _⟩ := this; omega)
                have c0 := hc9 _ _ (spc_at0 hy)
                have c1 : wr.cell? ⟨b9, o9 + q * 2 + 1, none⟩ = some (.int .i64 yb) := by rw [Nat.add_assoc]; exact hc9 _ _ (spc_at1 hy)
                have HCT2 := Lib.hid (show countF (G.take (q + 1)) = countF (G.take q) + (yb - ya) by rw [take_snoc hy, countF_snoc])
                obtain ⟨hp2, hp3⟩ := HPOS.out (q + 1)
                rw [HCT2.out] at hp2 hp3
                obtain ⟨hr1, hr2, hr3⟩ := rightB_iff.1 hgr1
                simp only at c0 c1 hgr2 hr1 hr2 hr3
                generalize countF (G.take q) = n at *
                have hi0 : (0 : Int) ≤ (q : Int) := by omega
                have hi1 : (q : Int) < (G.length : Int) := by omega
                have v1 : IntKind.i64.wrap (I + n + yb) = I + n + yb := IntWalk.i64_in _ (by omega)
                have v2 : IntKind.i64.wrap (I + n + yb - ya) = I + n + yb - ya := IntWalk.i64_in _ (by omega)
                have g1 : ¬ to < yb := by omega
                have HRT := Lib.hid hgr1
                have HTU := Lib.hid hgr3
                clear hc9 hy hgr1 hgr3
                go_wp2_with (first
                  | (go_at_call 27; (with_reducible refine (right_p ya yb HRT.out _).mono ?_); rintro e z1 ⟨rfl, hv1⟩; have k0 := kept_box hv1 c0; have k1 := kept_box hv1 c1; have HV1 := Lib.hid hv1; clear hv1)
                  | (go_at_call 26; refine (sit_tou (ya, yb) (HI9.out.later HV1.out) false HTU.out).mono ?_; rintro e z2 ⟨rfl, hv2⟩; have m0 := kept_box hv2 k0; have m1 := kept_box hv2 k1; have HV2 := Lib.hid (bl_step HV1.out hv2); clear hv2))
                have HF := Lib.hid (And.intro (HS9.out.later HV2.out) (And.intro (HI9.out.later HV2.out) (bl_step HB9.out HV2.out)))
                clear k0 k1 c0 c1
                go_wp2_with fail
                have e0 : z2.drew.cell? ⟨b9, o9 + q * 2, none⟩ = some (.int .i64 ya) := m0
                have e1 : z2.drew.cell? ⟨b9, o9 + q * 2 + 1, none⟩ = some (.int .i64 yb) := m1
                refine wp_region_still_lit (by kernel_rfl) (by kernel_rfl) ?_
                change wpStill _ _ z2.drew (fun b => _) _ _
                generalize z2.drew = x3 at e0 e1 ⊢
                repeat still_step
                refine wpStill_nil ?_
                clear e0 e1
                have HZ := Lib.hid (show SrcO z2.drew (some ⟨b9, o9, none⟩) (spc G) ∧ Sits w.heap.size w.heap.size L z2.drew ∧ Below w.heap.size w z2.drew from ⟨HF.out.1.later (bl_drew (Below.refl _ _)), HF.out.2.1.later (bl_drew (Below.refl _ _)), bl_drew HF.out.2.2⟩)
                go_wp2
                go_roundw
                case rel => exact ⟨q + 1, by omega, congrArg (Value.int .i64) (by have := HCT2.out; omega), by go_num, Lib.hid HZ.out.1, Lib.hid HZ.out.2.1, Lib.hid HZ.out.2.2⟩
                case measure => simp [intOf]; omega
              · have hql2 : ¬ (q : Int) < (G.length : Int) := by omega
                have hgt : G.take q = G := List.take_of_length_le (by omega)
                rw [hgt]
                have hfin : I + countF G = to := by have := HSUM.out; omega
                rw [hfin]
                clear hgt hql hq hfin hsum2 HSUM hcg hp0 hp1
                go_wp2_with (go_at_call 12; refine (alive3_any _).mono ?_; rintro e z3 ⟨rfl, hb7⟩)
                go_ret
                exact ⟨rfl, bl_step HB9.out hb7⟩
end Go.Proofs.Ytmaefeckkodllaa
