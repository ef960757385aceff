/-
  PlainOrder walked. A law's row follows from its walk: the call returns true, and below the heap's old size the world is as it was; then every argument reads as it did. How lists of rows of bytes that a statement draws read.
-/
import Derived.Test.YtjobgnemklpiaaaJPlainOrder27
import Derived.StillTailTactics
import Derived.Test.YtjobgnemklpiaaaRows
import Derived.WalkKit
import Derived.ProofKit
import Derived.OpenShut
namespace Go.Proofs.Ytjobgnemklpiaaa
open Go.RowKit

theorem POrd.below {W wr : World} {B x q k : Nat} {kv : Value} (h : POrd W B x q k kv wr) : Below W.heap.size W wr := by
  obtain ⟨last, ts, rows, _, _, _, _, _, _, _, _, _, _, h, _⟩ := h
  exact h
theorem POrd2.facts {W w : World} {B x q n : Nat} {rows : List RowB} {kv : Value} (h : POrd2 W B x q n rows kv w) : Below W.heap.size W w ∧ (∀ r ∈ rows, r.ok W ∧ 0 < r.bs.length ∧ r.bs.length ≤ 1000) ∧ n ≤ rows.length := by
  obtain ⟨last, ts, _, _, _, _, _, h6, h7, _, h9, _⟩ := h
  exact ⟨h9, h6, h7⟩
theorem POrd2.kept {W w : World} {B x q n m K c : Nat} {rows : List RowB} {A : Option Addr} {r : RowB} (h : POrd2 W B x q n rows (.slice A K c) w) (hr : rows[m]? = some r) : ∃ ad, A = some ad ∧ w.cell? (ad.add m) = some (.slice r.A r.bs.length r.cap) := by
  obtain ⟨last, ts, _, _, _, _, h5, _⟩ := h
  have hm : m < rows.length := (List.getElem?_eq_some_iff.1 hr).1
  rcases h5.2 with ⟨e, h0⟩ | ⟨g, cap, cur, e, _⟩
  · omega
  · injection e with e1 e2 e3
    subst e1
    refine ⟨_, rfl, ?_⟩
    exact h5.cells (g := g) rfl m _ (by rw [List.getElem?_map, hr]; rfl)
theorem src_cell {W w : World} {A : Option Addr} {xs : List Value} {j : Nat} {u : Value} (h : Src W A xs) (hb : Below W.heap.size W w) (hj : xs[j]? = some u) : ∃ ad, A = some ad ∧ w.cell? (ad.add j) = some u := by
  obtain ⟨ad, rfl, hc⟩ := h (by have := (List.getElem?_eq_some_iff.1 hj).1; omega)
  exact ⟨ad, rfl, cell_below hb (hc j u hj)⟩
set_option maxRecDepth 100000 in
set_option maxHeartbeats 12800000 in
theorem porder_all {A0 A1 A2 : Option Addr} {L0 : List RowB} {l1 l2 : List Nat} (N0 N1 N2 c0 c1 c2 : Nat) (W : World) (hN0 : L0.length = N0) (hN1 : l1.length = N1) (hN2 : l2.length = N2) (hn0 : N0 ≤ 9223372036854775807) (hn1 : N1 ≤ 9223372036854775807) (hn2 : N2 ≤ 9223372036854775807)
    (hs0 : RSrc W A0 L0) (hs1 : Src W A1 (bts l1)) (hs2 : Src W A2 (u16v l2)) (hb1 : ∀ b ∈ l1, b < 256) (hb2 : ∀ b ∈ l2, b < 65536) :
    Calls Try.prog 13 #[.slice A0 N0 c0, .slice A1 N1 c1, .slice A2 N2 c2] W fun e w' => e = .returned (.bool true) ∧ Below W.heap.size W w' := by
  have HAL := Lib.hid (fun V => ealive_any V)
  have HU0 := Lib.hid us0_any
  have HN0 := Lib.hid us0_new
  generalize us0.a = u0 at *
  have HL0 := Lib.hid hN0
  have HL1 := Lib.hid hN1
  have HL2 := Lib.hid hN2
  have HS0 := Lib.hid hs0
  have HS1 := Lib.hid hs1
  have HS2 := Lib.hid hs2
  have HB2 := Lib.hid hb2
  clear hN0 hN1 hN2 hs0 hs1 hs2 hb2
  go_enter Try.func13, Try.ntmps13
  go_wp2_with (first
    | (go_at_call 76; (with_reducible refine (HU0.out _).mono ?_); rintro e w1 ⟨rfl, hbl1⟩; (have HB1 := Lib.hid hbl1; clear hbl1))
    | (go_at_call 65; (with_reducible refine (HN0.out _).mono ?_); rintro e w2 ⟨x, q, rfl, he2, hq2, hbl2, hx2⟩; (have HP0 := Lib.hid (show POrd W w1.heap.size x q 0 (.slice none 0 0) w2 from ⟨0, [], [], hq2, by omega, by simp [bytesF], by simp, by simp, rfl, World.ownsRow_nil _ _ _ _, by simp, by simp, he2, bl_step HB1.out hbl2, HB1.out.size⟩); clear he2 hq2 hbl2 hx2)))
  generalize w1.heap.size = B at *
  go_loopw [9, 10] (fun kv i wr => ∃ k : Nat, k ≤ 40 ∧ k ≤ N0 ∧ i = .int .i64 k ∧ Hid (POrd W B x q k kv wr)) (fun _ i _ => 40 - (intOf i).toNat)
  case atStart => exact ⟨0, by omega, by omega, rfl, HP0⟩
  case round =>
    obtain ⟨k, hk40, hk, rfl, HP⟩ := hrel
    obtain ⟨A, n, c, rfl, hnk⟩ := HP.out.form
    have hend : k < N0 ∧ k < 40 ∨ (k = N0 ∨ (k < N0 ∧ k = 40)) := by omega
    rcases hend with ⟨hlt, hlt40⟩ | hend
    · obtain ⟨r, hr⟩ : ∃ r, L0[k]? = some r := ⟨_, List.getElem?_eq_getElem (by rw [HL0.out]; exact hlt)⟩
      obtain ⟨a0, rfl, hc⟩ := HS0.out (by rw [HL0.out]; omega)
      have HROK := Lib.hid (hc k r hr).2
      have y1 := cell_below HP.out.below (hc k r hr).1
      have HC0 := Lib.hid (hc k r hr).1
      have hlen := (hc k r hr).2.2.1
      have hcap := (hc k r hr).2.2.2.1
      unfold RowB.v at y1
      have hi0 : (0 : Int) ≤ (k : Int) := by omega
      have hi1 : (k : Int) < (N0 : Int) := by omega
      have hi2 : (k : Int) < 40 := by omega
      clear hc hr
      by_cases hl : 1100 < r.bs.length
      · have g1 : decide ((1100 : Int) < (r.bs.length : Int)) = true := decide_eq_true (by omega)
        go_wp2_with (go_at_call 73; (with_reducible refine (HAL.out _).mono ?_); rintro e w4 ⟨rfl, hbl4⟩; (have HB4 := Lib.hid hbl4; clear hbl4))
        go_ret
        exact ⟨rfl, bl_step HP.out.below HB4.out⟩
      · have g1 : decide ((1100 : Int) < (r.bs.length : Int)) = false := decide_eq_false (by omega)
        have HPU := Lib.hid (ppush_any HP.out (by omega) HROK.out)
        go_wp2_with fail
        refine HPU.out.mono ?_
        rintro e w3 (⟨er, rfl, her, hP⟩ | ⟨nid, rfl, hD, A', n', c', ekv, hn', A9, c9, w9, hrun, hP9, hb3⟩)
        · have HP3 := Lib.hid hP
          have g2 : (er != 0) = true := by simpa using her
          clear hP her
          go_wp2
          go_roundw
          case rel => exact ⟨k + 1, by omega, by omega, by go_num, HP3⟩
          case measure => simp [intOf]; omega
        · injection ekv with e1 e2 e3
          subst e1 e2 e3
          have HD := Lib.hid hD
          have HP9 := Lib.hid hP9
          have HB3 := Lib.hid hb3
          have y2 := fun (j b : Nat) (h : l1[j]? = some b) => src_cell HS1.out hb3 (bts_at h)
          have y3 := cell_below hb3 HC0.out
          unfold RowB.v at y3
          clear hD hP9 hb3
          by_cases hk1 : k < N1
          · obtain ⟨b, hb⟩ : ∃ b, l1[k]? = some b := ⟨_, List.getElem?_eq_getElem (by rw [HL1.out]; exact hk1)⟩
            obtain ⟨a1, rfl, z1⟩ := y2 k b hb
            have hk1i : (k : Int) < (N1 : Int) := by omega
            clear y2 hb
            rcases hbit : (bits BinOp.and IntKind.u8 (b : Int) 3 == 3) with _ | _
            · go_wp2_with (at_builtin; refine wpList_run rfl (.tmp 76) (.tmp 81) 57 rfl (.slice A n c) (.slice (some ⟨w3.heap.size, 0, none⟩) 1 1) (by rfl) (by rfl) hrun ?_)
              go_roundw
              case rel => exact ⟨k + 1, by omega, by omega, by go_num, HP9⟩
              case measure => simp [intOf]; omega
            · go_wp2_with fail
              refine HD.out.mono ?_
              rintro e w4 ⟨rfl, hP4⟩
              have HP4 := Lib.hid hP4
              clear hP4
              go_wp2
              go_roundw
              case rel => exact ⟨k + 1, by omega, by omega, by go_num, HP4⟩
              case measure => simp [intOf]; omega
          · have hk1d : decide ((k : Int) < (N1 : Int)) = false := decide_eq_false (by omega)
            clear y2
            go_wp2_with (at_builtin; refine wpList_run rfl (.tmp 76) (.tmp 81) 57 rfl (.slice A n c) (.slice (some ⟨w3.heap.size, 0, none⟩) 1 1) (by rfl) (by rfl) hrun ?_)
            go_roundw
            case rel => exact ⟨k + 1, by omega, by omega, by go_num, HP9⟩
            case measure => simp [intOf]; omega
    · rcases hend with hend | ⟨hend, hend2⟩
      · subst hend
        obtain ⟨rows, A9, c9, e9, hK, hP2⟩ := HP.out.second
        injection e9 with e91 e92 e93
        subst e91 e92 e93
        have HP2 := Lib.hid hP2
        have HROWS := Lib.hid hP2.facts.2.1
        generalize hKK : rows.length = K at *
        have HKK := Lib.hid hKK
        clear hP2 hKK
        obtain ⟨s, hs, hs9⟩ : ∃ s : Int, IntKind.i64.wrap ((N2 : Int) + (K : Int)) = s ∧ (N2 ≤ 1000 → s = (N2 : Int) + (K : Int)) := ⟨_, rfl, fun h => IntWalk.i64_in _ (by omega)⟩
        go_wp2
        go_loopw [13, 14] (fun nv iv wt => ∃ n j : Nat, nv = .int .i64 n ∧ iv = .int .i64 j ∧ n ≤ K ∧ j ≤ 200 ∧ Hid (POrd2 W B x q n rows (.slice A K c) wt) ∧ (N2 ≤ 150 → j ≤ N2 + K ∧ (j ≤ N2 + n ∨ n = K))) (fun _ iv _ => 200 - (intOf iv).toNat)
        case atStart => exact ⟨0, 0, rfl, rfl, by omega, by omega, HP2, fun _ => by omega⟩
        case round =>
          obtain ⟨n, j, rfl, rfl, hn, hj, HQ, hpr⟩ := hrel
          by_cases hc1 : (j : Int) < s
          · by_cases hc2 : (j : Int) < 200
            · have g0 : (0 : Int) ≤ (j : Int) := by omega
              -- the grant
              by_cases hj2 : j < N2
              · obtain ⟨v, hv⟩ : ∃ v, l2[j]? = some v := ⟨_, List.getElem?_eq_getElem (by rw [HL2.out]; exact hj2)⟩
                obtain ⟨a2, rfl, z2⟩ := src_cell HS2.out HQ.out.facts.1 (u16v_at hv)
                have hv9 := HB2.out v (List.mem_of_getElem? hv)
                have hj2i : (j : Int) < (N2 : Int) := by omega
                have hmod : Int.tmod (v : Int) 4097 = ((v % 4097 : Nat) : Int) := by
                  rw [Int.ofNat_tmod]
                  rfl
                have HBU := Lib.hid (pbuild_any (g := v % 4097) HQ.out (by omega))
                have hgr := Nat.mod_lt v (show 0 < 4097 by omega)
                generalize v % 4097 = g at *
                clear hv
                go_wp2_with fail
                refine HBU.out.mono ?_
                rintro e w5 (⟨er, rfl, her, hP5, hor⟩ | ⟨r5, g5, nid5, hr5, rfl, hby5, hle5, hP5⟩)
                · have HP5 := Lib.hid hP5
                  have g2 : (er != 0) = true := by simpa using her
                  have HPR := Lib.hid (show N2 ≤ 150 → j + 1 ≤ N2 + K ∧ (j + 1 ≤ N2 + n ∨ n = K) from by
                    exact fun h => by have := hs9 (by omega); have := hpr h; omega)
                  clear hP5 her hor hpr hs9
                  go_wp2
                  go_roundw
                  case rel => exact ⟨n, j + 1, rfl, by go_num, hn, by omega, HP5, HPR.out⟩
                  case measure => simp [intOf]; omega
                · obtain ⟨k1, k2, k3⟩ := HROWS.out r5 (List.mem_of_getElem? hr5)
                  have hn5 : n < K := by rw [← HKK.out]; exact (List.getElem?_eq_some_iff.1 hr5).1
                  have HH := Lib.hid (hP5.hear r5.bs.length r5.bs.length rfl k2 k3 (qb_src hby5) k1.2.2.2)
                  have HP5 := Lib.hid hP5
                  have HY5 := Lib.hid hby5
                  have HPR := Lib.hid (show N2 ≤ 150 → j + 1 ≤ N2 + K ∧ (j + 1 ≤ N2 + (n + 1) ∨ n + 1 = K) from fun h => by have := hs9 (by omega); have := hpr h; omega)
                  clear hP5 hby5 hpr hs9
                  go_wp2_with fail
                  refine HH.out.mono ?_
                  rintro e w6 ⟨g6, rfl, hby6, hb6⟩
                  have HP6 := Lib.hid ((HP5.out.later hb6).later (bl_drew (Below.refl _ _)))
                  obtain ⟨ak, rfl, y1⟩ := HP6.out.kept hr5
                  have cv5 := qb_conv (w := w6.drew) r5.bs.length r5.bs.length rfl (HY5.out.later (bl_drew hb6)) k1.2.2.2
                  have cv6 := qb_conv (w := w6.drew) r5.bs.length r5.bs.length rfl hby6 k1.2.2.2
                  have cv7 := conv_src (w := w6.drew) r5.bs.length r5.cap rfl (src_later k1.1 HP6.out.facts.1) k1.2.2.2
                  have d1 : decide ((K : Int) ≤ (n : Int)) = false := decide_eq_false (by omega)
                  have d2 : decide ((g : Int) < (r5.bs.length : Int)) = false := decide_eq_false (by omega)
                  have hn0i : (0 : Int) ≤ (n : Int) := by omega
                  have hn1i : (n : Int) < (K : Int) := by omega
                  clear hby6 hb6 k1 hr5
                  generalize r5.bs.length = bl at *
                  generalize strOf r5.bs = st at *
                  go_wp2_with fail
                  refine wp_region_still_lit (by kernel_rfl) (by kernel_rfl) ?_
                  change wpStill _ _ w6.drew (fun b => _) _ _
                  generalize w6.drew = w9 at y1 cv5 cv6 cv7 ⊢
                  repeat still_step
                  refine wpStill_nil ?_
                  go_wp2_with fail
                  go_roundw
                  case rel => exact ⟨n + 1, j + 1, by go_num, by go_num, by omega, by omega, HP6, HPR.out⟩
                  case measure => simp [intOf]; omega
              · have hj2d : decide ((j : Int) < (N2 : Int)) = false := decide_eq_false (by omega)
                have HBU := Lib.hid (pbuild_any (g := 4096) HQ.out (by omega))
                go_wp2_with fail
                refine HBU.out.mono ?_
                rintro e w5 (⟨er, rfl, her, hP5, hor⟩ | ⟨r5, g5, nid5, hr5, rfl, hby5, hle5, hP5⟩)
                · have HP5 := Lib.hid hP5
                  have g2 : (er != 0) = true := by simpa using her
                  have HPR := Lib.hid (show N2 ≤ 150 → j + 1 ≤ N2 + K ∧ (j + 1 ≤ N2 + n ∨ n = K) from by
                    intro h
                    have h1 := hs9 (by omega)
                    have h2 := hpr h
                    rcases hor with h3 | ⟨r, h3, h4⟩
                    · rw [HKK.out] at h3
                      omega
                    · have := (HROWS.out r (List.mem_of_getElem? h3)).2.2
                      omega)
                  clear hP5 her hor hpr hs9
                  go_wp2
                  go_roundw
                  case rel => exact ⟨n, j + 1, rfl, by go_num, hn, by omega, HP5, HPR.out⟩
                  case measure => simp [intOf]; omega
                · obtain ⟨k1, k2, k3⟩ := HROWS.out r5 (List.mem_of_getElem? hr5)
                  have hn5 : n < K := by rw [← HKK.out]; exact (List.getElem?_eq_some_iff.1 hr5).1
                  have HH := Lib.hid (hP5.hear r5.bs.length r5.bs.length rfl k2 k3 (qb_src hby5) k1.2.2.2)
                  have HP5 := Lib.hid hP5
                  have HY5 := Lib.hid hby5
                  have HPR := Lib.hid (show N2 ≤ 150 → j + 1 ≤ N2 + K ∧ (j + 1 ≤ N2 + (n + 1) ∨ n + 1 = K) from fun h => by have := hs9 (by omega); have := hpr h; omega)
                  clear hP5 hby5 hpr hs9
                  go_wp2_with fail
                  refine HH.out.mono ?_
                  rintro e w6 ⟨g6, rfl, hby6, hb6⟩
                  have HP6 := Lib.hid ((HP5.out.later hb6).later (bl_drew (Below.refl _ _)))
                  obtain ⟨ak, rfl, y1⟩ := HP6.out.kept hr5
                  have cv5 := qb_conv (w := w6.drew) r5.bs.length r5.bs.length rfl (HY5.out.later (bl_drew hb6)) k1.2.2.2
                  have cv6 := qb_conv (w := w6.drew) r5.bs.length r5.bs.length rfl hby6 k1.2.2.2
                  have cv7 := conv_src (w := w6.drew) r5.bs.length r5.cap rfl (src_later k1.1 HP6.out.facts.1) k1.2.2.2
                  have d1 : decide ((K : Int) ≤ (n : Int)) = false := decide_eq_false (by omega)
                  have d2 : decide ((4096 : Int) < (r5.bs.length : Int)) = false := decide_eq_false (by omega)
                  have hn0i : (0 : Int) ≤ (n : Int) := by omega
                  have hn1i : (n : Int) < (K : Int) := by omega
                  clear hby6 hb6 k1 hr5
                  generalize r5.bs.length = bl at *
                  generalize strOf r5.bs = st at *
                  go_wp2_with fail
                  refine wp_region_still_lit (by kernel_rfl) (by kernel_rfl) ?_
                  change wpStill _ _ w6.drew (fun b => _) _ _
                  generalize w6.drew = w9 at y1 cv5 cv6 cv7 ⊢
                  repeat still_step
                  refine wpStill_nil ?_
                  go_wp2_with fail
                  go_roundw
                  case rel => exact ⟨n + 1, j + 1, by go_num, by go_num, by omega, by omega, HP6, HPR.out⟩
                  case measure => simp [intOf]; omega
            · have hc2d : decide ((j : Int) < 200) = false := decide_eq_false (by omega)
              have hc2e : (j : Int) = 200 := by omega
              obtain rfl : j = 200 := by omega
              by_cases h150 : 150 < N2
              · have d1 : decide ((150 : Int) < (N2 : Int)) = true := decide_eq_true (by omega)
                clear hpr hs9
                go_wp2_with (go_at_call 73; (with_reducible refine (HAL.out _).mono ?_); rintro e w4 ⟨rfl, hbl4⟩; (have HB4 := Lib.hid hbl4; clear hbl4))
                go_ret
                exact ⟨rfl, bl_step HQ.out.facts.1 HB4.out⟩
              · have d1 : decide ((150 : Int) < (N2 : Int)) = false := decide_eq_false (by omega)
                have hnK : n = K := by
                  have := hpr (by omega)
                  have := hs9 (by omega)
                  omega
                subst hnK
                have HEM := Lib.hid (fun V (hb : Below wr.heap.size wr V) => (HQ.out.later hb).empty)
                have HK0 := Lib.hid HKK.out
                clear hpr hs9
                go_wp2_with (first
                  | (go_at_call 73; (with_reducible refine (HAL.out _).mono ?_); rintro e w4 ⟨rfl, hbl4⟩; (have HB4 := Lib.hid hbl4; clear hbl4))
                  | (go_at_call 71; (with_reducible refine (HEM.out _ HB4.out).mono ?_); rintro e w7 ⟨⟨b, rfl, hb0⟩, hbl7⟩; obtain rfl := hb0 HK0.out.symm; (have HB7 := Lib.hid hbl7; clear hbl7 hb0)))
                go_ret
                exact ⟨rfl, bl_step (bl_step HQ.out.facts.1 HB4.out) HB7.out⟩
          · have hc1d : decide ((j : Int) < s) = false := decide_eq_false hc1
            by_cases h150 : 150 < N2
            · have d1 : decide ((150 : Int) < (N2 : Int)) = true := decide_eq_true (by omega)
              clear hpr hs9
              go_wp2_with (go_at_call 73; (with_reducible refine (HAL.out _).mono ?_); rintro e w4 ⟨rfl, hbl4⟩; (have HB4 := Lib.hid hbl4; clear hbl4))
              go_ret
              exact ⟨rfl, bl_step HQ.out.facts.1 HB4.out⟩
            · have d1 : decide ((150 : Int) < (N2 : Int)) = false := decide_eq_false (by omega)
              have hnK : n = K := by
                have := hpr (by omega)
                have := hs9 (by omega)
                omega
              subst hnK
              have HEM := Lib.hid (fun V (hb : Below wr.heap.size wr V) => (HQ.out.later hb).empty)
              have HK0 := Lib.hid HKK.out
              clear hpr hs9
              go_wp2_with (first
                | (go_at_call 73; (with_reducible refine (HAL.out _).mono ?_); rintro e w4 ⟨rfl, hbl4⟩; (have HB4 := Lib.hid hbl4; clear hbl4))
                | (go_at_call 71; (with_reducible refine (HEM.out _ HB4.out).mono ?_); rintro e w7 ⟨⟨b, rfl, hb0⟩, hbl7⟩; obtain rfl := hb0 HK0.out.symm; (have HB7 := Lib.hid hbl7; clear hbl7 hb0)))
              go_ret
              exact ⟨rfl, bl_step (bl_step HQ.out.facts.1 HB4.out) HB7.out⟩
      · have hx : (k : Int) < (N0 : Int) := by omega
        have hx2 : decide ((k : Int) < 40) = false := decide_eq_false (by omega)
        clear hend hend2
        obtain ⟨rows, A9, c9, e9, hK, hP2⟩ := HP.out.second
        injection e9 with e91 e92 e93
        subst e91 e92 e93
        have HP2 := Lib.hid hP2
        have HROWS := Lib.hid hP2.facts.2.1
        generalize hKK : rows.length = K at *
        have HKK := Lib.hid hKK
        clear hP2 hKK
        obtain ⟨s, hs, hs9⟩ : ∃ s : Int, IntKind.i64.wrap ((N2 : Int) + (K : Int)) = s ∧ (N2 ≤ 1000 → s = (N2 : Int) + (K : Int)) := ⟨_, rfl, fun h => IntWalk.i64_in _ (by omega)⟩
        go_wp2
        go_loopw [13, 14] (fun nv iv wt => ∃ n j : Nat, nv = .int .i64 n ∧ iv = .int .i64 j ∧ n ≤ K ∧ j ≤ 200 ∧ Hid (POrd2 W B x q n rows (.slice A K c) wt) ∧ (N2 ≤ 150 → j ≤ N2 + K ∧ (j ≤ N2 + n ∨ n = K))) (fun _ iv _ => 200 - (intOf iv).toNat)
        case atStart => exact ⟨0, 0, rfl, rfl, by omega, by omega, HP2, fun _ => by omega⟩
        case round =>
          obtain ⟨n, j, rfl, rfl, hn, hj, HQ, hpr⟩ := hrel
          by_cases hc1 : (j : Int) < s
          · by_cases hc2 : (j : Int) < 200
            · have g0 : (0 : Int) ≤ (j : Int) := by omega
              -- the grant
              by_cases hj2 : j < N2
              · obtain ⟨v, hv⟩ : ∃ v, l2[j]? = some v := ⟨_, List.getElem?_eq_getElem (by rw [HL2.out]; exact hj2)⟩
                obtain ⟨a2, rfl, z2⟩ := src_cell HS2.out HQ.out.facts.1 (u16v_at hv)
                have hv9 := HB2.out v (List.mem_of_getElem? hv)
                have hj2i : (j : Int) < (N2 : Int) := by omega
                have hmod : Int.tmod (v : Int) 4097 = ((v % 4097 : Nat) : Int) := by
                  rw [Int.ofNat_tmod]
                  rfl
                have HBU := Lib.hid (pbuild_any (g := v % 4097) HQ.out (by omega))
                have hgr := Nat.mod_lt v (show 0 < 4097 by omega)
                generalize v % 4097 = g at *
                clear hv
                go_wp2_with fail
                refine HBU.out.mono ?_
                rintro e w5 (⟨er, rfl, her, hP5, hor⟩ | ⟨r5, g5, nid5, hr5, rfl, hby5, hle5, hP5⟩)
                · have HP5 := Lib.hid hP5
                  have g2 : (er != 0) = true := by simpa using her
                  have HPR := Lib.hid (show N2 ≤ 150 → j + 1 ≤ N2 + K ∧ (j + 1 ≤ N2 + n ∨ n = K) from by
                    exact fun h => by have := hs9 (by omega); have := hpr h; omega)
                  clear hP5 her hor hpr hs9
                  go_wp2
                  go_roundw
                  case rel => exact ⟨n, j + 1, rfl, by go_num, hn, by omega, HP5, HPR.out⟩
                  case measure => simp [intOf]; omega
                · obtain ⟨k1, k2, k3⟩ := HROWS.out r5 (List.mem_of_getElem? hr5)
                  have hn5 : n < K := by rw [← HKK.out]; exact (List.getElem?_eq_some_iff.1 hr5).1
                  have HH := Lib.hid (hP5.hear r5.bs.length r5.bs.length rfl k2 k3 (qb_src hby5) k1.2.2.2)
                  have HP5 := Lib.hid hP5
                  have HY5 := Lib.hid hby5
                  have HPR := Lib.hid (show N2 ≤ 150 → j + 1 ≤ N2 + K ∧ (j + 1 ≤ N2 + (n + 1) ∨ n + 1 = K) from fun h => by have := hs9 (by omega); have := hpr h; omega)
                  clear hP5 hby5 hpr hs9
                  go_wp2_with fail
                  refine HH.out.mono ?_
                  rintro e w6 ⟨g6, rfl, hby6, hb6⟩
                  have HP6 := Lib.hid ((HP5.out.later hb6).later (bl_drew (Below.refl _ _)))
                  obtain ⟨ak, rfl, y1⟩ := HP6.out.kept hr5
                  have cv5 := qb_conv (w := w6.drew) r5.bs.length r5.bs.length rfl (HY5.out.later (bl_drew hb6)) k1.2.2.2
                  have cv6 := qb_conv (w := w6.drew) r5.bs.length r5.bs.length rfl hby6 k1.2.2.2
                  have cv7 := conv_src (w := w6.drew) r5.bs.length r5.cap rfl (src_later k1.1 HP6.out.facts.1) k1.2.2.2
                  have d1 : decide ((K : Int) ≤ (n : Int)) = false := decide_eq_false (by omega)
                  have d2 : decide ((g : Int) < (r5.bs.length : Int)) = false := decide_eq_false (by omega)
                  have hn0i : (0 : Int) ≤ (n : Int) := by omega
                  have hn1i : (n : Int) < (K : Int) := by omega
                  clear hby6 hb6 k1 hr5
                  generalize r5.bs.length = bl at *
                  generalize strOf r5.bs = st at *
                  go_wp2_with fail
                  refine wp_region_still_lit (by kernel_rfl) (by kernel_rfl) ?_
                  change wpStill _ _ w6.drew (fun b => _) _ _
                  generalize w6.drew = w9 at y1 cv5 cv6 cv7 ⊢
                  repeat still_step
                  refine wpStill_nil ?_
                  go_wp2_with fail
                  go_roundw
                  case rel => exact ⟨n + 1, j + 1, by go_num, by go_num, by omega, by omega, HP6, HPR.out⟩
                  case measure => simp [intOf]; omega
              · have hj2d : decide ((j : Int) < (N2 : Int)) = false := decide_eq_false (by omega)
                have HBU := Lib.hid (pbuild_any (g := 4096) HQ.out (by omega))
                go_wp2_with fail
                refine HBU.out.mono ?_
                rintro e w5 (⟨er, rfl, her, hP5, hor⟩ | ⟨r5, g5, nid5, hr5, rfl, hby5, hle5, hP5⟩)
                · have HP5 := Lib.hid hP5
                  have g2 : (er != 0) = true := by simpa using her
                  have HPR := Lib.hid (show N2 ≤ 150 → j + 1 ≤ N2 + K ∧ (j + 1 ≤ N2 + n ∨ n = K) from by
                    intro h
                    have h1 := hs9 (by omega)
                    have h2 := hpr h
                    rcases hor with h3 | ⟨r, h3, h4⟩
                    · rw [HKK.out] at h3
                      omega
                    · have := (HROWS.out r (List.mem_of_getElem? h3)).2.2
                      omega)
                  clear hP5 her hor hpr hs9
                  go_wp2
                  go_roundw
                  case rel => exact ⟨n, j + 1, rfl, by go_num, hn, by omega, HP5, HPR.out⟩
                  case measure => simp [intOf]; omega
                · obtain ⟨k1, k2, k3⟩ := HROWS.out r5 (List.mem_of_getElem? hr5)
                  have hn5 : n < K := by rw [← HKK.out]; exact (List.getElem?_eq_some_iff.1 hr5).1
                  have HH := Lib.hid (hP5.hear r5.bs.length r5.bs.length rfl k2 k3 (qb_src hby5) k1.2.2.2)
                  have HP5 := Lib.hid hP5
                  have HY5 := Lib.hid hby5
                  have HPR := Lib.hid (show N2 ≤ 150 → j + 1 ≤ N2 + K ∧ (j + 1 ≤ N2 + (n + 1) ∨ n + 1 = K) from fun h => by have := hs9 (by omega); have := hpr h; omega)
                  clear hP5 hby5 hpr hs9
                  go_wp2_with fail
                  refine HH.out.mono ?_
                  rintro e w6 ⟨g6, rfl, hby6, hb6⟩
                  have HP6 := Lib.hid ((HP5.out.later hb6).later (bl_drew (Below.refl _ _)))
                  obtain ⟨ak, rfl, y1⟩ := HP6.out.kept hr5
                  have cv5 := qb_conv (w := w6.drew) r5.bs.length r5.bs.length rfl (HY5.out.later (bl_drew hb6)) k1.2.2.2
                  have cv6 := qb_conv (w := w6.drew) r5.bs.length r5.bs.length rfl hby6 k1.2.2.2
                  have cv7 := conv_src (w := w6.drew) r5.bs.length r5.cap rfl (src_later k1.1 HP6.out.facts.1) k1.2.2.2
                  have d1 : decide ((K : Int) ≤ (n : Int)) = false := decide_eq_false (by omega)
                  have d2 : decide ((4096 : Int) < (r5.bs.length : Int)) = false := decide_eq_false (by omega)
                  have hn0i : (0 : Int) ≤ (n : Int) := by omega
                  have hn1i : (n : Int) < (K : Int) := by omega
                  clear hby6 hb6 k1 hr5
                  generalize r5.bs.length = bl at *
                  generalize strOf r5.bs = st at *
                  go_wp2_with fail
                  refine wp_region_still_lit (by kernel_rfl) (by kernel_rfl) ?_
                  change wpStill _ _ w6.drew (fun b => _) _ _
                  generalize w6.drew = w9 at y1 cv5 cv6 cv7 ⊢
                  repeat still_step
                  refine wpStill_nil ?_
                  go_wp2_with fail
                  go_roundw
                  case rel => exact ⟨n + 1, j + 1, by go_num, by go_num, by omega, by omega, HP6, HPR.out⟩
                  case measure => simp [intOf]; omega
            · have hc2d : decide ((j : Int) < 200) = false := decide_eq_false (by omega)
              have hc2e : (j : Int) = 200 := by omega
              obtain rfl : j = 200 := by omega
              by_cases h150 : 150 < N2
              · have d1 : decide ((150 : Int) < (N2 : Int)) = true := decide_eq_true (by omega)
                clear hpr hs9
                go_wp2_with (go_at_call 73; (with_reducible refine (HAL.out _).mono ?_); rintro e w4 ⟨rfl, hbl4⟩; (have HB4 := Lib.hid hbl4; clear hbl4))
                go_ret
                exact ⟨rfl, bl_step HQ.out.facts.1 HB4.out⟩
              · have d1 : decide ((150 : Int) < (N2 : Int)) = false := decide_eq_false (by omega)
                have hnK : n = K := by
                  have := hpr (by omega)
                  have := hs9 (by omega)
                  omega
                subst hnK
                have HEM := Lib.hid (fun V (hb : Below wr.heap.size wr V) => (HQ.out.later hb).empty)
                have HK0 := Lib.hid HKK.out
                clear hpr hs9
                go_wp2_with (first
                  | (go_at_call 73; (with_reducible refine (HAL.out _).mono ?_); rintro e w4 ⟨rfl, hbl4⟩; (have HB4 := Lib.hid hbl4; clear hbl4))
                  | (go_at_call 71; (with_reducible refine (HEM.out _ HB4.out).mono ?_); rintro e w7 ⟨⟨b, rfl, hb0⟩, hbl7⟩; obtain rfl := hb0 HK0.out.symm; (have HB7 := Lib.hid hbl7; clear hbl7 hb0)))
                go_ret
                exact ⟨rfl, bl_step (bl_step HQ.out.facts.1 HB4.out) HB7.out⟩
          · have hc1d : decide ((j : Int) < s) = false := decide_eq_false hc1
            by_cases h150 : 150 < N2
            · have d1 : decide ((150 : Int) < (N2 : Int)) = true := decide_eq_true (by omega)
              clear hpr hs9
              go_wp2_with (go_at_call 73; (with_reducible refine (HAL.out _).mono ?_); rintro e w4 ⟨rfl, hbl4⟩; (have HB4 := Lib.hid hbl4; clear hbl4))
              go_ret
              exact ⟨rfl, bl_step HQ.out.facts.1 HB4.out⟩
            · have d1 : decide ((150 : Int) < (N2 : Int)) = false := decide_eq_false (by omega)
              have hnK : n = K := by
                have := hpr (by omega)
                have := hs9 (by omega)
                omega
              subst hnK
              have HEM := Lib.hid (fun V (hb : Below wr.heap.size wr V) => (HQ.out.later hb).empty)
              have HK0 := Lib.hid HKK.out
              clear hpr hs9
              go_wp2_with (first
                | (go_at_call 73; (with_reducible refine (HAL.out _).mono ?_); rintro e w4 ⟨rfl, hbl4⟩; (have HB4 := Lib.hid hbl4; clear hbl4))
                | (go_at_call 71; (with_reducible refine (HEM.out _ HB4.out).mono ?_); rintro e w7 ⟨⟨b, rfl, hb0⟩, hbl7⟩; obtain rfl := hb0 HK0.out.symm; (have HB7 := Lib.hid hbl7; clear hbl7 hb0)))
              go_ret
              exact ⟨rfl, bl_step (bl_step HQ.out.facts.1 HB4.out) HB7.out⟩
end Go.Proofs.Ytjobgnemklpiaaa
namespace Go.Proofs.Ytjobgnemklpiaaa
open Go.ChangeShapes Go.WideShapes Go.ChangeAt Go.RowKit

theorem lawOwn : ownKnob Try.prog.godebug = none := by kernel_rfl
theorem lawLaid : laidOutB Try.prog = true := by kernel_rfl

section
variable {H : Type} {enc : TypeId × Value → H} {P : Program}
/-- what was read in the old world is read in the new one -/
theorem args_stay (hl : laidOutB P = true) {W W' : World} (hb : Below W.heap.size W W') : ∀ (ts : List TypeId) (vs : List Value) (ds : List (DataW H)) (ps : List MemPlace),
    (∀ t ∈ ts, P.readableRec t = true ∧ t < P.types.size) → DataW.TrodAll enc P W 0 (fun _ => true) true ts vs ds ps → (∀ x ∈ ps, x.block < W.heap.size) →
    DataW.TrodAll enc P W' 0 (fun b => decide (b < W.heap.size)) true ts vs ds ps := by
  intro ts
  induction ts with
  | nil =>
    intro vs ds ps _ h _
    obtain ⟨rfl, rfl, rfl⟩ := trodAll_nil h
    exact trodAll_mk0
  | cons t ts ih =>
    intro vs ds ps hr h hlt
    obtain ⟨v, vs', d, ds', p, q, rfl, rfl, rfl, h1, h2⟩ := trodAll_cons h
    have ht := hr t (List.mem_cons_self ..)
    exact trodAll_cons_mk (Below.trod hl ht.1 ht.2 h1 hb fun x hx => hlt x (List.mem_append_left _ hx))
      (ih vs' ds' q (fun u hu => hr u (List.mem_cons_of_mem _ hu)) h2 fun x hx => hlt x (List.mem_append_right _ hx))

theorem law_post {f : Func} {s : ChangeSpec} {W W' : World} {args : Array Value} {ds gs : List (DataW H)} {before : List MemPlace} {B : TypeId}
    (hl : laidOutB P = true) (hr : f.params.toList.all (fun t => P.readableRec t && decide (t < P.types.size)) = true) (hv : s.vars = [])
    (hW : DataW.Whole enc P f.params.toList s.vars false W args.toList ds gs before)
    (hs : s.fn H (ds ++ gs) = { results := [.lit (.bool true)], args := ds }) (ht : f.resultTypes = #[B]) (hB : P.underlying B = some .bool)
    (hb : Below W.heap.size W W') : s.post enc P f false true false false W args (.bool true) W' := by
  have hW' := hW
  obtain ⟨p, q, hA, hV, rfl, _, _⟩ := hW
  rw [hv] at hV
  obtain ⟨rfl, rfl⟩ := trodVars_none hV
  refine ⟨ds, [], p ++ [], [], p, [], hW', ?_, ?_, ?_, hb.frame _, fun h => by cases h⟩
  · rw [hs, ht]
    exact trodAll_mk1 (shut_bool hB true)
  · rw [hs]
    exact args_stay hl hb _ _ _ _ (fun t h => by have := List.all_eq_true.1 hr t h; simpa using this) hA fun x hx => hW'.lt x (List.mem_append_left _ hx)
  · rw [hs, hv]
    exact rfl
end
end Go.Proofs.Ytjobgnemklpiaaa
namespace Go.Proofs.Ytjobgnemklpiaaa
open Go.ChangeShapes Go.WideShapes Go.ChangeAt Go.RowKit Go.Deep

set_option maxRecDepth 100000 in
theorem rows_arg {H : Type} {enc : TypeId × Value → H} {W : World} {base : Nat} {v : Value} {d : DataW H} {p : List MemPlace} (hok : Value.okWide Try.prog W .any base 57 v)
    (h : DataW.Trod enc Try.prog W 0 (fun _ => true) true 57 v d p) : ∃ (A : Option Addr) (cap : Nat) (L : List RowB), v = .slice A L.length cap ∧ L.length ≤ cap ∧ cap ≤ 9223372036854775807 ∧ RSrc W A L ∧ ∀ m ∈ lens L, m ≤ 9223372036854775807 := by
  obtain ⟨a0, len, cap, rfl⟩ := okWide_slice Try.underlying57 hok
  obtain ⟨fuel, hf⟩ := h
  exact rows_cells hf
end Go.Proofs.Ytjobgnemklpiaaa
