/-
  How lists of numbers of 16 bits that a statement draws read. UmtxFits: the walk, width 5. UmtxFits: the walk, width 5.
-/
import Derived.Test.YtgdpjaojlhdhdaaJUmtxFits29
import Derived.Test.YtgdpjaojlhdhdaaJUmtxFits26
import Derived.Deep.DeepCutAuto
import Derived.StillTailTactics
import Derived.Deep.RegionHeld3
namespace Go.Proofs.Ytgdpjaojlhdhdaa
open Go.ChangeShapes Go.WideShapes Go.ChangeAt Go.RowKit Go.Deep

theorem Try.cells52 : Try.prog.cellsOf 52 = 1 := by kernel_rfl
/-- numbers of 16 bits as values -/
def u16v (l : List Nat) : List Value := l.map fun b : Nat => .int .u16 b
theorem length_u16v (l : List Nat) : (u16v l).length = l.length := by simp [u16v]
theorem u16v_at {l : List Nat} {i b : Nat} (h : l[i]? = some b) : (u16v l)[i]? = some (.int .u16 b) := by simp [u16v, h]
theorem nums_src16 {W : World} {a : Addr} {cap len : Nat} {zs : List Int} (hl : len ≤ cap) (hz : zs.length = cap) (hc : ∀ j, j < cap → W.cell? (a.add j) = some (.int .u16 (zs.getD j 0))) (hw : ∀ n ∈ zs, (Lit.int .u16 n).wf = true) :
    ((zs.take len).map Int.toNat).length = len ∧ Src W (some a) (u16v ((zs.take len).map Int.toNat)) ∧ ∀ b ∈ (zs.take len).map Int.toNat, b < 65536 := by
  have hlen : ((zs.take len).map Int.toNat).length = len := by rw [List.length_map, List.length_take]; omega
  refine ⟨hlen, fun h0 => ⟨a, rfl, fun j u hu => ?_⟩, fun b hb => ?_⟩
  · have hj : j < len := by
      have h1 := (List.getElem?_eq_some_iff.1 hu).1
      rw [length_u16v, hlen] at h1
      exact h1
    have h2 := hc j (by omega)
    rw [h2]
    have hjz : j < zs.length := by omega
    have hww := bounds_u16 (hw zs[j] (List.getElem_mem hjz))
    have h3 : ((zs.take len).map Int.toNat)[j]? = some zs[j].toNat := by
      rw [List.getElem?_map, List.getElem?_take, if_pos hj, List.getElem?_eq_getElem hjz]
      rfl
    have h4 := u16v_at h3
    rw [h4] at hu
    injection hu with hu
    rw [← hu, List.getD_eq_getElem?_getD, List.getElem?_eq_getElem hjz]
    simp only [Option.getD_some]
    rw [Int.toNat_of_nonneg hww.1]
  · rw [List.mem_map] at hb
    obtain ⟨z, hz2, rfl⟩ := hb
    have hww := bounds_u16 (hw z (List.mem_of_mem_take hz2))
    omega
set_option maxRecDepth 100000 in
theorem u16s_arg {H : Type} {enc : TypeId × Value → H} {W : World} {base : Nat} {v : Value} {d : DataW H} {p : List MemPlace} (hok : Value.okWide Try.prog W .any base 48 v)
    (h : DataW.Trod enc Try.prog W 0 (fun _ => true) true 48 v d p) : ∃ (A : Option Addr) (cap : Nat) (l : List Nat), v = .slice A l.length cap ∧ l.length ≤ cap ∧ cap ≤ 9223372036854775807 ∧ Src W A (u16v l) ∧ ∀ b ∈ l, b < 65536 := by
  obtain ⟨a0, len, cap, rfl⟩ := okWide_slice Try.underlying48 hok
  obtain ⟨fuel, hf⟩ := h
  rcases open_ints Try.underlying48 Try.underlying52 Try.cells52 hf with ⟨hcs, _⟩ | ⟨a, len', cap', zs, hcs, _, hl, hm, hz, _, hcell, hwz⟩
  · simp only [Value.cells] at hcs
    have e : Value.slice a0 len cap = .slice none 0 0 := by simpa using hcs
    rw [e]
    exact ⟨none, 0, [], rfl, Nat.le_refl _, by omega, fun h0 => absurd h0 (by simp [u16v]), fun b hb => by cases hb⟩
  · have e : Value.slice a0 len cap = .slice (some a) len' cap' := by simpa [Value.cells] using hcs
    rw [e]
    have hz' : zs.length = cap' := by simpa using hz
    obtain ⟨h1, h2, h3⟩ := nums_src16 (W := W) (a := a) hl hz' (fun j hj => hcell j (by omega)) hwz
    exact ⟨some a, cap', _, by rw [h1], by omega, by unfold maxLen at hm; exact hm, h2, h3⟩
end Go.Proofs.Ytgdpjaojlhdhdaa
namespace Go.Proofs.Ytgdpjaojlhdhdaa
open Go.RowKit

set_option maxRecDepth 100000 in
set_option maxHeartbeats 25600000 in
theorem ufit_gt5 {A1 A2 : Option Addr} {L0 : List RowB} {l1 : List Nat} (N0 N1 c1 c2 : Nat) (W : World) (hN0 : L0.length = N0) (hN1 : l1.length = N1) (hn0 : N0 ≤ 9223372036854775807) (hn1 : N1 ≤ 9223372036854775807)
    (hs0 : RSrc W A1 L0) (hs1 : Src W A2 (u16v l1)) (hb1 : ∀ b ∈ l1, b < 65536) (hpos : 0 < N1) (hq : 30 < N0) :
    Calls Try.prog 4 #[.int .i64 5, .slice A1 N0 c1, .slice A2 N1 c2] W fun e w' => e = .returned (.bool true) ∧ Below W.heap.size W w' := by
  have HU := Lib.hid (fun V => us1_any V)
  have HN := Lib.hid (fun V => us_new ⟨1, 5, 16, 4, 0, 0, 0, 0, 0, 5000⟩ V (by decide +kernel) rfl)
  have HA := Lib.hid ualive_any
  have HL0 := Lib.hid hN0
  have HL1 := Lib.hid hN1
  have HS0 := Lib.hid hs0
  have HS1 := Lib.hid hs1
  have HB1 := Lib.hid hb1
  have hz1 : ((N1 : Int) == 0) = false := by simp; omega
  unfold Cf.a at HN HU
  unfold us1 at HU
  simp only at HN HU
  clear hN0 hN1 hs0 hs1 hb1
  go_enter Try.func4, Try.ntmps4
  go_upto_region 5 with (go_at_call 28; (with_reducible refine (HU.out _).mono ?_); rintro e w1 ⟨rfl, hb⟩; (have HB := Lib.hid hb; have c0 := Row.made w1 23 #[.int .i64 1, .int .i64 5, .int .i64 16, .int .i64 4, .int .i64 0, .int .i64 0, .int .i64 0, .int .i64 0, .int .i64 0, .int .i64 5000]; clear hb))
  have c1 := Row.made w1 23 #[.int .i64 1, .int .i64 5, .int .i64 16, .int .i64 4, .int .i64 0, .int .i64 0, .int .i64 0, .int .i64 0, .int .i64 0, .int .i64 5000]
  obtain ⟨g0, g1, g2, g3, g4, g5, g6, g7, g8, g9⟩ := cells10 c1
  have HB0 := Lib.hid (bl_step HB.out (bl_alloc (Below.refl w1.heap.size w1) (.cells #[.int .i64 1, .int .i64 5, .int .i64 16, .int .i64 4, .int .i64 0, .int .i64 0, .int .i64 0, .int .i64 0, .int .i64 0, .int .i64 5000] 23)))
  clear c0 c1
  go_wp2_with (go_at_call 20; (with_reducible refine (HN.out _).mono ?_); rintro e w2 ⟨x, q, wd, rfl, hu⟩; (have HUS := Lib.hid hu; clear hu))
  clear g0 g1 g2 g3 g4 g5 g6 g7 g8 g9
  generalize w1.alloc (.cells #[.int .i64 1, .int .i64 5, .int .i64 16, .int .i64 4, .int .i64 0, .int .i64 0, .int .i64 0, .int .i64 0, .int .i64 0, .int .i64 5000] 23) = W1 at *
  obtain rfl : wd = 5 := by have h9 := HUS.out.hcb; simp only at h9; omega
  have HC0 := Lib.hid (show UK W W1 w2 x q ⟨1, 5, 16, 4, 0, 0, 0, 0, 0, 5000⟩ 5 0 [] (.slice none 0 0) [] from ⟨HUS.out, World.ownsRow_nil _ _ _ _, rfl, (fun r hr => by cases hr), (fun t h => by cases h), HB0.out⟩)
  clear HUS
  go_loopw [10, 11] (fun kv iv wr => ∃ (k last : Nat) (ts : List Txt) (K : List RowB), k ≤ 30 ∧ last ≤ k ∧ iv = .int .i64 k ∧ Hid (UK W W1 wr x q ⟨1, 5, 16, 4, 0, 0, 0, 0, 0, 5000⟩ 5 last ts kv K)) (fun _ iv _ => 30 - (intOf iv).toNat)
  case atStart => exact ⟨0, 0, [], [], by omega, by omega, rfl, HC0⟩
  case round =>
    clear HC0
    obtain ⟨k, last, ts, K, hk, hlk, rfl, HC⟩ := hrel
    obtain ⟨A, c, rfl, _⟩ := uf_form HC.out.keep
    have hKm : K.length ≤ 64 := by have h1 := congrArg List.length HC.out.same; rw [List.length_map, List.length_map] at h1; have := HC.out.us.qs.many; omega
    rcases Nat.lt_or_ge k 30 with hlt | hend
    · obtain ⟨r, hr⟩ : ∃ r, L0[k]? = some r := ⟨_, List.getElem?_eq_getElem (by rw [HL0.out]; omega)⟩
      obtain ⟨a0, rfl, hc⟩ := HS0.out (by rw [HL0.out]; omega)
      have HROK := Lib.hid (hc k r hr).2
      have HC9 := Lib.hid (hc k r hr).1
      have y1 := cell_below (bl_step HC.out.b0 HC.out.us.bl) (hc k r hr).1
      have hlen := (hc k r hr).2.2.1
      have hcap := (hc k r hr).2.2.2.1
      unfold RowB.v at y1
      have hi0 : (0 : Int) ≤ (k : Int) := by omega
      have hi1 : (k : Int) < (N0 : Int) := by omega
      have hi2 : (k : Int) < 30 := by omega
      obtain ⟨m, hm⟩ : ∃ m, r.bs.length = m := ⟨_, rfl⟩
      rw [hm] at y1 hlen
      have HM := Lib.hid hm
      clear hc hr hm
      by_cases hl : 1100 < m
      · have g1 : decide ((1100 : Int) < (m : Int)) = true := decide_eq_true (by omega)
        have hli : (1100 : Int) < (m : Int) := by omega
        generalize K.length = nk at *
        go_wp2_with (go_at_call 21; (with_reducible refine (HA.out _).mono ?_); rintro e w6 ⟨rfl, hb6⟩; (have HB6 := Lib.hid hb6; clear hb6))
        go_ret
        exact ⟨rfl, bl_step (bl_step HC.out.b0 HC.out.us.bl) HB6.out⟩
      · have g1 : decide ((1100 : Int) < (m : Int)) = false := decide_eq_false (by omega)
        have hli : ¬ (1100 : Int) < (m : Int) := by omega
        have HPU := Lib.hid (HC.out.push r m HM.out HROK.out (by omega))
        generalize K.length = nk at HPU HC ⊢
        go_wp2_with fail
        refine HPU.out.mono ?_
        rintro e w3 (⟨nid, er, rfl, her, hP⟩ | ⟨nid, rfl, hb3, A', n', c', ekv, A9, c9, w9, t9, hrun, hP9⟩)
        · have HP3 := Lib.hid hP
          have g2 : (er == 0) = false := by simpa using her
          clear hP her
          go_wp2
          go_roundw
          case rel => exact ⟨k + 1, last, ts, K, by omega, by omega, by go_num, HP3⟩
          case measure => simp [intOf]; omega
        · injection ekv with e1 e2 e3
          subst e1 e2 e3
          have HP9 := Lib.hid hP9
          have y3 := cell_below (bl_step HC.out.b0 hb3) HC9.out
          unfold RowB.v at y3
          rw [HM.out] at y3
          clear hP9 hb3
          go_wp2_with (at_builtin; refine wpList_run rfl (.tmp 81) (.tmp 86) 40 rfl (.slice A nk c) (.slice (some ⟨w3.heap.size, 0, none⟩) 1 1) (by rfl) (by rfl) hrun ?_)
          go_roundw
          case rel => exact ⟨k + 1, last + 1, ts ++ [t9], K ++ [r], by omega, by omega, by go_num, HP9⟩
          case measure => simp [intOf]; omega
    · have q1 : (k : Int) < (N0 : Int) := by omega
      have q2 : ¬ (k : Int) < 30 := by omega
      generalize hnk : K.length = nk at *
      have HNK := Lib.hid hnk
      have hnk64 : nk ≤ 64 := by omega
      clear hnk hKm hk hend
      go_upto_region 18 with (go_at_call 29; (with_reducible refine (gnew_any _).mono ?_); rintro e w4 ⟨rfl, hg4, hb4⟩; (have HST := Lib.hid (HC.out.start hb4 hg4); clear hg4 hb4))
      obtain ⟨HQ0, HG0⟩ : Hid _ ∧ Hid _ := ⟨Lib.hid HST.out.1, Lib.hid HST.out.2⟩
      have hb0 : bytesF ts ≤ 5000 := by have h9 := HST.out.1.us.qs.small; simp only at h9; omega
      clear HST HC
      generalize wr.heap.size = p at *
      go_wp2_with fail
      go_loopw [15, 16, 17] (fun s15 s16 s17 wt => ∃ (j n sn last : Nat) (ts : List Txt) (hv : Value) (hd : List Nat), bytesF ts + j ≤ 5000 ∧ s17 = .int .i64 j ∧ s16 = .int .i64 sn ∧ s15 = .int .i64 n ∧ n ≤ nk ∧ Hid (UQ W W1 wt x q ⟨1, 5, 16, 4, 0, 0, 0, 0, 0, 5000⟩ sn 5 last ts (.slice A nk c) K p hv hd) ∧ Hid (GI (K.map RowB.bs) n (headBg ts) (ts.map Txt.bs) hd)) (fun _ _ s17 _ => 6000 - (intOf s17).toNat)
      case atStart => exact ⟨0, 0, 0, last, ts, _, _, by omega, rfl, rfl, rfl, by omega, HQ0, HG0⟩
      case round =>
        clear HQ0 HG0 hb0
        obtain ⟨j, n, sn, last2, ts2, hv, hd, hj, rfl, rfl, rfl, hnn, HD, HG⟩ := hrel
        have HJ := Lib.hid hj
        have HNN := Lib.hid hnn
        have HBY := Lib.hid HD.out.us.bytes
        have hp9 : ∀ t ∈ ts2, 0 < t.bs.length := fun t ht => (HD.out.us.qs.bytes t ht).1
        obtain ⟨bf, hbf⟩ : ∃ bf, bytesF ts2 = bf := ⟨_, rfl⟩
        rw [hbf] at HBY hj
        have HBF := Lib.hid hbf
        rcases Nat.eq_zero_or_pos bf with hb0 | hb0
        · subst hb0
          obtain rfl := bytesF_none hp9 hbf
          obtain ⟨hnK, rfl⟩ := HG.out.done
          rw [List.length_map, HNK.out] at hnK
          subst hnK
          have HBY2 := Lib.hid (fun V (hV : Below wr.heap.size wr V) => ((HD.out.later hV).us.bytes : Calls Try.prog 30 #[.pointer (some ⟨x, 0, none⟩)] V fun e w' => e = .returned (.int .i64 (0 : Nat)) ∧ Below V.heap.size V w'))
          have HLO := Lib.hid (fun V (hV : Below wr.heap.size wr V) => (glost_any (HD.out.rep.later hV) : Calls Try.prog 32 #[.pointer (some ⟨p, 0, none⟩)] V fun e w' => e = .returned (.int .i64 (0 : Nat)) ∧ V = w'))
          clear hp9 hbf hj hnn HBY
          go_wp2_with (first
            | (go_at_call 21; (with_reducible refine (HA.out _).mono ?_); rintro e v1 ⟨rfl, hb1⟩; (have HV2 := Lib.hid (bl_step HV1.out hb1)); clear hb1)
            | (go_at_call 30; (with_reducible refine (HBY2.out _ (Below.refl _ _)).mono ?_); rintro e v0 ⟨rfl, hb0⟩; (have HV1 := Lib.hid hb0); clear hb0)
            | (go_at_call 30; (with_reducible refine (HBY2.out _ HV2.out).mono ?_); rintro e v2 ⟨rfl, hb2⟩; (have HV3 := Lib.hid (bl_step HV2.out hb2)); clear hb2)
            | (go_at_call 32; (with_reducible refine (HLO.out _ HV3.out).mono ?_); rintro e v3 ⟨rfl, rfl⟩))
          go_ret
          exact ⟨rfl, bl_step (bl_step HD.out.b0 HD.out.us.bl) HV3.out⟩
        · have hm9 : j % N1 < N1 := Nat.mod_lt _ hpos
          obtain ⟨vg, hvg⟩ : ∃ v, l1[j % N1]? = some v := ⟨_, List.getElem?_eq_getElem (by rw [HL1.out]; exact hm9)⟩
          obtain ⟨a1, rfl, z1⟩ := uf_cell HS1.out (bl_step HD.out.b0 HD.out.us.bl) (u16v_at hvg)
          have hv9 := HB1.out vg (List.mem_of_getElem? hvg)
          have hmodj : Int.tmod (j : Int) (N1 : Int) = ((j % N1 : Nat) : Int) := by
            rw [Int.ofNat_tmod]
          have hmod : Int.tmod (vg : Int) 200 = ((vg % 200 : Nat) : Int) := by
            rw [Int.ofNat_tmod]
            rfl
          have hrm := Nat.mod_lt vg (show 0 < 200 by omega)
          have hj0 : (0 : Int) ≤ (j : Int) := by omega
          have hjl : (j : Int) < 6000 := by omega
          have hbfi : (0 : Int) < (bf : Int) := by omega
          have hmi : ((j % N1 : Nat) : Int) < (N1 : Int) := by omega
          generalize vg % 200 = rm at *
          generalize j % N1 = jm at *
          have HF0 := Lib.hid (show faultU (3 + (rm : Int)) (bytesF ts2 : Nat) 5 = 0 by unfold faultU; rw [if_neg (by omega), if_neg (by omega), if_neg (by omega)])
          clear hvg hp9 hbf hm9 hnn hj
          go_upto_region 23 with (go_at_call 30; (with_reducible refine HBY.out.mono ?_); rintro e w3 ⟨rfl, hb3⟩; (have z3 := cell_below hb3 z1); (have HD3 := Lib.hid (HD.out.later hb3)); (have HBLD := Lib.hid (HD3.out.builds (3 + (rm : Int)) (by omega) HF0.out)); clear hb3)
          go_upto_region 25 with (first
            | (go_at_call 24; (with_reducible refine HBLD.out.mono ?_); rintro e w5 ⟨k5, f5, ts5, D5, L5, A5, m5, cp5, rfl, hm5, hq5, hl5, hu5, ho5, hz5, hs5, hc5⟩; (have HD5 := Lib.hid hq5; have HL5 := Lib.hid hl5; have HC5 := Lib.hid hc5; have HRD := Lib.hid (built_read5 ho5 hu5 hz5 hs5); clear hq5 hl5 hu5 ho5 hz5 hs5 hc5))
            | (go_at_call 25; (with_reducible refine HRD.out.mono ?_); rintro e w6 ⟨M6, A6, c6, rfl, ht6, ho6, hb6⟩; (have HC6 := Lib.hid (HC5.out M6 A6 ht6); have HO6 := Lib.hid ho6; have HD6 := Lib.hid (HD5.out.later hb6); clear ht6 ho6 hb6)))
          clear HBLD
          obtain ⟨m6, hm6⟩ : ∃ m6, M6.length = m6 := ⟨_, rfl⟩
          rw [hm6] at HO6 ⊢
          have HUR := Lib.hid (Row.made w6 42 #[.int .i64 f5, .int .i64 sn, .slice A6 m6 c6])
          have HD9 := Lib.hid (HD6.out.later (bl_alloc (Below.refl _ _) (.cells #[.int .i64 f5, .int .i64 sn, .slice A6 m6 c6] 42)))
          have HO9 := Lib.hid (HO6.out.later (bl_alloc (Below.refl _ _) (.cells #[.int .i64 f5, .int .i64 sn, .slice A6 m6 c6] 42)))
          have hsn9 := HD.out.us.hsn
          have HPT := Lib.hid (HD9.out.puts (y := ⟨f5, A6, M6, D5, k5⟩) HG.out HC6.out.1 rfl HC6.out.2 hm6 HO9.out (fun k hk => HD5.out.rep.block_lt k hk))
          simp only at HPT
          generalize w6.alloc (.cells #[.int .i64 f5, .int .i64 sn, .slice A6 m6 c6] 42) = wv at *
          generalize w6.heap.size = bv at *
          have dv0 := HUR.out.read (i := 0) (x := .int .i64 f5) rfl
          have dv1 := HUR.out.read (i := 1) (x := .int .i64 sn) rfl
          have dv2 := HUR.out.read (i := 2) (x := .slice A6 m6 c6) rfl
          clear HRD HO9 HO6 HD6 HUR
          have hle5 : ¬ ((3 + (rm : Int)) < (m5 : Int)) := by omega
          go_upto_region 31 with (go_at_call 31; (with_reducible refine HPT.out.mono ?_); rintro e w7 ⟨hv', h', L2, A2, rfl, hl2, htx2, hle2, hrs2, hd2, hg2⟩; (have HD10 := Lib.hid hd2; have HG10 := Lib.hid hg2; have HL2 := Lib.hid hl2; have HT2 := Lib.hid htx2; have HRS2 := Lib.hid hrs2; have HLE2 := Lib.hid hle2; have HKS := Lib.hid hd2.kept_src; clear hl2 htx2 hle2 hrs2 hd2 hg2))
          clear dv0 dv1 dv2 HPT HD9
          go_wp2_with fail
          go_loopw [15, 26] (fun nv kv wu => ∃ i' nm : Nat, i' ≤ k5 ∧ kv = .int .i64 i' ∧ nv = .int .i64 nm ∧ Hid (nm = n + i') ∧ Hid (Below w7.heap.size w7 wu)) (fun _ kv _ => k5 - (intOf kv).toNat)
          case atStart => exact ⟨0, n, by omega, rfl, rfl, Lib.hid rfl, Lib.hid (Below.refl _ _)⟩
          case round =>
            obtain ⟨m, nm, hm, rfl, rfl, HNM, HBU⟩ := hrel
            have hk64 : k5 ≤ 64 := by have := HLE2.out; have := HNK.out; omega
            rcases Nat.lt_or_ge m k5 with hlt2 | hge2
            · obtain ⟨r2, hr2⟩ : ∃ r, L2[m]? = some r := ⟨_, List.getElem?_eq_getElem (by rw [HL2.out]; exact hlt2)⟩
              obtain ⟨rk, hrk⟩ : ∃ r, K[n + m]? = some r := ⟨_, List.getElem?_eq_getElem (by have := HLE2.out; omega)⟩
              obtain ⟨ad2, rfl, hcl2⟩ := (HRS2.out.later HBU.out) (by rw [HL2.out]; omega)
              obtain ⟨adk, rfl, hclk⟩ := (HKS.out.later HBU.out) (by have := (List.getElem?_eq_some_iff.1 hrk).1; omega)
              have heq : r2.bs = rk.bs := by
                have h1 := texts_at hr2
                rw [HT2.out, List.getElem?_take, if_pos hlt2, List.getElem?_drop, List.getElem?_map, hrk] at h1
                injection h1 with h1
                exact h1.symm
              obtain ⟨q1, q2⟩ := hcl2 m r2 hr2
              obtain ⟨q3, q4⟩ := hclk (n + m) rk hrk
              unfold RowB.v at q1 q3
              have cv1 := conv_src (w := wr.drew) (A := r2.A) (l := r2.bs) r2.bs.length r2.cap rfl (src_later q2.1 (bl_drew (Below.refl _ _))) q2.2.2.2
              have cv2 := conv_src (w := wr.drew) (A := rk.A) (l := r2.bs) r2.bs.length rk.cap rfl (by rw [heq]; exact src_later q4.1 (bl_drew (Below.refl _ _))) q2.2.2.2
              rw [← heq] at q3
              have hnm9 := HNM.out
              have hKn := HNK.out
              have hKle := HLE2.out
              have d1 : decide ((nk : Int) ≤ (nm : Int)) = false := decide_eq_false (by omega)
              have d1n : decide (nk ≤ nm) = false := decide_eq_false (by omega)
              have d1m : ¬ nk ≤ nm := by omega
              have hm0 : (0 : Int) ≤ (m : Int) := by omega
              have hm1 : (m : Int) < (k5 : Int) := by omega
              have hn0' : (0 : Int) ≤ (nm : Int) := by omega
              have hn1' : (nm : Int) < (nk : Int) := by omega
              rw [← hnm9] at q3
              have x1 : wr.drew.cell? (ad2.add m) = some (.slice r2.A r2.bs.length r2.cap) := q1
              have x2 : wr.drew.cell? (adk.add nm) = some (.slice rk.A r2.bs.length rk.cap) := q3
              clear hcl2 hclk q1 q2 q3 q4 heq hr2 hrk hnm9 hKn hKle
              generalize r2.bs.length = bl at *
              generalize strOf r2.bs = st at *
              go_wp2_with fail
              refine wp_region_still_lit (by kernel_rfl) (by kernel_rfl) ?_
              change wpStill _ _ wr.drew (fun b => _) _ _
              generalize wr.drew = w9 at x1 x2 cv1 cv2 ⊢
              repeat still_step
              refine wpStill_nil ?_
              go_wp2_with fail
              go_roundw
              case rel => exact ⟨m + 1, nm + 1, by omega, by go_num, by go_num, Lib.hid (by have := HNM.out; omega), Lib.hid (bl_step HBU.out (bl_drew (Below.refl _ _)))⟩
              case measure => simp [intOf]; omega
            · obtain rfl : k5 = m := by omega
              have HN9 := Lib.hid (show nm ≤ nk from by have := HNM.out; have := HLE2.out; have := HNK.out; omega)
              have HD11 := Lib.hid (HD10.out.later HBU.out)
              have HG11 : Hid (GI (K.map RowB.bs) nm (headBg ts5) (ts5.map Txt.bs) h') := by rw [HNM.out]; exact HG10
              go_wp2_with fail
              go_roundw
              case rel => exact ⟨j + 1, nm, ((sn + 1) % 2 ^ 5), last2, ts5, hv', h', (by have h1 := HJ.out; have h2 := HL5.out; have h3 := HBF.out; omega), by go_num, by first | rfl | go_num, rfl, HN9.out, HD11, HG11⟩
              case measure => have h1 := HJ.out; simp [intOf]; omega
end Go.Proofs.Ytgdpjaojlhdhdaa
namespace Go.Proofs.Ytgdpjaojlhdhdaa
open Go.RowKit

set_option maxRecDepth 100000 in
set_option maxHeartbeats 25600000 in
theorem ufit_le5 {A1 A2 : Option Addr} {L0 : List RowB} {l1 : List Nat} (N0 N1 c1 c2 : Nat) (W : World) (hN0 : L0.length = N0) (hN1 : l1.length = N1) (hn0 : N0 ≤ 9223372036854775807) (hn1 : N1 ≤ 9223372036854775807)
    (hs0 : RSrc W A1 L0) (hs1 : Src W A2 (u16v l1)) (hb1 : ∀ b ∈ l1, b < 65536) (hpos : 0 < N1) (hq : N0 ≤ 30) :
    Calls Try.prog 4 #[.int .i64 5, .slice A1 N0 c1, .slice A2 N1 c2] W fun e w' => e = .returned (.bool true) ∧ Below W.heap.size W w' := by
  have HU := Lib.hid (fun V => us1_any V)
  have HN := Lib.hid (fun V => us_new ⟨1, 5, 16, 4, 0, 0, 0, 0, 0, 5000⟩ V (by decide +kernel) rfl)
  have HA := Lib.hid ualive_any
  have HL0 := Lib.hid hN0
  have HL1 := Lib.hid hN1
  have HS0 := Lib.hid hs0
  have HS1 := Lib.hid hs1
  have HB1 := Lib.hid hb1
  have hz1 : ((N1 : Int) == 0) = false := by simp; omega
  unfold Cf.a at HN HU
  unfold us1 at HU
  simp only at HN HU
  clear hN0 hN1 hs0 hs1 hb1
  go_enter Try.func4, Try.ntmps4
  go_upto_region 5 with (go_at_call 28; (with_reducible refine (HU.out _).mono ?_); rintro e w1 ⟨rfl, hb⟩; (have HB := Lib.hid hb; have c0 := Row.made w1 23 #[.int .i64 1, .int .i64 5, .int .i64 16, .int .i64 4, .int .i64 0, .int .i64 0, .int .i64 0, .int .i64 0, .int .i64 0, .int .i64 5000]; clear hb))
  have c1 := Row.made w1 23 #[.int .i64 1, .int .i64 5, .int .i64 16, .int .i64 4, .int .i64 0, .int .i64 0, .int .i64 0, .int .i64 0, .int .i64 0, .int .i64 5000]
  obtain ⟨g0, g1, g2, g3, g4, g5, g6, g7, g8, g9⟩ := cells10 c1
  have HB0 := Lib.hid (bl_step HB.out (bl_alloc (Below.refl w1.heap.size w1) (.cells #[.int .i64 1, .int .i64 5, .int .i64 16, .int .i64 4, .int .i64 0, .int .i64 0, .int .i64 0, .int .i64 0, .int .i64 0, .int .i64 5000] 23)))
  clear c0 c1
  go_wp2_with (go_at_call 20; (with_reducible refine (HN.out _).mono ?_); rintro e w2 ⟨x, q, wd, rfl, hu⟩; (have HUS := Lib.hid hu; clear hu))
  clear g0 g1 g2 g3 g4 g5 g6 g7 g8 g9
  generalize w1.alloc (.cells #[.int .i64 1, .int .i64 5, .int .i64 16, .int .i64 4, .int .i64 0, .int .i64 0, .int .i64 0, .int .i64 0, .int .i64 0, .int .i64 5000] 23) = W1 at *
  obtain rfl : wd = 5 := by have h9 := HUS.out.hcb; simp only at h9; omega
  have HC0 := Lib.hid (show UK W W1 w2 x q ⟨1, 5, 16, 4, 0, 0, 0, 0, 0, 5000⟩ 5 0 [] (.slice none 0 0) [] from ⟨HUS.out, World.ownsRow_nil _ _ _ _, rfl, (fun r hr => by cases hr), (fun t h => by cases h), HB0.out⟩)
  clear HUS
  go_loopw [10, 11] (fun kv iv wr => ∃ (k last : Nat) (ts : List Txt) (K : List RowB), k ≤ N0 ∧ last ≤ k ∧ iv = .int .i64 k ∧ Hid (UK W W1 wr x q ⟨1, 5, 16, 4, 0, 0, 0, 0, 0, 5000⟩ 5 last ts kv K)) (fun _ iv _ => N0 - (intOf iv).toNat)
  case atStart => exact ⟨0, 0, [], [], by omega, by omega, rfl, HC0⟩
  case round =>
    clear HC0
    obtain ⟨k, last, ts, K, hk, hlk, rfl, HC⟩ := hrel
    obtain ⟨A, c, rfl, _⟩ := uf_form HC.out.keep
    have hKm : K.length ≤ 64 := by have h1 := congrArg List.length HC.out.same; rw [List.length_map, List.length_map] at h1; have := HC.out.us.qs.many; omega
    rcases Nat.lt_or_ge k N0 with hlt | hend
    · obtain ⟨r, hr⟩ : ∃ r, L0[k]? = some r := ⟨_, List.getElem?_eq_getElem (by rw [HL0.out]; omega)⟩
      obtain ⟨a0, rfl, hc⟩ := HS0.out (by rw [HL0.out]; omega)
      have HROK := Lib.hid (hc k r hr).2
      have HC9 := Lib.hid (hc k r hr).1
      have y1 := cell_below (bl_step HC.out.b0 HC.out.us.bl) (hc k r hr).1
      have hlen := (hc k r hr).2.2.1
      have hcap := (hc k r hr).2.2.2.1
      unfold RowB.v at y1
      have hi0 : (0 : Int) ≤ (k : Int) := by omega
      have hi1 : (k : Int) < (N0 : Int) := by omega
      have hi2 : (k : Int) < 30 := by omega
      obtain ⟨m, hm⟩ : ∃ m, r.bs.length = m := ⟨_, rfl⟩
      rw [hm] at y1 hlen
      have HM := Lib.hid hm
      clear hc hr hm
      by_cases hl : 1100 < m
      · have g1 : decide ((1100 : Int) < (m : Int)) = true := decide_eq_true (by omega)
        have hli : (1100 : Int) < (m : Int) := by omega
        generalize K.length = nk at *
        go_wp2_with (go_at_call 21; (with_reducible refine (HA.out _).mono ?_); rintro e w6 ⟨rfl, hb6⟩; (have HB6 := Lib.hid hb6; clear hb6))
        go_ret
        exact ⟨rfl, bl_step (bl_step HC.out.b0 HC.out.us.bl) HB6.out⟩
      · have g1 : decide ((1100 : Int) < (m : Int)) = false := decide_eq_false (by omega)
        have hli : ¬ (1100 : Int) < (m : Int) := by omega
        have HPU := Lib.hid (HC.out.push r m HM.out HROK.out (by omega))
        generalize K.length = nk at HPU HC ⊢
        go_wp2_with fail
        refine HPU.out.mono ?_
        rintro e w3 (⟨nid, er, rfl, her, hP⟩ | ⟨nid, rfl, hb3, A', n', c', ekv, A9, c9, w9, t9, hrun, hP9⟩)
        · have HP3 := Lib.hid hP
          have g2 : (er == 0) = false := by simpa using her
          clear hP her
          go_wp2
          go_roundw
          case rel => exact ⟨k + 1, last, ts, K, by omega, by omega, by go_num, HP3⟩
          case measure => simp [intOf]; omega
        · injection ekv with e1 e2 e3
          subst e1 e2 e3
          have HP9 := Lib.hid hP9
          have y3 := cell_below (bl_step HC.out.b0 hb3) HC9.out
          unfold RowB.v at y3
          rw [HM.out] at y3
          clear hP9 hb3
          go_wp2_with (at_builtin; refine wpList_run rfl (.tmp 81) (.tmp 86) 40 rfl (.slice A nk c) (.slice (some ⟨w3.heap.size, 0, none⟩) 1 1) (by rfl) (by rfl) hrun ?_)
          go_roundw
          case rel => exact ⟨k + 1, last + 1, ts ++ [t9], K ++ [r], by omega, by omega, by go_num, HP9⟩
          case measure => simp [intOf]; omega
    · have q1 : ¬ (k : Int) < (N0 : Int) := by omega
      generalize hnk : K.length = nk at *
      have HNK := Lib.hid hnk
      have hnk64 : nk ≤ 64 := by omega
      clear hnk hKm hk hend
      go_upto_region 18 with (go_at_call 29; (with_reducible refine (gnew_any _).mono ?_); rintro e w4 ⟨rfl, hg4, hb4⟩; (have HST := Lib.hid (HC.out.start hb4 hg4); clear hg4 hb4))
      obtain ⟨HQ0, HG0⟩ : Hid _ ∧ Hid _ := ⟨Lib.hid HST.out.1, Lib.hid HST.out.2⟩
      have hb0 : bytesF ts ≤ 5000 := by have h9 := HST.out.1.us.qs.small; simp only at h9; omega
      clear HST HC
      generalize wr.heap.size = p at *
      go_wp2_with fail
      go_loopw [15, 16, 17] (fun s15 s16 s17 wt => ∃ (j n sn last : Nat) (ts : List Txt) (hv : Value) (hd : List Nat), bytesF ts + j ≤ 5000 ∧ s17 = .int .i64 j ∧ s16 = .int .i64 sn ∧ s15 = .int .i64 n ∧ n ≤ nk ∧ Hid (UQ W W1 wt x q ⟨1, 5, 16, 4, 0, 0, 0, 0, 0, 5000⟩ sn 5 last ts (.slice A nk c) K p hv hd) ∧ Hid (GI (K.map RowB.bs) n (headBg ts) (ts.map Txt.bs) hd)) (fun _ _ s17 _ => 6000 - (intOf s17).toNat)
      case atStart => exact ⟨0, 0, 0, last, ts, _, _, by omega, rfl, rfl, rfl, by omega, HQ0, HG0⟩
      case round =>
        clear HQ0 HG0 hb0
        obtain ⟨j, n, sn, last2, ts2, hv, hd, hj, rfl, rfl, rfl, hnn, HD, HG⟩ := hrel
        have HJ := Lib.hid hj
        have HNN := Lib.hid hnn
        have HBY := Lib.hid HD.out.us.bytes
        have hp9 : ∀ t ∈ ts2, 0 < t.bs.length := fun t ht => (HD.out.us.qs.bytes t ht).1
        obtain ⟨bf, hbf⟩ : ∃ bf, bytesF ts2 = bf := ⟨_, rfl⟩
        rw [hbf] at HBY hj
        have HBF := Lib.hid hbf
        rcases Nat.eq_zero_or_pos bf with hb0 | hb0
        · subst hb0
          obtain rfl := bytesF_none hp9 hbf
          obtain ⟨hnK, rfl⟩ := HG.out.done
          rw [List.length_map, HNK.out] at hnK
          subst hnK
          have HBY2 := Lib.hid (fun V (hV : Below wr.heap.size wr V) => ((HD.out.later hV).us.bytes : Calls Try.prog 30 #[.pointer (some ⟨x, 0, none⟩)] V fun e w' => e = .returned (.int .i64 (0 : Nat)) ∧ Below V.heap.size V w'))
          have HLO := Lib.hid (fun V (hV : Below wr.heap.size wr V) => (glost_any (HD.out.rep.later hV) : Calls Try.prog 32 #[.pointer (some ⟨p, 0, none⟩)] V fun e w' => e = .returned (.int .i64 (0 : Nat)) ∧ V = w'))
          clear hp9 hbf hj hnn HBY
          go_wp2_with (first
            | (go_at_call 21; (with_reducible refine (HA.out _).mono ?_); rintro e v1 ⟨rfl, hb1⟩; (have HV2 := Lib.hid (bl_step HV1.out hb1)); clear hb1)
            | (go_at_call 30; (with_reducible refine (HBY2.out _ (Below.refl _ _)).mono ?_); rintro e v0 ⟨rfl, hb0⟩; (have HV1 := Lib.hid hb0); clear hb0)
            | (go_at_call 30; (with_reducible refine (HBY2.out _ HV2.out).mono ?_); rintro e v2 ⟨rfl, hb2⟩; (have HV3 := Lib.hid (bl_step HV2.out hb2)); clear hb2)
            | (go_at_call 32; (with_reducible refine (HLO.out _ HV3.out).mono ?_); rintro e v3 ⟨rfl, rfl⟩))
          go_ret
          exact ⟨rfl, bl_step (bl_step HD.out.b0 HD.out.us.bl) HV3.out⟩
        · have hm9 : j % N1 < N1 := Nat.mod_lt _ hpos
          obtain ⟨vg, hvg⟩ : ∃ v, l1[j % N1]? = some v := ⟨_, List.getElem?_eq_getElem (by rw [HL1.out]; exact hm9)⟩
          obtain ⟨a1, rfl, z1⟩ := uf_cell HS1.out (bl_step HD.out.b0 HD.out.us.bl) (u16v_at hvg)
          have hv9 := HB1.out vg (List.mem_of_getElem? hvg)
          have hmodj : Int.tmod (j : Int) (N1 : Int) = ((j % N1 : Nat) : Int) := by
            rw [Int.ofNat_tmod]
          have hmod : Int.tmod (vg : Int) 200 = ((vg % 200 : Nat) : Int) := by
            rw [Int.ofNat_tmod]
            rfl
          have hrm := Nat.mod_lt vg (show 0 < 200 by omega)
          have hj0 : (0 : Int) ≤ (j : Int) := by omega
          have hjl : (j : Int) < 6000 := by omega
          have hbfi : (0 : Int) < (bf : Int) := by omega
          have hmi : ((j % N1 : Nat) : Int) < (N1 : Int) := by omega
          generalize vg % 200 = rm at *
          generalize j % N1 = jm at *
          have HF0 := Lib.hid (show faultU (3 + (rm : Int)) (bytesF ts2 : Nat) 5 = 0 by unfold faultU; rw [if_neg (by omega), if_neg (by omega), if_neg (by omega)])
          clear hvg hp9 hbf hm9 hnn hj
          go_upto_region 23 with (go_at_call 30; (with_reducible refine HBY.out.mono ?_); rintro e w3 ⟨rfl, hb3⟩; (have z3 := cell_below hb3 z1); (have HD3 := Lib.hid (HD.out.later hb3)); (have HBLD := Lib.hid (HD3.out.builds (3 + (rm : Int)) (by omega) HF0.out)); clear hb3)
          go_upto_region 25 with (first
            | (go_at_call 24; (with_reducible refine HBLD.out.mono ?_); rintro e w5 ⟨k5, f5, ts5, D5, L5, A5, m5, cp5, rfl, hm5, hq5, hl5, hu5, ho5, hz5, hs5, hc5⟩; (have HD5 := Lib.hid hq5; have HL5 := Lib.hid hl5; have HC5 := Lib.hid hc5; have HRD := Lib.hid (built_read5 ho5 hu5 hz5 hs5); clear hq5 hl5 hu5 ho5 hz5 hs5 hc5))
            | (go_at_call 25; (with_reducible refine HRD.out.mono ?_); rintro e w6 ⟨M6, A6, c6, rfl, ht6, ho6, hb6⟩; (have HC6 := Lib.hid (HC5.out M6 A6 ht6); have HO6 := Lib.hid ho6; have HD6 := Lib.hid (HD5.out.later hb6); clear ht6 ho6 hb6)))
          clear HBLD
          obtain ⟨m6, hm6⟩ : ∃ m6, M6.length = m6 := ⟨_, rfl⟩
          rw [hm6] at HO6 ⊢
          have HUR := Lib.hid (Row.made w6 42 #[.int .i64 f5, .int .i64 sn, .slice A6 m6 c6])
          have HD9 := Lib.hid (HD6.out.later (bl_alloc (Below.refl _ _) (.cells #[.int .i64 f5, .int .i64 sn, .slice A6 m6 c6] 42)))
          have HO9 := Lib.hid (HO6.out.later (bl_alloc (Below.refl _ _) (.cells #[.int .i64 f5, .int .i64 sn, .slice A6 m6 c6] 42)))
          have hsn9 := HD.out.us.hsn
          have HPT := Lib.hid (HD9.out.puts (y := ⟨f5, A6, M6, D5, k5⟩) HG.out HC6.out.1 rfl HC6.out.2 hm6 HO9.out (fun k hk => HD5.out.rep.block_lt k hk))
          simp only at HPT
          generalize w6.alloc (.cells #[.int .i64 f5, .int .i64 sn, .slice A6 m6 c6] 42) = wv at *
          generalize w6.heap.size = bv at *
          have dv0 := HUR.out.read (i := 0) (x := .int .i64 f5) rfl
          have dv1 := HUR.out.read (i := 1) (x := .int .i64 sn) rfl
          have dv2 := HUR.out.read (i := 2) (x := .slice A6 m6 c6) rfl
          clear HRD HO9 HO6 HD6 HUR
          have hle5 : ¬ ((3 + (rm : Int)) < (m5 : Int)) := by omega
          go_upto_region 31 with (go_at_call 31; (with_reducible refine HPT.out.mono ?_); rintro e w7 ⟨hv', h', L2, A2, rfl, hl2, htx2, hle2, hrs2, hd2, hg2⟩; (have HD10 := Lib.hid hd2; have HG10 := Lib.hid hg2; have HL2 := Lib.hid hl2; have HT2 := Lib.hid htx2; have HRS2 := Lib.hid hrs2; have HLE2 := Lib.hid hle2; have HKS := Lib.hid hd2.kept_src; clear hl2 htx2 hle2 hrs2 hd2 hg2))
          clear dv0 dv1 dv2 HPT HD9
          go_wp2_with fail
          go_loopw [15, 26] (fun nv kv wu => ∃ i' nm : Nat, i' ≤ k5 ∧ kv = .int .i64 i' ∧ nv = .int .i64 nm ∧ Hid (nm = n + i') ∧ Hid (Below w7.heap.size w7 wu)) (fun _ kv _ => k5 - (intOf kv).toNat)
          case atStart => exact ⟨0, n, by omega, rfl, rfl, Lib.hid rfl, Lib.hid (Below.refl _ _)⟩
          case round =>
            obtain ⟨m, nm, hm, rfl, rfl, HNM, HBU⟩ := hrel
            have hk64 : k5 ≤ 64 := by have := HLE2.out; have := HNK.out; omega
            rcases Nat.lt_or_ge m k5 with hlt2 | hge2
            · obtain ⟨r2, hr2⟩ : ∃ r, L2[m]? = some r := ⟨_, List.getElem?_eq_getElem (by rw [HL2.out]; exact hlt2)⟩
              obtain ⟨rk, hrk⟩ : ∃ r, K[n + m]? = some r := ⟨_, List.getElem?_eq_getElem (by have := HLE2.out; omega)⟩
              obtain ⟨ad2, rfl, hcl2⟩ := (HRS2.out.later HBU.out) (by rw [HL2.out]; omega)
              obtain ⟨adk, rfl, hclk⟩ := (HKS.out.later HBU.out) (by have := (List.getElem?_eq_some_iff.1 hrk).1; omega)
              have heq : r2.bs = rk.bs := by
                have h1 := texts_at hr2
                rw [HT2.out, List.getElem?_take, if_pos hlt2, List.getElem?_drop, List.getElem?_map, hrk] at h1
                injection h1 with h1
                exact h1.symm
              obtain ⟨q1, q2⟩ := hcl2 m r2 hr2
              obtain ⟨q3, q4⟩ := hclk (n + m) rk hrk
              unfold RowB.v at q1 q3
              have cv1 := conv_src (w := wr.drew) (A := r2.A) (l := r2.bs) r2.bs.length r2.cap rfl (src_later q2.1 (bl_drew (Below.refl _ _))) q2.2.2.2
              have cv2 := conv_src (w := wr.drew) (A := rk.A) (l := r2.bs) r2.bs.length rk.cap rfl (by rw [heq]; exact src_later q4.1 (bl_drew (Below.refl _ _))) q2.2.2.2
              rw [← heq] at q3
              have hnm9 := HNM.out
              have hKn := HNK.out
              have hKle := HLE2.out
              have d1 : decide ((nk : Int) ≤ (nm : Int)) = false := decide_eq_false (by omega)
              have d1n : decide (nk ≤ nm) = false := decide_eq_false (by omega)
              have d1m : ¬ nk ≤ nm := by omega
              have hm0 : (0 : Int) ≤ (m : Int) := by omega
              have hm1 : (m : Int) < (k5 : Int) := by omega
              have hn0' : (0 : Int) ≤ (nm : Int) := by omega
              have hn1' : (nm : Int) < (nk : Int) := by omega
              rw [← hnm9] at q3
              have x1 : wr.drew.cell? (ad2.add m) = some (.slice r2.A r2.bs.length r2.cap) := q1
              have x2 : wr.drew.cell? (adk.add nm) = some (.slice rk.A r2.bs.length rk.cap) := q3
              clear hcl2 hclk q1 q2 q3 q4 heq hr2 hrk hnm9 hKn hKle
              generalize r2.bs.length = bl at *
              generalize strOf r2.bs = st at *
              go_wp2_with fail
              refine wp_region_still_lit (by kernel_rfl) (by kernel_rfl) ?_
              change wpStill _ _ wr.drew (fun b => _) _ _
              generalize wr.drew = w9 at x1 x2 cv1 cv2 ⊢
              repeat still_step
              refine wpStill_nil ?_
              go_wp2_with fail
              go_roundw
              case rel => exact ⟨m + 1, nm + 1, by omega, by go_num, by go_num, Lib.hid (by have := HNM.out; omega), Lib.hid (bl_step HBU.out (bl_drew (Below.refl _ _)))⟩
              case measure => simp [intOf]; omega
            · obtain rfl : k5 = m := by omega
              have HN9 := Lib.hid (show nm ≤ nk from by have := HNM.out; have := HLE2.out; have := HNK.out; omega)
              have HD11 := Lib.hid (HD10.out.later HBU.out)
              have HG11 : Hid (GI (K.map RowB.bs) nm (headBg ts5) (ts5.map Txt.bs) h') := by rw [HNM.out]; exact HG10
              go_wp2_with fail
              go_roundw
              case rel => exact ⟨j + 1, nm, ((sn + 1) % 2 ^ 5), last2, ts5, hv', h', (by have h1 := HJ.out; have h2 := HL5.out; have h3 := HBF.out; omega), by go_num, by first | rfl | go_num, rfl, HN9.out, HD11, HG11⟩
              case measure => have h1 := HJ.out; simp [intOf]; omega
end Go.Proofs.Ytgdpjaojlhdhdaa
