/-
  TimersAnew: a timer that is started anew has so many ticks left as it is told, whatever it had; stopped it is told by no Tick; cleared none is.
-/
import Derived.Test.YtieokmmejdngcaaOnceKit
import Derived.IntWalk
namespace Go.Proofs.Ytieokmmejdngcaa
open Go.RowKit

/-- one timer alone runs, with x ticks left -/
def alone (k : Nat) (x : Int) : List Int := (List.replicate 8 0).set k x
theorem alone_at {k : Nat} (hk : k < 8) (x : Int) : (alone k x)[k]? = some x := by
  unfold alone
  rw [List.getElem?_set_self (by simpa using hk)]
theorem alone_tick {k : Nat} {x : Int} (hx : 0 < x) : tickL (alone k x) = alone k (x - 1) := by
  unfold tickL alone decT
  rw [List.map_set, if_pos hx]
  congr 1
theorem alone_tell {k : Nat} {x : Int} (hx : 1 < x) : tickE (alone k x) = [] := by
  unfold tickE endF
  rw [List.filter_eq_nil_iff]
  intro i hi h
  obtain ⟨j, hj, rfl, h0⟩ := (mem_runF _ _ _).1 hi
  unfold alone at h h0
  rw [Int.toNat_natCast] at h
  rw [List.getElem?_set] at h h0
  split at h
  · split at h
    · simp at h; omega
    · simp at h
  · rename_i hne
    rw [List.getElem?_replicate, if_pos hj] at h
    simp at h
theorem alone_start {k : Nat} (hk : k < 8) {n : Int} (h1 : 1 ≤ n) (h2 : n ≤ 1000) : SL (List.replicate 8 0) k n = alone k n := by
  unfold SL alone
  rw [inR_of hk, decide_eq_true h1, decide_eq_true h2, Bool.and_self, Bool.and_self, if_pos rfl, Int.toNat_natCast]
theorem clear_run {L : List Int} (h : ∀ x ∈ L, 0 ≤ x ∧ x ≤ 1000) : runF (clearL L) 8 = [] := by
  rw [List.eq_nil_iff_forall_not_mem]
  intro i hi
  obtain ⟨j, hj, rfl, h0⟩ := (mem_runF _ _ _).1 hi
  unfold clearL at h0
  rw [List.getElem?_map] at h0
  cases hx : L[j]? with
  | none => rw [hx] at h0; simp at h0
  | some x =>
    rw [hx] at h0
    have := h x (List.mem_of_getElem? hx)
    simp only [Option.map_some, Option.getD_some] at h0
    split at h0 <;> omega
theorem clear_tell {L : List Int} (h : ∀ x ∈ L, 0 ≤ x ∧ x ≤ 1000) : tickE (clearL L) = [] := by
  unfold tickE
  rw [clear_run h]
  rfl
theorem not_told {L : List Int} {k : Nat} (hk : k < 8) (hx : L[k]? = some 0) : ¬ (k : Int) ∈ tickE L := by
  rw [mem_tickE hk hx]
  omega

set_option maxRecDepth 100000 in
set_option maxHeartbeats 3200000 in
theorem anew_walk (i a b af : Int) (A : Option Addr) (l : List (Int × (Int × Int))) (cap : Nat) (w : World) (hi0 : 0 ≤ i) (hi1 : i < 256) (ha0 : 0 ≤ a) (ha1 : a < 256) (hb0 : 0 ≤ b) (hb1 : b < 256) (hf0 : 0 ≤ af) (hf1 : af < 256) (hs : OSrc w A l) :
    Calls Try.prog 5 #[.int .u8 i, .int .u8 a, .int .u8 b, .int .u8 af, .slice A l.length cap] w fun e w' => e = .returned (.bool true) ∧ Below w.heap.size w w' := by
  have HS := Lib.hid hs
  clear hs
  go_enter Try.func5, Try.ntmps5
  go_wp2_with fail
  refine (new_t _).mono ?_
  rintro e w1 ⟨rfl, h1, hb1⟩
  have H1 := Lib.hid h1
  have HB1 := Lib.hid hb1
  clear h1 hb1
  go_wp2_with fail
  have hk0 : 0 ≤ i % 8 := by omega
  have hk8 : i % 8 < 8 := by omega
  have hn0 : 2 ≤ 2 + a % 32 := by omega
  have hn8 : 2 + a % 32 ≤ 33 := by omega
  have hm0 : 1 ≤ 1 + b % 32 := by omega
  have hm8 : 1 + b % 32 ≤ 32 := by omega
  generalize i % 8 = k at *
  generalize a % 32 = am at *
  generalize 2 + am = n at *
  generalize b % 32 = bm at *
  generalize 1 + bm = m at *
  obtain ⟨k, rfl⟩ : ∃ m : Nat, k = m := ⟨k.toNat, by omega⟩
  obtain ⟨n, rfl⟩ : ∃ m : Nat, n = m := ⟨n.toNat, by omega⟩
  obtain ⟨af, rfl⟩ : ∃ m : Nat, af = m := ⟨af.toNat, by omega⟩
  have HE := Lib.hid (SE_in (k := k) (n := n) (by omega) (by omega) (by omega))
  have HE2 := Lib.hid (SE_in (k := k) (n := m) (by omega) (by omega) (by omega))
  refine (start_t _ _ _ H1.out).mono ?_
  rintro e w2 ⟨rfl, h2, ho2⟩
  rw [HE.out]
  rw [alone_start (by omega) (by omega) (by omega)] at h2
  have HI2 := Lib.hid h2
  have HB2 := Lib.hid (HB1.out.trans (ho2.below HB1.out.size (fun k hk e => by unfold isP at e; omega)))
  clear h2 ho2 H1 HB1
  go_wp2_with fail
  go_loopw [16] (fun jv wr => ∃ (j : Nat), (j : Int) ≤ n - 1 ∧ (j : Int) ≤ af ∧ jv = .int .i64 j ∧ Hid (TRep wr w.heap.size (alone k ((n : Int) - j))) ∧ Hid (Below w.heap.size w wr)) (fun jv _ => n - (intOf jv).toNat)
  case atStart => exact ⟨0, by omega, by omega, rfl, by rw [show (n : Int) - ((0 : Nat) : Int) = n by omega]; exact HI2, HB2⟩
  case round =>
    obtain ⟨j, hjn, hja, rfl, HI, HB⟩ := hrel
    clear HI2 HB2
    by_cases hlt : (j : Int) < af ∧ (j : Int) < n - 1
    · obtain ⟨hlt, hlt3⟩ := hlt
      have hj0 : (0 : Int) ≤ (j : Int) := by omega
      have ht := alone_tick (k := k) (x := (n : Int) - j) (by omega)
      have hl := alone_tell (k := k) (x := (n : Int) - j) (by omega)
      rw [show (n : Int) - j - 1 = n - ((j + 1 : Nat) : Int) by omega] at ht
      have HT := Lib.hid ht
      have HL := Lib.hid hl
      clear ht hl
      go_wp2_with fail
      refine (tick_t _ HI.out).mono ?_
      rintro e w3 ⟨⟨u, rfl, hu⟩, h3, ho3⟩
      rw [HL.out] at hu
      rw [HT.out] at h3
      obtain ⟨UA, rfl, _⟩ := hu.read
      have H3 := Lib.hid h3
      have HB3 := Lib.hid (HB.out.trans (ho3.below HB.out.size (fun k hk e => by unfold isP at e; omega)))
      clear h3 ho3 hu HI HB HT HL
      simp only [List.length_nil]
      go_wp2
      go_roundw
      case rel => exact ⟨j + 1, by omega, by omega, by go_num, H3, HB3⟩
      case measure => simp [intOf]; omega
    · have hw1 : IntKind.i64.wrap ((n : Int) - 1) = (n : Int) - 1 := IntWalk.i64_in _ (by omega)
      have hx : (af : Int) ≤ j ∨ (n : Int) - 1 ≤ j := by omega
      have h8 := HI.out.1
      have HS1 := Lib.hid (SL_same (L := alone k ((n : Int) - j)) (k := k) (n := m) h8 (by omega) hm0 (by omega))
      have HFE := Lib.hid (show FE (k : Int) = 0 by unfold FE; rw [inR_of (by omega)]; rfl)
      clear hlt h8
      rcases Int.lt_or_le (j : Int) af with hjf | hjf
      all_goals
        have hx2 : ¬ ((j : Int) < af ∧ (j : Int) < n - 1) := by omega
        clear hx
        go_wp2_with fail
        refine (start_t _ _ _ HI.out).mono ?_
        rintro e w3 ⟨rfl, h3, ho3⟩
        rw [HE2.out]
        have HV3 := Lib.hid (LV_at (by omega) HS1.out)
        have HP3 := Lib.hid (PL_same h3.1 (by omega : k < 8))
        have H3 := Lib.hid h3
        have HB3 := Lib.hid (HB.out.trans (ho3.below HB.out.size (fun k hk e => by unfold isP at e; omega)))
        clear h3 ho3 HI HB hw1
        have hmm : (m == m) = true := by simp
        go_wp2_with fail
        refine (left_t _ _ H3.out).mono ?_
        rintro e w4 ⟨rfl, rfl⟩
        rw [HV3.out]
        go_wp2_with fail
        refine (stop_t _ _ H3.out).mono ?_
        rintro e w5 ⟨rfl, h5, ho5⟩
        rw [HFE.out]
        have HV5 := Lib.hid (LV_at (by omega) HP3.out)
        have H5 := Lib.hid (And.intro h5 HP3.out)
        have HB5 := Lib.hid (HB3.out.trans (ho5.below HB3.out.size (fun k hk e => by unfold isP at e; omega)))
        clear h5 ho5 H3 HB3 HV3 HP3 HS1 hmm
        go_wp2_with fail
        refine (left_t _ _ H5.out.1).mono ?_
        rintro e w6 ⟨rfl, rfl⟩
        rw [HV5.out]
        clear HV5
        go_wp2_with fail
        go_loopw [18] (fun jv wr => ∃ (j : Nat) (L : List Int), j ≤ l.length ∧ j ≤ 100 ∧ jv = .int .i64 j ∧ Hid (TRep wr w.heap.size L ∧ L[k]? = some 0) ∧ Hid (Below w.heap.size w wr)) (fun jv _ => l.length - (intOf jv).toNat)
        case atStart => exact ⟨0, _, by omega, by omega, rfl, H5, HB5⟩
        case round =>
          obtain ⟨j2, L, hjl, hj1, rfl, HI, HB⟩ := hrel
          clear H5 HB5
          by_cases hlt : j2 < l.length ∧ j2 < 100
          · obtain ⟨hlt, hlt3⟩ := hlt
            obtain ⟨b2, off, K, I, N, rfl, hl, hbw, c0, c1, c2⟩ := src_cell HS.out hlt
            have d0 := kept_box HB.out c0
            have d1 := kept_box HB.out c1
            have d2 := kept_box HB.out c2
            have hj0 : (0 : Int) ≤ (j2 : Int) := by omega
            have hj3 : (j2 : Int) < (l.length : Int) := by omega
            have hj2 : (j2 : Int) < 100 := by omega
            clear c0 c1 c2 hl
            have hcase : (K = 0 ∧ I ≠ k) ∨ ¬ (K = 0 ∧ I ≠ k) := Classical.em _
            have HZ := Lib.hid HI.out.2
            rcases hcase with ⟨hK, hIk⟩ | hno
            · subst hK
              go_wp2_with fail
              go_region_held3 (fun w' => w'.cell? ⟨b2, off + j2 * 3 + 1, none⟩ = some (.int .i64 I) ∧ w'.cell? ⟨b2, off + j2 * 3 + 2, none⟩ = some (.int .i64 N)) (go_keep) (first
                | (go_at_call 11; refine (start_t _ _ _ (show TRep wr.drew w.heap.size L from HI.out.1)).mono ?_; rintro e w7 ⟨rfl, h7, ho7⟩; have H7 := Lib.hid (And.intro h7 (SL_other (L := L) (n := N) hIk)); have HB7 := Lib.hid (HB.out.drew.trans (ho7.below HB.out.size (fun k hk e => by unfold isP at e; omega))); have q0 := cell_only (show wr.drew.cell? _ = _ from d1) ho7 (by unfold isP; omega); have q1 := cell_only (show wr.drew.cell? _ = _ from d2) ho7 (by unfold isP; omega); clear h7 ho7))
              clear q0 q1 d0 d1 d2 HI HB
              have H7' := Lib.hid (show TRep w7 w.heap.size (SL L I N) ∧ (SL L I N)[k]? = some 0 from ⟨H7.out.1, H7.out.2.trans HZ.out⟩)
              clear H7
              go_wp2_with fail
              refine (tick_t _ H7'.out.1).mono ?_
              rintro e w8 ⟨⟨u, rfl, hu⟩, h8, ho8⟩
              have HN := Lib.hid (not_told (by omega) H7'.out.2)
              obtain ⟨UA, rfl, hread⟩ := hu.read
              have HU := Lib.hid hread
              have HI8 := Lib.hid (show TRep w8 w.heap.size (tickL (SL L I N)) ∧ (tickL (SL L I N))[k]? = some 0 from ⟨h8, by rw [tickL_at H7'.out.2]; rfl⟩)
              have HB8 := Lib.hid (HB7.out.trans (ho8.below HB7.out.size (fun k hk e => by unfold isP at e; omega)))
              have hul := tickE_le (SL L I N)
              clear h8 ho8 hu hread H7' HB7
              go_wp2_with fail
              go_loop [20] (fun mv => ∃ m : Nat, m ≤ (tickE (SL L I N)).length ∧ mv = .int .i64 m) (fun mv => (tickE (SL L I N)).length - (intOf mv).toNat)
              case atStart => exact ⟨0, by omega, rfl⟩
              case round =>
                obtain ⟨q, hq, rfl⟩ := hrel
                by_cases hql : q < (tickE (SL L I N)).length
                · obtain ⟨y, hy⟩ : ∃ y, (tickE (SL L I N))[q]? = some y := ⟨_, List.getElem?_eq_getElem hql⟩
                  obtain ⟨g, rfl, _, cy⟩ := HU.out q y hy
                  have hyk : (y == (k : Int)) = false := by
                    simp
                    rintro rfl
                    exact HN.out (List.mem_of_getElem? hy)
                  have hq0 : (0 : Int) ≤ (q : Int) := by omega
                  have hq1 : (q : Int) < ((tickE (SL L I N)).length : Int) := by omega
                  clear hy
                  go_wp2
                  go_round
                  case rel => exact ⟨q + 1, by omega, by go_num⟩
                  case measure => simp [intOf]; omega
                · have hq1 : ¬ (q : Int) < ((tickE (SL L I N)).length : Int) := by omega
                  go_wp2
                  go_roundw
                  case rel => exact ⟨j2 + 1, _, by omega, by omega, by go_num, HI8, HB8⟩
                  case measure => simp [intOf]; omega
            · by_cases hK : K = 0
              · subst hK
                obtain rfl : I = k := Classical.byContradiction fun h => hno ⟨rfl, h⟩
                clear hno
                go_wp2_with fail
                refine (tick_t _ HI.out.1).mono ?_
                rintro e w8 ⟨⟨u, rfl, hu⟩, h8, ho8⟩
                have HN := Lib.hid (not_told (by omega) HI.out.2)
                obtain ⟨UA, rfl, hread⟩ := hu.read
                have HU := Lib.hid hread
                have HI8 := Lib.hid (show TRep w8 w.heap.size (tickL (L)) ∧ (tickL (L))[k]? = some 0 from ⟨h8, by rw [tickL_at HI.out.2]; rfl⟩)
                have HB8 := Lib.hid (HB.out.trans (ho8.below HB.out.size (fun k hk e => by unfold isP at e; omega)))
                have hul := tickE_le (L)
                clear h8 ho8 hu hread HI HB
                go_wp2_with fail
                go_loop [20] (fun mv => ∃ m : Nat, m ≤ (tickE (L)).length ∧ mv = .int .i64 m) (fun mv => (tickE (L)).length - (intOf mv).toNat)
                case atStart => exact ⟨0, by omega, rfl⟩
                case round =>
                  obtain ⟨q, hq, rfl⟩ := hrel
                  by_cases hql : q < (tickE (L)).length
                  · obtain ⟨y, hy⟩ : ∃ y, (tickE (L))[q]? = some y := ⟨_, List.getElem?_eq_getElem hql⟩
                    obtain ⟨g, rfl, _, cy⟩ := HU.out q y hy
                    have hyk : (y == (k : Int)) = false := by
                      simp
                      rintro rfl
                      exact HN.out (List.mem_of_getElem? hy)
                    have hq0 : (0 : Int) ≤ (q : Int) := by omega
                    have hq1 : (q : Int) < ((tickE (L)).length : Int) := by omega
                    clear hy
                    go_wp2
                    go_round
                    case rel => exact ⟨q + 1, by omega, by go_num⟩
                    case measure => simp [intOf]; omega
                  · have hq1 : ¬ (q : Int) < ((tickE (L)).length : Int) := by omega
                    go_wp2
                    go_roundw
                    case rel => exact ⟨j2 + 1, _, by omega, by omega, by go_num, HI8, HB8⟩
                    case measure => simp [intOf]; omega
              · clear hno
                go_wp2_with fail
                refine (tick_t _ HI.out.1).mono ?_
                rintro e w8 ⟨⟨u, rfl, hu⟩, h8, ho8⟩
                have HN := Lib.hid (not_told (by omega) HI.out.2)
                obtain ⟨UA, rfl, hread⟩ := hu.read
                have HU := Lib.hid hread
                have HI8 := Lib.hid (show TRep w8 w.heap.size (tickL (L)) ∧ (tickL (L))[k]? = some 0 from ⟨h8, by rw [tickL_at HI.out.2]; rfl⟩)
                have HB8 := Lib.hid (HB.out.trans (ho8.below HB.out.size (fun k hk e => by unfold isP at e; omega)))
                have hul := tickE_le (L)
                clear h8 ho8 hu hread HI HB
                go_wp2_with fail
                go_loop [20] (fun mv => ∃ m : Nat, m ≤ (tickE (L)).length ∧ mv = .int .i64 m) (fun mv => (tickE (L)).length - (intOf mv).toNat)
                case atStart => exact ⟨0, by omega, rfl⟩
                case round =>
                  obtain ⟨q, hq, rfl⟩ := hrel
                  by_cases hql : q < (tickE (L)).length
                  · obtain ⟨y, hy⟩ : ∃ y, (tickE (L))[q]? = some y := ⟨_, List.getElem?_eq_getElem hql⟩
                    obtain ⟨g, rfl, _, cy⟩ := HU.out q y hy
                    have hyk : (y == (k : Int)) = false := by
                      simp
                      rintro rfl
                      exact HN.out (List.mem_of_getElem? hy)
                    have hq0 : (0 : Int) ≤ (q : Int) := by omega
                    have hq1 : (q : Int) < ((tickE (L)).length : Int) := by omega
                    clear hy
                    go_wp2
                    go_round
                    case rel => exact ⟨q + 1, by omega, by go_num⟩
                    case measure => simp [intOf]; omega
                  · have hq1 : ¬ (q : Int) < ((tickE (L)).length : Int) := by omega
                    go_wp2
                    go_roundw
                    case rel => exact ⟨j2 + 1, _, by omega, by omega, by go_num, HI8, HB8⟩
                    case measure => simp [intOf]; omega
          · have hx3 : l.length ≤ j2 ∨ 100 ≤ j2 := by omega
            clear hlt
            rcases Nat.lt_or_ge j2 l.length with hjl2 | hjl2
            · have h3 : ¬ (j2 : Int) < 100 := by omega
              have h4 : (j2 : Int) < (l.length : Int) := by omega
              clear hx3
              go_wp2_with fail
              refine (clear_t _ HI.out.1).mono ?_
              rintro e w8 ⟨rfl, h8, ho8⟩
              have HR := Lib.hid (clear_run HI.out.1.2.1)
              have HT := Lib.hid (clear_tell HI.out.1.2.1)
              have H8 := Lib.hid h8
              have HB8 := Lib.hid (HB.out.trans (ho8.below HB.out.size (fun k hk e => by unfold isP at e; omega)))
              clear h8 ho8 HI HB
              go_wp2_with (first
                | (go_at_call 22; refine (alive5_any _).mono ?_; rintro e w9 ⟨rfl, hb9⟩; have H9 := Lib.hid (H8.out.later hb9); have HB9 := Lib.hid (bl_step HB8.out hb9); clear hb9)
                | (go_at_call 21; refine (running_t _ H9.out).mono ?_; rintro e w10 ⟨⟨u10, rfl, hu10⟩, hb10⟩; rw [HR.out] at hu10; obtain ⟨A10, rfl, _⟩ := hu10; have H10 := Lib.hid (H9.out.later hb10); have HB10 := Lib.hid (bl_step HB9.out hb10); clear hb10; simp only [List.length_nil])
                | (go_at_call 16; refine (tick_t _ H10.out).mono ?_; rintro e w11 ⟨⟨u11, rfl, hu11⟩, h11, ho11⟩; rw [HT.out] at hu11; obtain ⟨A11, rfl, _⟩ := hu11; have HB11 := Lib.hid (HB10.out.trans (ho11.below HB10.out.size (fun k hk e => by unfold isP at e; omega))); clear h11 ho11; simp only [List.length_nil]))
              go_ret
              exact ⟨rfl, HB11.out⟩
            · have h4 : ¬ (j2 : Int) < (l.length : Int) := by omega
              clear hx3
              go_wp2_with fail
              refine (clear_t _ HI.out.1).mono ?_
              rintro e w8 ⟨rfl, h8, ho8⟩
              have HR := Lib.hid (clear_run HI.out.1.2.1)
              have HT := Lib.hid (clear_tell HI.out.1.2.1)
              have H8 := Lib.hid h8
              have HB8 := Lib.hid (HB.out.trans (ho8.below HB.out.size (fun k hk e => by unfold isP at e; omega)))
              clear h8 ho8 HI HB
              go_wp2_with (first
                | (go_at_call 22; refine (alive5_any _).mono ?_; rintro e w9 ⟨rfl, hb9⟩; have H9 := Lib.hid (H8.out.later hb9); have HB9 := Lib.hid (bl_step HB8.out hb9); clear hb9)
                | (go_at_call 21; refine (running_t _ H9.out).mono ?_; rintro e w10 ⟨⟨u10, rfl, hu10⟩, hb10⟩; rw [HR.out] at hu10; obtain ⟨A10, rfl, _⟩ := hu10; have H10 := Lib.hid (H9.out.later hb10); have HB10 := Lib.hid (bl_step HB9.out hb10); clear hb10; simp only [List.length_nil])
                | (go_at_call 16; refine (tick_t _ H10.out).mono ?_; rintro e w11 ⟨⟨u11, rfl, hu11⟩, h11, ho11⟩; rw [HT.out] at hu11; obtain ⟨A11, rfl, _⟩ := hu11; have HB11 := Lib.hid (HB10.out.trans (ho11.below HB10.out.size (fun k hk e => by unfold isP at e; omega))); clear h11 ho11; simp only [List.length_nil]))
              go_ret
              exact ⟨rfl, HB11.out⟩
end Go.Proofs.Ytieokmmejdngcaa
