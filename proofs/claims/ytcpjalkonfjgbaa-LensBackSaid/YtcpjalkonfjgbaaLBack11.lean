/-
  LensBack, of lengths of 11 bits: the law walked.
-/
import Derived.Test.YtcpjalkonfjgbaaLBackK
namespace Go.Proofs.Ytcpjalkonfjgbaa
open Go.RowKit

set_option maxRecDepth 100000 in
set_option maxHeartbeats 6400000 in
theorem back_good_11 (A A2 A3 : Option Addr) (l : List Int) (ds bs : List Nat) (n n2 n3 cap cap2 cap3 : Nat) (w : World) (hn : l.length = n) (hn2 : ds.length = n2) (h2 : n2 ≤ 100) (hn3 : bs.length = n3) (h3 : n3 ≤ 200) (hc3 : n3 ≤ cap3) (hs : Src w A (ins l)) (hs2 : Src w A2 (bts ds)) (hs3 : Src w A3 (bts bs)) (hd : ∀ b ∈ ds, b < 256) (hb : ∀ b ∈ bs, b < 256)
    (hf0 : faultF l 11 = 0) :
    Calls Try.prog 8 #[.slice A n cap, .int .i64 11, .slice A2 n2 cap2, .slice A3 n3 cap3] w fun e w' => e = .returned (.bool true) ∧ Below w.heap.size w w' := by
  obtain ⟨q1, q2, q3, q4⟩ := fault_zero hf0
  rw [hn] at q1 q2
  obtain ⟨i0, hi, hi0, hi1, hi2⟩ := info5_parts
  obtain ⟨f, gE, k, S, hfk, hra⟩ := read_again (bs := bs) 11 n3 hn3 (by omega) hb
  have hL : (l.map Int.toNat).length = n := by rw [List.length_map]; exact hn
  have hLc : (l.map Int.toNat).map (fun n : Nat => (n : Int)) = l := by
    have h9 : insN (l.map Int.toNat) = ins l := q4
    unfold insN ins at h9
    exact List.map_inj_right (f := fun x : Int => Value.int .i64 x) (fun a b h => by injection h) |>.1 h9
  have hwr := write_ok_11 (L := l.map Int.toNat) n cap w hL q1 q2 q3 (by rw [q4]; exact hs)
  have hrb := read_back (w := 11) (l := l.map Int.toNat) (z := ds) (by intro h; rw [h] at hL; simp at hL; omega) (by omega) q3
  rw [hL] at hrb
  have hpl : (pack (wbl 11 (l.map Int.toNat))).length = packLen (n * (11 + 1)) := by rw [length_pack, length_wbl, hL]
  have hps := pack_small (wbl 11 (l.map Int.toNat))
  have hKb : packLen (n * (11 + 1)) ≤ 60 ∧ 0 < packLen (n * (11 + 1)) := by unfold packLen; omega
  generalize hLn : l.map Int.toNat = L at *
  generalize hpk : pack (wbl 11 L) = pk at *
  generalize packLen (n * (11 + 1)) = K at *
  have HRA := Lib.hid hra
  have HFK := Lib.hid hfk
  have HS := Lib.hid hs
  have HS2 := Lib.hid hs2
  have HS3 := Lib.hid hs3
  have HC3 := Lib.hid hc3
  have HWR := Lib.hid hwr
  have HRB := Lib.hid hrb
  have HPL := Lib.hid hpl
  have HPS := Lib.hid (And.intro hps hd)
  have HN := Lib.hid hn
  have HN2 := Lib.hid hn2
  have HLC := Lib.hid hLc
  obtain ⟨hK1, hK2⟩ := hKb
  have h1' : ¬ (60 : Int) < (n : Int) := by omega
  have h2' : ¬ (100 : Int) < (n2 : Int) := by omega
  have h3' : ¬ (200 : Int) < (n3 : Int) := by omega
  clear hra hfk hs hs2 hs3 hc3 hwr hrb hpl hps hd hb hn hn2 hn3 hLc hLn hpk q3 q4 hf0 hL
  rcases Nat.eq_zero_or_pos n2 with hz | hz
  · subst hz
    have HDS := Lib.hid (List.eq_nil_of_length_eq_zero HN2.out)
    go_enter Try.func8, Try.ntmps8
    go_wp2_with (first
        | (go_at_call 19; (with_reducible refine HWR.out.mono ?_); rintro e w1 ⟨g1, rfl, hg1, hr1, hb1⟩; have HR1 := Lib.hid hr1; have HB1 := Lib.hid hb1; have hs1 := hb1.size; clear hr1 hb1)
        | (at_builtin; refine wpList_append_lies _ rfl _ _ _ (by rfl) w.heap.size 5 i0 (.int .u8 0) 1 1 Try.underlying23 hi hi0 hi1 hi2 rfl (by omega) (.slice (some ⟨w1.heap.size, 0, none⟩) 0 0) 0 [] (by rfl) (own_empty w1 hs1) ⟨g1, 0, none⟩ K K (bts pk) (by rfl) (by rw [length_bts, HPL.out, Nat.mul_one]) (row_cells (HR1.out.more _)) (bts_one pk) hK2 (by unfold maxLen; omega) (by omega) (by simp; omega) (w1.heap.size + 1) (by simp) ?_))
    intro g2 c2 w2 hown2 hgrow2 hgg2 _
    have hg2B : w.heap.size ≤ g2 := (hown2.lt g2 rfl).1
    have HB2 := Lib.hid ((HB1.out.alloc hs1 _).grown hgrow2 (by simp; omega) (fun r hr => by
      have e9 : w1.heap.size = r := by simpa [Value.ownBlock] using hr
      omega))
    have HO2 := Lib.hid (show w2.ownsRow w.heap.size 5 1 (.slice (some ⟨g2, 0, none⟩) K c2) K (bts pk) by simpa using hown2)
    have hKc : K ≤ c2 := own_cap HO2.out
    have HR := Lib.hid (read_11 (bs := pk ++ ds) K c2 w2 (by rw [List.length_append, HPL.out, HN2.out]; rfl) (by omega) hKc (by rw [HDS.out, List.append_nil]; exact src_own HO2.out) (fun b hx => by rw [HDS.out, List.append_nil] at hx; exact HPS.out.1 b hx))
    clear hown2 hgrow2 hgg2
    go_wp2_with (first
        | (at_builtin; refine wpList_append_zero _ rfl _ _ _ (by rfl) 5 i0 Try.underlying23 hi (some ⟨g2, 0, none⟩) K c2 (by rfl) A2 cap2 (by rfl) hKc ?_)
        | (go_at_call 23; (with_reducible refine (rd_back HR.out HRB.out HLC.out HN.out).mono ?_); rintro e w3 ⟨Am0, rfl, hb3, hm3⟩; have HB3 := Lib.hid (bl_step HB2.out hb3); have HM3 := Lib.hid hm3; clear hb3 hm3)
        | (go_at_call 25; refine (same_yes n cap n w3 HN.out (by omega) (src_laterV HS.out HB3.out) HM3.out).mono ?_; rintro e w4 ⟨rfl, hb4⟩; have HB4 := Lib.hid (bl_step HB3.out hb4); clear hb4)
        | (go_at_call 23; (with_reducible refine (HRA.out w4 A3 cap3 HC3.out (src_laterV HS3.out HB4.out)).mono ?_); rintro e w5 ⟨Am, lm, cm, rfl, hb5, hwr, hcv⟩; have HB5 := Lib.hid (bl_step HB4.out hb5); have HWR := Lib.hid hwr; have HCV := Lib.hid (And.intro hb5 hcv); clear hb5 hwr hcv)
        | (go_at_call 19; (with_reducible refine (HWR.out w5 (Below.refl _ _)).mono ?_); rintro e w6 ⟨Ay, ky, cy, rfl, hb6, hcw⟩; have HB6 := Lib.hid (bl_step HB5.out hb6); have HCW := Lib.hid (And.intro hb6 hcw); clear hb6 hcw))
    by_cases hf : f = 0
    · subst hf
      obtain ⟨hg, hk⟩ := HFK.out rfl
      subst hg
      have hkI : (k : Int) ≤ (n3 : Int) := by omega
      have hkd : decide ((k : Int) ≤ (n3 : Int)) = true := decide_eq_true hkI
      have hkc : k ≤ cap3 := by have := HC3.out; omega
      have hk0 : (0 : Int) ≤ (k : Int) := by omega
      have hcv1 : ∀ W, Below w6.heap.size w6 W → (convert 23 9 (.slice Ay ky cy)).run Try.prog W = .ok (.string S) W := HCW.out.2 rfl
      have hcv2 : ∀ W, Below w6.heap.size w6 W → (convert 23 9 (.slice A3 k cap3)).run Try.prog W = .ok (.string S) W := fun W hW => HCV.out.2 rfl W (bl_step HCV.out.1 (bl_step HCW.out.1 hW))
      have d1 := hcv1 w6.drew (bl_drew (Below.refl _ _))
      have d2 := hcv2 w6.drew (bl_drew (Below.refl _ _))
      have HV1 := Lib.hid hcv1
      have HV2 := Lib.hid hcv2
      clear hcv1 hcv2
      go_region_held3 (fun w' => (convert 23 9 (.slice Ay ky cy)).run Try.prog w' = .ok (.string S) w' ∧ (convert 23 9 (.slice A3 k cap3)).run Try.prog w' = .ok (.string S) w') (go_keep) (first
        | (go_at_call 18; (with_reducible refine (lalive_any _).mono ?_); rintro e v1 ⟨rfl, hv1⟩; have HW := Lib.hid (bl_step (bl_drew (Below.refl w6.heap.size w6)) hv1); have e1 := HV1.out v1 HW.out; have e2 := HV2.out v1 HW.out))
      go_wp2
      go_ret
      exact ⟨rfl, bl_step HB6.out HW.out⟩
    · have hfd : (f != 0) = true := by simpa using hf
      clear hf
      refine wp_of_frame [none, none, none, none, none, none, none, none, none, none, none, none, none, none, none, none, some (.int .i64 f), none, none, none, none, none, none, none, none, none, none, none, none, none, none, none, none, none, none, none, none, none, none, none, none, none, none, none, none, none, none, none, none, none, none, none, none, none, none, none, none, none, none, none, none, none, none, none, none, none, none, none, none, none, none, none, none, none, none, none, none, none, none, none, none, none, none, none, none, none, none, none, none, none, none, none, none, none, none, none, none, none, none, none, none, none, none] (by
        simp only [Fr, Holes]
        repeat apply Exists.intro
        rfl) ?_
      intro a' hfr
      simp only [Fr, Holes] at hfr
      repeat (obtain ⟨_, hfr⟩ := hfr)
      refine wp_region_noPanic ?_
      refine wp_region_held_drew (S := fun W => Below w6.heap.size w6 W) (by kernel_rfl) (bl_drew (Below.refl _ _)) (fun hS => ?_)
      refine wpAnyH_ready (rs := [0]) (by kernel_rfl) (by simp) ?_
      refine AllReadyH.cons rfl (fun K hK => ?_) AllReadyH.nil
      go_simp
      refine (lalive_any _).mono ?_
      rintro e v1 ⟨rfl, hv1⟩
      try go_simp
      refine hK.out _ _ (bl_step hS hv1) (fun hS => ?_)
      clear hK K
      try simp only [Act.put, List.setIfInBounds_toArray, List.set_cons_zero, List.set_cons_succ]
      have hBv1 : Below w6.heap.size w6 v1 := hS
      refine wpAnyH_more (S' := fun W => Below v1.heap.size v1 W) ?_ (fun _ h => bl_step hBv1 h)
      clear hS
      have hS : (fun W => Below v1.heap.size v1 W) v1 := Below.refl _ _
      refine take_at 1 80 (v := ?v1) (by simp only [List.getElem?_toArray, List.getElem?_cons_succ, List.getElem?_cons_zero]; rfl) rfl (by kernel_rfl) (by kernel_rfl) (by kernel_rfl) (fun _ _ _ h => h) (Or.inl ⟨by rfl, ?y1⟩) hS ?_
      case y1 =>
        intro W hSW
        (try dsimp only at hSW)
        go_simp
        first | done | with_reducible rfl
      simp only [Act.put, List.setIfInBounds_toArray, List.set_cons_zero, List.set_cons_succ]
      refine take_at 2 81 (v := ?v2) (by simp only [List.getElem?_toArray, List.getElem?_cons_succ, List.getElem?_cons_zero]; rfl) rfl (by kernel_rfl) (by kernel_rfl) (by kernel_rfl) (fun _ _ _ h => h) (Or.inl ⟨by rfl, ?y2⟩) hS ?_
      case y2 =>
        intro W hSW
        (try dsimp only at hSW)
        go_simp
        first | done | with_reducible rfl
      simp only [Act.put, List.setIfInBounds_toArray, List.set_cons_zero, List.set_cons_succ]
      refine take_at 3 82 (v := ?v3) (by simp only [List.getElem?_toArray, List.getElem?_cons_succ, List.getElem?_cons_zero]; rfl) rfl (by kernel_rfl) (by kernel_rfl) (by kernel_rfl) (fun _ _ _ h => h) (Or.inl ⟨by rfl, ?y3⟩) hS ?_
      case y3 =>
        intro W hSW
        (try dsimp only at hSW)
        go_simp
        first | done | with_reducible rfl
      simp only [Act.put, List.setIfInBounds_toArray, List.set_cons_zero, List.set_cons_succ]
      refine take_at 4 83 (v := ?v4) (by simp only [List.getElem?_toArray, List.getElem?_cons_succ, List.getElem?_cons_zero]; rfl) rfl (by kernel_rfl) (by kernel_rfl) (by kernel_rfl) (fun _ _ _ h => h) (Or.inl ⟨by rfl, ?y4⟩) hS ?_
      case y4 =>
        intro W hSW
        (try dsimp only at hSW)
        go_simp
        first | done | with_reducible rfl
      simp only [Act.put, List.setIfInBounds_toArray, List.set_cons_zero, List.set_cons_succ]
      refine take_at 5 84 (v := undef) (by simp only [List.getElem?_toArray, List.getElem?_cons_succ, List.getElem?_cons_zero]; rfl) rfl (by kernel_rfl) (by kernel_rfl) (by kernel_rfl) (fun _ _ _ h => h) (Or.inr ⟨by rfl, rfl⟩) hS ?_
      simp only [Act.put, List.setIfInBounds_toArray, List.set_cons_zero, List.set_cons_succ]
      refine take_at 6 85 (v := undef) (by simp only [List.getElem?_toArray, List.getElem?_cons_succ, List.getElem?_cons_zero]; rfl) rfl (by kernel_rfl) (by kernel_rfl) (by kernel_rfl) (fun _ _ _ h => h) (Or.inr ⟨by rfl, rfl⟩) hS ?_
      simp only [Act.put, List.setIfInBounds_toArray, List.set_cons_zero, List.set_cons_succ]
      refine take_at 7 86 (v := undef) (by simp only [List.getElem?_toArray, List.getElem?_cons_succ, List.getElem?_cons_zero]; rfl) rfl (by kernel_rfl) (by kernel_rfl) (by kernel_rfl) (fun _ _ _ h => h) (Or.inr ⟨by rfl, rfl⟩) hS ?_
      simp only [Act.put, List.setIfInBounds_toArray, List.set_cons_zero, List.set_cons_succ]
      refine take_at 8 87 (v := undef) (by simp only [List.getElem?_toArray, List.getElem?_cons_succ, List.getElem?_cons_zero]; rfl) rfl (by kernel_rfl) (by kernel_rfl) (by kernel_rfl) (fun _ _ _ h => h) (Or.inr ⟨by rfl, rfl⟩) hS ?_
      simp only [Act.put, List.setIfInBounds_toArray, List.set_cons_zero, List.set_cons_succ]
      refine take_at 9 88 (v := undef) (by simp only [List.getElem?_toArray, List.getElem?_cons_succ, List.getElem?_cons_zero]; rfl) rfl (by kernel_rfl) (by kernel_rfl) (by kernel_rfl) (fun _ _ _ h => h) (Or.inr ⟨by rfl, rfl⟩) hS ?_
      simp only [Act.put, List.setIfInBounds_toArray, List.set_cons_zero, List.set_cons_succ]
      refine take_at 10 89 (v := undef) (by simp only [List.getElem?_toArray, List.getElem?_cons_succ, List.getElem?_cons_zero]; rfl) rfl (by kernel_rfl) (by kernel_rfl) (by kernel_rfl) (fun _ _ _ h => h) (Or.inr ⟨by rfl, rfl⟩) hS ?_
      simp only [Act.put, List.setIfInBounds_toArray, List.set_cons_zero, List.set_cons_succ]
      refine take_at 11 90 (v := undef) (by simp only [List.getElem?_toArray, List.getElem?_cons_succ, List.getElem?_cons_zero]; rfl) rfl (by kernel_rfl) (by kernel_rfl) (by kernel_rfl) (fun _ _ _ h => h) (Or.inr ⟨by rfl, rfl⟩) hS ?_
      simp only [Act.put, List.setIfInBounds_toArray, List.set_cons_zero, List.set_cons_succ]
      refine take_at 12 91 (v := undef) (by simp only [List.getElem?_toArray, List.getElem?_cons_succ, List.getElem?_cons_zero]; rfl) rfl (by kernel_rfl) (by kernel_rfl) (by kernel_rfl) (fun _ _ _ h => h) (Or.inr ⟨by rfl, rfl⟩) hS ?_
      simp only [Act.put, List.setIfInBounds_toArray, List.set_cons_zero, List.set_cons_succ]
      refine take_at 13 92 (v := undef) (by simp only [List.getElem?_toArray, List.getElem?_cons_succ, List.getElem?_cons_zero]; rfl) rfl (by kernel_rfl) (by kernel_rfl) (by kernel_rfl) (fun _ _ _ h => h) (Or.inr ⟨by rfl, rfl⟩) hS ?_
      simp only [Act.put, List.setIfInBounds_toArray, List.set_cons_zero, List.set_cons_succ]
      refine take_at 14 93 (v := undef) (by simp only [List.getElem?_toArray, List.getElem?_cons_succ, List.getElem?_cons_zero]; rfl) rfl (by kernel_rfl) (by kernel_rfl) (by kernel_rfl) (fun _ _ _ h => h) (Or.inr ⟨by rfl, rfl⟩) hS ?_
      simp only [Act.put, List.setIfInBounds_toArray, List.set_cons_zero, List.set_cons_succ]
      refine take_at 15 94 (v := undef) (by simp only [List.getElem?_toArray, List.getElem?_cons_succ, List.getElem?_cons_zero]; rfl) rfl (by kernel_rfl) (by kernel_rfl) (by kernel_rfl) (fun _ _ _ h => h) (Or.inr ⟨by rfl, rfl⟩) hS ?_
      simp only [Act.put, List.setIfInBounds_toArray, List.set_cons_zero, List.set_cons_succ]
      refine take_at 16 95 (v := undef) (by simp only [List.getElem?_toArray, List.getElem?_cons_succ, List.getElem?_cons_zero]; rfl) rfl (by kernel_rfl) (by kernel_rfl) (by kernel_rfl) (fun _ _ _ h => h) (Or.inr ⟨by rfl, rfl⟩) hS ?_
      simp only [Act.put, List.setIfInBounds_toArray, List.set_cons_zero, List.set_cons_succ]
      refine take_at 17 96 (v := undef) (by simp only [List.getElem?_toArray, List.getElem?_cons_succ, List.getElem?_cons_zero]; rfl) rfl (by kernel_rfl) (by kernel_rfl) (by kernel_rfl) (fun _ _ _ h => h) (Or.inr ⟨by rfl, rfl⟩) hS ?_
      simp only [Act.put, List.setIfInBounds_toArray, List.set_cons_zero, List.set_cons_succ]
      refine take_at 18 97 (v := undef) (by simp only [List.getElem?_toArray, List.getElem?_cons_succ, List.getElem?_cons_zero]; rfl) rfl (by kernel_rfl) (by kernel_rfl) (by kernel_rfl) (fun _ _ _ h => h) (Or.inr ⟨by rfl, rfl⟩) hS ?_
      simp only [Act.put, List.setIfInBounds_toArray, List.set_cons_zero, List.set_cons_succ]
      refine take_at 19 98 (v := undef) (by simp only [List.getElem?_toArray, List.getElem?_cons_succ, List.getElem?_cons_zero]; rfl) rfl (by kernel_rfl) (by kernel_rfl) (by kernel_rfl) (fun _ _ _ h => h) (Or.inr ⟨by rfl, rfl⟩) hS ?_
      simp only [Act.put, List.setIfInBounds_toArray, List.set_cons_zero, List.set_cons_succ]
      refine take_at 20 99 (v := undef) (by simp only [List.getElem?_toArray, List.getElem?_cons_succ, List.getElem?_cons_zero]; rfl) rfl (by kernel_rfl) (by kernel_rfl) (by kernel_rfl) (fun _ _ _ h => h) (Or.inr ⟨by rfl, rfl⟩) hS ?_
      simp only [Act.put, List.setIfInBounds_toArray, List.set_cons_zero, List.set_cons_succ]
      refine take_at 21 100 (v := undef) (by simp only [List.getElem?_toArray, List.getElem?_cons_succ, List.getElem?_cons_zero]; rfl) rfl (by kernel_rfl) (by kernel_rfl) (by kernel_rfl) (fun _ _ _ h => h) (Or.inr ⟨by rfl, rfl⟩) hS ?_
      simp only [Act.put, List.setIfInBounds_toArray, List.set_cons_zero, List.set_cons_succ]
      refine take_at 22 101 (v := ?v22) (by simp only [List.getElem?_toArray, List.getElem?_cons_succ, List.getElem?_cons_zero]; rfl) rfl (by kernel_rfl) (by kernel_rfl) (by kernel_rfl) (fun _ _ _ h => h) (Or.inl ⟨by rfl, ?y22⟩) hS ?_
      case y22 =>
        intro W hSW
        (try dsimp only at hSW)
        go_simp
        first | done | with_reducible rfl
      simp only [Act.put, List.setIfInBounds_toArray, List.set_cons_zero, List.set_cons_succ]
      refine take_at 23 102 (v := ?v23) (by simp only [List.getElem?_toArray, List.getElem?_cons_succ, List.getElem?_cons_zero]; rfl) rfl (by kernel_rfl) (by kernel_rfl) (by kernel_rfl) (fun _ _ _ h => h) (Or.inl ⟨by rfl, ?y23⟩) hS ?_
      case y23 =>
        intro W hSW
        (try dsimp only at hSW)
        go_simp
        first | done | with_reducible rfl
      simp only [Act.put, List.setIfInBounds_toArray, List.set_cons_zero, List.set_cons_succ]
      refine take_at 24 8 (v := ?v24) (by simp only [List.getElem?_toArray, List.getElem?_cons_succ, List.getElem?_cons_zero]; rfl) rfl (by kernel_rfl) (by kernel_rfl) (by kernel_rfl) (fun _ _ _ h => h) (Or.inl ⟨by rfl, ?y24⟩) hS ?_
      case y24 =>
        intro W hSW
        (try dsimp only at hSW)
        go_simp
        first | done | with_reducible rfl
      simp only [Act.put, List.setIfInBounds_toArray, List.set_cons_zero, List.set_cons_succ]
      refine wpAnyH_done (by kernel_rfl) ?_ _
      refine NoPanic.normal ?_
      go_wp2_with fail
      go_ret
      exact ⟨rfl, bl_step HB6.out hBv1⟩
  · obtain ⟨ad2, rfl, hcc⟩ := HS2.out (by rw [length_bts, HN2.out]; exact hz)
    have HC2 := Lib.hid hcc
    clear hcc
    go_enter Try.func8, Try.ntmps8
    go_wp2_with (first
        | (go_at_call 19; (with_reducible refine HWR.out.mono ?_); rintro e w1 ⟨g1, rfl, hg1, hr1, hb1⟩; have HR1 := Lib.hid hr1; have HB1 := Lib.hid hb1; have hs1 := hb1.size; clear hr1 hb1)
        | (at_builtin; refine wpList_append_lies _ rfl _ _ _ (by rfl) w.heap.size 5 i0 (.int .u8 0) 1 1 Try.underlying23 hi hi0 hi1 hi2 rfl (by omega) (.slice (some ⟨w1.heap.size, 0, none⟩) 0 0) 0 [] (by rfl) (own_empty w1 hs1) ⟨g1, 0, none⟩ K K (bts pk) (by rfl) (by rw [length_bts, HPL.out, Nat.mul_one]) (row_cells (HR1.out.more _)) (bts_one pk) hK2 (by unfold maxLen; omega) (by omega) (by simp; omega) (w1.heap.size + 1) (by simp) ?_))
    intro g2 c2 w2 hown2 hgrow2 hgg2 _
    have hg2B : w.heap.size ≤ g2 := (hown2.lt g2 rfl).1
    have HB2 := Lib.hid ((HB1.out.alloc hs1 _).grown hgrow2 (by simp; omega) (fun r hr => by
      have e9 : w1.heap.size = r := by simpa [Value.ownBlock] using hr
      omega))
    have HO2 := Lib.hid (show w2.ownsRow w.heap.size 5 1 (.slice (some ⟨g2, 0, none⟩) K c2) K (bts pk) by simpa using hown2)
    have hKc : K ≤ c2 := own_cap HO2.out
    have HS2D := Lib.hid (fun j u (hu : (bts ds)[j]? = some u) => cell_below HB2.out (HC2.out j u hu))
    clear hown2 hgrow2 hgg2
    go_wp2_with (at_builtin; refine wpList_append_lies _ rfl _ _ _ (by rfl) w.heap.size 5 i0 (.int .u8 0) 1 1 Try.underlying23 hi hi0 hi1 hi2 rfl (by omega) (.slice (some ⟨g2, 0, none⟩) K c2) K _ (by rfl) HO2.out ad2 n2 cap2 (bts ds) (by rfl) (by rw [length_bts, HN2.out, Nat.mul_one]) (HS2D.out) (bts_one ds) hz (by unfold maxLen; omega) (by omega) HB2.out.size w2.heap.size rfl ?_)
    intro g3 c3 w3' hown3 hgrow3 _ _
    have HB3' := Lib.hid (HB2.out.grown hgrow3 HB2.out.size (fun r hr => (HO2.out.lt r hr).1))
    have HO3 := Lib.hid (show w3'.ownsRow w.heap.size 5 1 (.slice (some ⟨g3, 0, none⟩) (K + n2) c3) (K + n2) (bts (pk ++ ds)) by rw [bts_append]; exact hown3)
    have hKc3 : K + n2 ≤ c3 := own_cap HO3.out
    have HR := Lib.hid (read_11 (bs := pk ++ ds) (K + n2) c3 w3' (by rw [List.length_append, HPL.out, HN2.out]) (by omega) hKc3 (src_own HO3.out) (fun b hx => by
      rcases List.mem_append.1 hx with h | h
      · exact HPS.out.1 b h
      · exact HPS.out.2 b h))
    clear hown3 hgrow3
    go_wp2_with (first
        | (go_at_call 23; (with_reducible refine (rd_back HR.out HRB.out HLC.out HN.out).mono ?_); rintro e w3 ⟨Am0, rfl, hb3, hm3⟩; have HB3 := Lib.hid (bl_step HB3'.out hb3); have HM3 := Lib.hid hm3; clear hb3 hm3)
        | (go_at_call 25; refine (same_yes n cap n w3 HN.out (by omega) (src_laterV HS.out HB3.out) HM3.out).mono ?_; rintro e w4 ⟨rfl, hb4⟩; have HB4 := Lib.hid (bl_step HB3.out hb4); clear hb4)
        | (go_at_call 23; (with_reducible refine (HRA.out w4 A3 cap3 HC3.out (src_laterV HS3.out HB4.out)).mono ?_); rintro e w5 ⟨Am, lm, cm, rfl, hb5, hwr, hcv⟩; have HB5 := Lib.hid (bl_step HB4.out hb5); have HWR := Lib.hid hwr; have HCV := Lib.hid (And.intro hb5 hcv); clear hb5 hwr hcv)
        | (go_at_call 19; (with_reducible refine (HWR.out w5 (Below.refl _ _)).mono ?_); rintro e w6 ⟨Ay, ky, cy, rfl, hb6, hcw⟩; have HB6 := Lib.hid (bl_step HB5.out hb6); have HCW := Lib.hid (And.intro hb6 hcw); clear hb6 hcw))
    by_cases hf : f = 0
    · subst hf
      obtain ⟨hg, hk⟩ := HFK.out rfl
      subst hg
      have hkI : (k : Int) ≤ (n3 : Int) := by omega
      have hkd : decide ((k : Int) ≤ (n3 : Int)) = true := decide_eq_true hkI
      have hkc : k ≤ cap3 := by have := HC3.out; omega
      have hk0 : (0 : Int) ≤ (k : Int) := by omega
      have hcv1 : ∀ W, Below w6.heap.size w6 W → (convert 23 9 (.slice Ay ky cy)).run Try.prog W = .ok (.string S) W := HCW.out.2 rfl
      have hcv2 : ∀ W, Below w6.heap.size w6 W → (convert 23 9 (.slice A3 k cap3)).run Try.prog W = .ok (.string S) W := fun W hW => HCV.out.2 rfl W (bl_step HCV.out.1 (bl_step HCW.out.1 hW))
      have d1 := hcv1 w6.drew (bl_drew (Below.refl _ _))
      have d2 := hcv2 w6.drew (bl_drew (Below.refl _ _))
      have HV1 := Lib.hid hcv1
      have HV2 := Lib.hid hcv2
      clear hcv1 hcv2
      go_region_held3 (fun w' => (convert 23 9 (.slice Ay ky cy)).run Try.prog w' = .ok (.string S) w' ∧ (convert 23 9 (.slice A3 k cap3)).run Try.prog w' = .ok (.string S) w') (go_keep) (first
        | (go_at_call 18; (with_reducible refine (lalive_any _).mono ?_); rintro e v1 ⟨rfl, hv1⟩; have HW := Lib.hid (bl_step (bl_drew (Below.refl w6.heap.size w6)) hv1); have e1 := HV1.out v1 HW.out; have e2 := HV2.out v1 HW.out))
      go_wp2
      go_ret
      exact ⟨rfl, bl_step HB6.out HW.out⟩
    · have hfd : (f != 0) = true := by simpa using hf
      clear hf
      refine wp_of_frame [none, none, none, none, none, none, none, none, none, none, none, none, none, none, none, none, some (.int .i64 f), none, none, none, none, none, none, none, none, none, none, none, none, none, none, none, none, none, none, none, none, none, none, none, none, none, none, none, none, none, none, none, none, none, none, none, none, none, none, none, none, none, none, none, none, none, none, none, none, none, none, none, none, none, none, none, none, none, none, none, none, none, none, none, none, none, none, none, none, none, none, none, none, none, none, none, none, none, none, none, none, none, none, none, none, none, none] (by
        simp only [Fr, Holes]
        repeat apply Exists.intro
        rfl) ?_
      intro a' hfr
      simp only [Fr, Holes] at hfr
      repeat (obtain ⟨_, hfr⟩ := hfr)
      refine wp_region_noPanic ?_
      refine wp_region_held_drew (S := fun W => Below w6.heap.size w6 W) (by kernel_rfl) (bl_drew (Below.refl _ _)) (fun hS => ?_)
      refine wpAnyH_ready (rs := [0]) (by kernel_rfl) (by simp) ?_
      refine AllReadyH.cons rfl (fun K hK => ?_) AllReadyH.nil
      go_simp
      refine (lalive_any _).mono ?_
      rintro e v1 ⟨rfl, hv1⟩
      try go_simp
      refine hK.out _ _ (bl_step hS hv1) (fun hS => ?_)
      clear hK K
      try simp only [Act.put, List.setIfInBounds_toArray, List.set_cons_zero, List.set_cons_succ]
      have hBv1 : Below w6.heap.size w6 v1 := hS
      refine wpAnyH_more (S' := fun W => Below v1.heap.size v1 W) ?_ (fun _ h => bl_step hBv1 h)
      clear hS
      have hS : (fun W => Below v1.heap.size v1 W) v1 := Below.refl _ _
      refine take_at 1 80 (v := ?v1) (by simp only [List.getElem?_toArray, List.getElem?_cons_succ, List.getElem?_cons_zero]; rfl) rfl (by kernel_rfl) (by kernel_rfl) (by kernel_rfl) (fun _ _ _ h => h) (Or.inl ⟨by rfl, ?y1⟩) hS ?_
      case y1 =>
        intro W hSW
        (try dsimp only at hSW)
        go_simp
        first | done | with_reducible rfl
      simp only [Act.put, List.setIfInBounds_toArray, List.set_cons_zero, List.set_cons_succ]
      refine take_at 2 81 (v := ?v2) (by simp only [List.getElem?_toArray, List.getElem?_cons_succ, List.getElem?_cons_zero]; rfl) rfl (by kernel_rfl) (by kernel_rfl) (by kernel_rfl) (fun _ _ _ h => h) (Or.inl ⟨by rfl, ?y2⟩) hS ?_
      case y2 =>
        intro W hSW
        (try dsimp only at hSW)
        go_simp
        first | done | with_reducible rfl
      simp only [Act.put, List.setIfInBounds_toArray, List.set_cons_zero, List.set_cons_succ]
      refine take_at 3 82 (v := ?v3) (by simp only [List.getElem?_toArray, List.getElem?_cons_succ, List.getElem?_cons_zero]; rfl) rfl (by kernel_rfl) (by kernel_rfl) (by kernel_rfl) (fun _ _ _ h => h) (Or.inl ⟨by rfl, ?y3⟩) hS ?_
      case y3 =>
        intro W hSW
        (try dsimp only at hSW)
        go_simp
        first | done | with_reducible rfl
      simp only [Act.put, List.setIfInBounds_toArray, List.set_cons_zero, List.set_cons_succ]
      refine take_at 4 83 (v := ?v4) (by simp only [List.getElem?_toArray, List.getElem?_cons_succ, List.getElem?_cons_zero]; rfl) rfl (by kernel_rfl) (by kernel_rfl) (by kernel_rfl) (fun _ _ _ h => h) (Or.inl ⟨by rfl, ?y4⟩) hS ?_
      case y4 =>
        intro W hSW
        (try dsimp only at hSW)
        go_simp
        first | done | with_reducible rfl
      simp only [Act.put, List.setIfInBounds_toArray, List.set_cons_zero, List.set_cons_succ]
      refine take_at 5 84 (v := undef) (by simp only [List.getElem?_toArray, List.getElem?_cons_succ, List.getElem?_cons_zero]; rfl) rfl (by kernel_rfl) (by kernel_rfl) (by kernel_rfl) (fun _ _ _ h => h) (Or.inr ⟨by rfl, rfl⟩) hS ?_
      simp only [Act.put, List.setIfInBounds_toArray, List.set_cons_zero, List.set_cons_succ]
      refine take_at 6 85 (v := undef) (by simp only [List.getElem?_toArray, List.getElem?_cons_succ, List.getElem?_cons_zero]; rfl) rfl (by kernel_rfl) (by kernel_rfl) (by kernel_rfl) (fun _ _ _ h => h) (Or.inr ⟨by rfl, rfl⟩) hS ?_
      simp only [Act.put, List.setIfInBounds_toArray, List.set_cons_zero, List.set_cons_succ]
      refine take_at 7 86 (v := undef) (by simp only [List.getElem?_toArray, List.getElem?_cons_succ, List.getElem?_cons_zero]; rfl) rfl (by kernel_rfl) (by kernel_rfl) (by kernel_rfl) (fun _ _ _ h => h) (Or.inr ⟨by rfl, rfl⟩) hS ?_
      simp only [Act.put, List.setIfInBounds_toArray, List.set_cons_zero, List.set_cons_succ]
      refine take_at 8 87 (v := undef) (by simp only [List.getElem?_toArray, List.getElem?_cons_succ, List.getElem?_cons_zero]; rfl) rfl (by kernel_rfl) (by kernel_rfl) (by kernel_rfl) (fun _ _ _ h => h) (Or.inr ⟨by rfl, rfl⟩) hS ?_
      simp only [Act.put, List.setIfInBounds_toArray, List.set_cons_zero, List.set_cons_succ]
      refine take_at 9 88 (v := undef) (by simp only [List.getElem?_toArray, List.getElem?_cons_succ, List.getElem?_cons_zero]; rfl) rfl (by kernel_rfl) (by kernel_rfl) (by kernel_rfl) (fun _ _ _ h => h) (Or.inr ⟨by rfl, rfl⟩) hS ?_
      simp only [Act.put, List.setIfInBounds_toArray, List.set_cons_zero, List.set_cons_succ]
      refine take_at 10 89 (v := undef) (by simp only [List.getElem?_toArray, List.getElem?_cons_succ, List.getElem?_cons_zero]; rfl) rfl (by kernel_rfl) (by kernel_rfl) (by kernel_rfl) (fun _ _ _ h => h) (Or.inr ⟨by rfl, rfl⟩) hS ?_
      simp only [Act.put, List.setIfInBounds_toArray, List.set_cons_zero, List.set_cons_succ]
      refine take_at 11 90 (v := undef) (by simp only [List.getElem?_toArray, List.getElem?_cons_succ, List.getElem?_cons_zero]; rfl) rfl (by kernel_rfl) (by kernel_rfl) (by kernel_rfl) (fun _ _ _ h => h) (Or.inr ⟨by rfl, rfl⟩) hS ?_
      simp only [Act.put, List.setIfInBounds_toArray, List.set_cons_zero, List.set_cons_succ]
      refine take_at 12 91 (v := undef) (by simp only [List.getElem?_toArray, List.getElem?_cons_succ, List.getElem?_cons_zero]; rfl) rfl (by kernel_rfl) (by kernel_rfl) (by kernel_rfl) (fun _ _ _ h => h) (Or.inr ⟨by rfl, rfl⟩) hS ?_
      simp only [Act.put, List.setIfInBounds_toArray, List.set_cons_zero, List.set_cons_succ]
      refine take_at 13 92 (v := undef) (by simp only [List.getElem?_toArray, List.getElem?_cons_succ, List.getElem?_cons_zero]; rfl) rfl (by kernel_rfl) (by kernel_rfl) (by kernel_rfl) (fun _ _ _ h => h) (Or.inr ⟨by rfl, rfl⟩) hS ?_
      simp only [Act.put, List.setIfInBounds_toArray, List.set_cons_zero, List.set_cons_succ]
      refine take_at 14 93 (v := undef) (by simp only [List.getElem?_toArray, List.getElem?_cons_succ, List.getElem?_cons_zero]; rfl) rfl (by kernel_rfl) (by kernel_rfl) (by kernel_rfl) (fun _ _ _ h => h) (Or.inr ⟨by rfl, rfl⟩) hS ?_
      simp only [Act.put, List.setIfInBounds_toArray, List.set_cons_zero, List.set_cons_succ]
      refine take_at 15 94 (v := undef) (by simp only [List.getElem?_toArray, List.getElem?_cons_succ, List.getElem?_cons_zero]; rfl) rfl (by kernel_rfl) (by kernel_rfl) (by kernel_rfl) (fun _ _ _ h => h) (Or.inr ⟨by rfl, rfl⟩) hS ?_
      simp only [Act.put, List.setIfInBounds_toArray, List.set_cons_zero, List.set_cons_succ]
      refine take_at 16 95 (v := undef) (by simp only [List.getElem?_toArray, List.getElem?_cons_succ, List.getElem?_cons_zero]; rfl) rfl (by kernel_rfl) (by kernel_rfl) (by kernel_rfl) (fun _ _ _ h => h) (Or.inr ⟨by rfl, rfl⟩) hS ?_
      simp only [Act.put, List.setIfInBounds_toArray, List.set_cons_zero, List.set_cons_succ]
      refine take_at 17 96 (v := undef) (by simp only [List.getElem?_toArray, List.getElem?_cons_succ, List.getElem?_cons_zero]; rfl) rfl (by kernel_rfl) (by kernel_rfl) (by kernel_rfl) (fun _ _ _ h => h) (Or.inr ⟨by rfl, rfl⟩) hS ?_
      simp only [Act.put, List.setIfInBounds_toArray, List.set_cons_zero, List.set_cons_succ]
      refine take_at 18 97 (v := undef) (by simp only [List.getElem?_toArray, List.getElem?_cons_succ, List.getElem?_cons_zero]; rfl) rfl (by kernel_rfl) (by kernel_rfl) (by kernel_rfl) (fun _ _ _ h => h) (Or.inr ⟨by rfl, rfl⟩) hS ?_
      simp only [Act.put, List.setIfInBounds_toArray, List.set_cons_zero, List.set_cons_succ]
      refine take_at 19 98 (v := undef) (by simp only [List.getElem?_toArray, List.getElem?_cons_succ, List.getElem?_cons_zero]; rfl) rfl (by kernel_rfl) (by kernel_rfl) (by kernel_rfl) (fun _ _ _ h => h) (Or.inr ⟨by rfl, rfl⟩) hS ?_
      simp only [Act.put, List.setIfInBounds_toArray, List.set_cons_zero, List.set_cons_succ]
      refine take_at 20 99 (v := undef) (by simp only [List.getElem?_toArray, List.getElem?_cons_succ, List.getElem?_cons_zero]; rfl) rfl (by kernel_rfl) (by kernel_rfl) (by kernel_rfl) (fun _ _ _ h => h) (Or.inr ⟨by rfl, rfl⟩) hS ?_
      simp only [Act.put, List.setIfInBounds_toArray, List.set_cons_zero, List.set_cons_succ]
      refine take_at 21 100 (v := undef) (by simp only [List.getElem?_toArray, List.getElem?_cons_succ, List.getElem?_cons_zero]; rfl) rfl (by kernel_rfl) (by kernel_rfl) (by kernel_rfl) (fun _ _ _ h => h) (Or.inr ⟨by rfl, rfl⟩) hS ?_
      simp only [Act.put, List.setIfInBounds_toArray, List.set_cons_zero, List.set_cons_succ]
      refine take_at 22 101 (v := ?v22) (by simp only [List.getElem?_toArray, List.getElem?_cons_succ, List.getElem?_cons_zero]; rfl) rfl (by kernel_rfl) (by kernel_rfl) (by kernel_rfl) (fun _ _ _ h => h) (Or.inl ⟨by rfl, ?y22⟩) hS ?_
      case y22 =>
        intro W hSW
        (try dsimp only at hSW)
        go_simp
        first | done | with_reducible rfl
      simp only [Act.put, List.setIfInBounds_toArray, List.set_cons_zero, List.set_cons_succ]
      refine take_at 23 102 (v := ?v23) (by simp only [List.getElem?_toArray, List.getElem?_cons_succ, List.getElem?_cons_zero]; rfl) rfl (by kernel_rfl) (by kernel_rfl) (by kernel_rfl) (fun _ _ _ h => h) (Or.inl ⟨by rfl, ?y23⟩) hS ?_
      case y23 =>
        intro W hSW
        (try dsimp only at hSW)
        go_simp
        first | done | with_reducible rfl
      simp only [Act.put, List.setIfInBounds_toArray, List.set_cons_zero, List.set_cons_succ]
      refine take_at 24 8 (v := ?v24) (by simp only [List.getElem?_toArray, List.getElem?_cons_succ, List.getElem?_cons_zero]; rfl) rfl (by kernel_rfl) (by kernel_rfl) (by kernel_rfl) (fun _ _ _ h => h) (Or.inl ⟨by rfl, ?y24⟩) hS ?_
      case y24 =>
        intro W hSW
        (try dsimp only at hSW)
        go_simp
        first | done | with_reducible rfl
      simp only [Act.put, List.setIfInBounds_toArray, List.set_cons_zero, List.set_cons_succ]
      refine wpAnyH_done (by kernel_rfl) ?_ _
      refine NoPanic.normal ?_
      go_wp2_with fail
      go_ret
      exact ⟨rfl, bl_step HB6.out hBv1⟩
end Go.Proofs.Ytcpjalkonfjgbaa
