/-
  QueueFronts: what was taken of the first text is its beginning: what waits of it is just the rest; what is not begun can be discarded, what is begun can't.
-/
import Derived.Test.YtmaefeckkodllaaQArgs
import Derived.Test.YtmaefeckkodllaaHand
namespace Go.Proofs.Ytmaefeckkodllaa
open Go.RowKit

theorem src_drop {w : World} {b off : Nat} {l : List Nat} (h : SrcB w (some ⟨b, off, none⟩) (bts l)) (n : Nat) : SrcB w (some ⟨b, off + n, none⟩) (bts (l.drop n)) := by
  intro h0
  obtain ⟨b', off', he, hc⟩ := h (by rw [length_bts] at *; simp at h0; omega)
  injection he with he
  injection he with e1 e2 _
  subst e1
  subst e2
  refine ⟨b, off + n, rfl, fun j u hu => ?_⟩
  rw [bts_drop, List.getElem?_drop] at hu
  rw [Nat.add_assoc]
  exact hc _ _ hu

set_option maxRecDepth 100000 in
set_option maxHeartbeats 800000 in
theorem fronts_guard (A A2 : Option Addr) (N c N2 c2 : Nat) (n : Int) (w : World) (h : 1100 < N ∨ 1100 < N2) (hN : N ≤ 9223372036854775807) (hN2 : N2 ≤ 9223372036854775807) :
    Calls Try.prog 10 #[.slice A N c, .slice A2 N2 c2, .int .i64 n] w fun e w' => e = .returned (.bool true) ∧ Below w.heap.size w w' := by
  rcases Nat.lt_or_ge 1100 N with h1 | h1
  · clear h
    go_enter Try.func10, Try.ntmps10
    go_wp2_with (first
      | (go_at_call 28; refine (qnew_any w.heap.size 20000 w (Nat.le_refl _) (by omega) (by omega)).mono ?_; rintro e w1 ⟨rfl, _, hb1⟩; have HB1 := Lib.hid hb1; clear hb1)
      | (go_at_call 29; refine (alive4_any _).mono ?_; rintro e w2 ⟨rfl, hb2⟩))
    go_ret
    exact ⟨rfl, bl_step HB1.out hb2⟩
  · have h2 : 1100 < N2 := by omega
    clear h
    go_enter Try.func10, Try.ntmps10
    go_wp2_with (first
      | (go_at_call 28; refine (qnew_any w.heap.size 20000 w (Nat.le_refl _) (by omega) (by omega)).mono ?_; rintro e w1 ⟨rfl, _, hb1⟩; have HB1 := Lib.hid hb1; clear hb1)
      | (go_at_call 29; refine (alive4_any _).mono ?_; rintro e w2 ⟨rfl, hb2⟩))
    go_ret
    exact ⟨rfl, bl_step HB1.out hb2⟩

set_option maxRecDepth 100000 in
set_option maxHeartbeats 6400000 in
theorem fronts_walk (A A2 : Option Addr) (a b : List Nat) (c c2 : Nat) (n : Int) (w : World) (ha : a.length ≤ 1100) (hb : b.length ≤ 1100) (hac : a.length ≤ c) (hs : SrcB w A (bts a)) (hs2 : SrcB w A2 (bts b)) (hv : ∀ x ∈ a, x < 256) (hv2 : ∀ x ∈ b, x < 256) :
    Calls Try.prog 10 #[.slice A a.length c, .slice A2 b.length c2, .int .i64 n] w fun e w' => e = .returned (.bool true) ∧ Below w.heap.size w w' := by
  have HS := Lib.hid hs
  have HS2 := Lib.hid hs2
  have HV := Lib.hid hv
  have HV2 := Lib.hid hv2
  clear hs hs2 hv hv2
  obtain ⟨na, hna⟩ : ∃ na, a.length = na := ⟨_, rfl⟩
  obtain ⟨nb, hnb⟩ : ∃ nb, b.length = nb := ⟨_, rfl⟩
  rw [hna] at ha hac
  rw [hnb] at hb
  have HNA := Lib.hid hna
  have HNB := Lib.hid hnb
  rw [hna, hnb]
  clear hna hnb
  go_enter Try.func10, Try.ntmps10
  go_wp2_with fail
  refine (qnew_any w.heap.size 20000 w (Nat.le_refl _) (by omega) (by omega)).mono ?_
  rintro e w1 ⟨rfl, hq1, hb1⟩
  have HQ1 := Lib.hid hq1
  have HB1 := Lib.hid hb1
  have hs1 := hb1.size
  clear hq1 hb1
  go_wp2_with fail
  have HP1 := Lib.hid (push_all A a c HQ1.out (by omega) (by omega) (by simp [bytesF]) (by simp) (by rw [HNA.out]; omega) (by omega) (fun W hW => src_q HS.out HB1.out (Nat.le_refl _) hs1 hW))
  rw [HNA.out] at HP1
  refine (HP1.out).mono ?_
  rintro e w2 ⟨id1, er1, rfl, ho2, hcase⟩
  have HB2 := Lib.hid (HB1.out.trans (ho2.below hs1))
  have hs2 := HB2.out.size
  have HC1 := Lib.hid hcase
  clear ho2 hcase HP1
  rcases Classical.em (er1 = 0) with he1 | he1
  · subst he1
    obtain ⟨_, hid, hla, hla2, _, _, ta, ht1, ht2, ht3, hq2⟩ : (0 : Int) = 0 ∧ id1 = 0 + 1 ∧ 0 < a.length ∧ a.length ≤ 1000 ∧ ([] : List Txt).length < 64 ∧ ((bytesF [] : Nat) : Int) + a.length ≤ 20000 ∧ ∃ t : Txt, t.id = 0 + 1 ∧ t.bs = a ∧ t.bg = false ∧ QRep w.heap.size w2 w.heap.size 20000 (0 + 1) ([] ++ [t]) := by
      rcases HC1.out with h | h
      · exact h
      · exact absurd rfl h.1
    subst hid
    have HQ2 := Lib.hid (show QRep w.heap.size w2 w.heap.size 20000 1 [ta] from hq2)
    have HTA := Lib.hid (And.intro (show ta.id = 1 from ht1) (And.intro ht2 ht3))
    have hbyA : bytesF [ta] = a.length := by rw [bytesF_cons, ht2]; rfl
    have HBYA := Lib.hid hbyA
    rw [HNA.out] at hla hla2
    clear HC1 ht1 ht2 ht3 hq2 hbyA
    go_wp2_with fail
    have HP2 := Lib.hid (push_all A2 b c2 HQ2.out (by omega) (by omega) (by rw [HBYA.out, HNA.out]; omega) (by simp) (by rw [HNB.out]; omega) (by omega) (fun W hW => src_q HS2.out HB2.out (Nat.le_refl _) hs2 hW))
    rw [HNB.out] at HP2
    refine (HP2.out).mono ?_
    rintro e w3 ⟨id2, er2, rfl, ho3, hcase⟩
    have HB3 := Lib.hid (HB2.out.trans (ho3.below hs2))
    have hs3 := HB3.out.size
    have HC2 := Lib.hid hcase
    clear ho3 hcase HP2
    rcases Classical.em (er2 = 0) with he2 | he2
    · subst he2
      obtain ⟨_, hid, hlb, hlb2, _, _, tb, ht1, ht2, ht3, hq3⟩ : (0 : Int) = 0 ∧ id2 = 1 + 1 ∧ 0 < b.length ∧ b.length ≤ 1000 ∧ [ta].length < 64 ∧ ((bytesF [ta] : Nat) : Int) + b.length ≤ 20000 ∧ ∃ t : Txt, t.id = 1 + 1 ∧ t.bs = b ∧ t.bg = false ∧ QRep w.heap.size w3 w.heap.size 20000 (1 + 1) ([ta] ++ [t]) := by
        rcases HC2.out with h | h
        · exact h
        · exact absurd rfl h.1
      subst hid
      have HQ3 := Lib.hid (show QRep w.heap.size w3 w.heap.size 20000 2 [ta, tb] from hq3)
      have HTB := Lib.hid (And.intro (show tb.id = 2 from ht1) (And.intro ht2 ht3))
      rw [HNB.out] at hlb hlb2
      clear HC2 ht1 ht2 ht3 hq3
      have hby2 : bytesF [ta, tb] = na + nb := by rw [bytesF_cons, bytesF_cons, HTA.out.2.1, HTB.out.2.1, HNA.out, HNB.out]; rfl
      have HBY2 := Lib.hid hby2
      clear hby2
      by_cases hbad : n < 1 ∨ (na : Int) < n
      · have HBAD := Lib.hid hbad
        go_wp2_with fail
        refine (take_bad n HQ3.out (by omega) (by rw [HTA.out.2.1, HNA.out]; exact HBAD.out)).mono ?_
        rintro e _ ⟨rfl, rfl⟩
        rcases Int.lt_or_le n 1 with hn1 | hn1
        all_goals
          first | skip | have hn2 : (na : Int) < n := by omega
          clear hbad
          go_wp2_with (first
            | (go_at_call 29; refine (alive4_any _).mono ?_; rintro e w4 ⟨rfl, hb4⟩; have HB4 := Lib.hid hb4; clear hb4)
            | (go_at_call 41; refine (bytes_any (HQ3.out.later HB4.out) (by omega) (by rw [HBY2.out]; omega)).mono ?_; rintro e w5 ⟨rfl, hb5⟩; rw [HBY2.out]; have HB5 := Lib.hid hb5; clear hb5))
          go_ret
          refine ⟨ret_bool ?_, bl_step (bl_step HB3.out HB4.out) HB5.out⟩
          first | (simp; done) | (simp; omega)
      · have hk0 : 1 ≤ n ∧ n ≤ (na : Int) := by omega
        obtain ⟨k, rfl⟩ : ∃ k : Nat, n = k := ⟨n.toNat, by omega⟩
        have hk1 : 1 ≤ k := by omega
        have hk2 : k ≤ na := by omega
        clear hk0 hbad
        obtain ⟨ab, off, rfl, hca⟩ := HS.out (by rw [length_bts, HNA.out]; omega)
        clear hca
        go_wp2_with fail
        refine (take_ok k HQ3.out (by omega) hk1 (by rw [HTA.out.2.1, HNA.out]; exact hk2) (by rw [HTA.out.2.1, HNA.out]; omega) (by simp)).mono ?_
        rintro e w4 ⟨g4, rfl, hg4, hby4, ho4, t', h41, h42, h43, hq4⟩
        rw [HTA.out.2.1] at hby4 h42 hq4 ⊢
        rw [HNA.out] at hq4 ⊢
        have h41' : t'.id = 1 := h41.trans HTA.out.1
        have HB4 := Lib.hid (HB3.out.trans (ho4.below hs3))
        have hs4 := HB4.out.size
        have HBY4 := Lib.hid hby4
        have HTK := Lib.hid (show (a.take k).length = k by simp [HNA.out]; omega)
        have HVT := Lib.hid (show ∀ x ∈ a.take k, x < 256 from fun x hx => HV.out x (List.mem_of_mem_take hx))
        rcases Nat.lt_or_ge k na with hlt | hge
        · rw [if_neg (by omega)] at hq4
          have heq : (k == na) = false := by simp; omega
          rw [heq]
          have HQ4 := Lib.hid hq4
          obtain ⟨m, hm⟩ : ∃ m, na - k = m := ⟨_, rfl⟩
          have hm0 : 0 < m := by omega
          have hmk : m + k = na := by omega
          have HDL := Lib.hid (show (a.drop k).length = m by simp [HNA.out]; omega)
          have HVD := Lib.hid (show ∀ x ∈ a.drop k, x < 256 from fun x hx => HV.out x (List.mem_of_mem_drop hx))
          have HT' := Lib.hid (And.intro h41' (And.intro h42 h43))
          clear hby4 ho4 h41 h41' h42 h43 hq4 hg4 heq
          go_wp2_with fail
          refine (front_ok HQ4.out (by omega) (by rw [HT'.out.2.1, HDL.out]; exact hm0) (by rw [HT'.out.2.1, HDL.out]; omega)).mono ?_
          rintro e w5 ⟨g5, rfl, hg5, hby5, hb5⟩
          have hidI : ((t'.id : Nat) : Int) = 1 := by rw [HT'.out.1]; rfl
          rw [HT'.out.2.1] at hby5 ⊢
          rw [HT'.out.2.2, HDL.out, hidI]
          have HQ5 := Lib.hid (HQ4.out.later hb5)
          have HB5 := Lib.hid (bl_step HB4.out hb5)
          have hs5 := HB5.out.size
          have HSA := Lib.hid (HS.out.later HB5.out)
          obtain ⟨s1, hs1'⟩ : ∃ s1, strOf (a.take k) = s1 := ⟨_, rfl⟩
          obtain ⟨s2, hs2'⟩ : ∃ s2, strOf (a.drop k) = s2 := ⟨_, rfl⟩
          have HCT := Lib.hid (fun W (hW : QOnly w.heap.size w5 W) => (by
            have := conv_src (c := k) ((HBY4.out.later hb5).q hW).src HVT.out (by rw [HTK.out]; exact hk1)
            rw [HTK.out, hs1'] at this
            exact this : (convert 64 9 (.slice (some ⟨g4, 0, none⟩) k k)).run Try.prog W = .ok (.string s1) W))
          have HCL := Lib.hid (fun W (hW : QOnly w.heap.size w5 W) => (by
            have := conv_src (c := m) (Bytes.q (l := a.drop k) hby5 hW).src HVD.out (by rw [HDL.out]; exact hm0)
            rw [HDL.out, hs2'] at this
            exact this : (convert 64 9 (.slice (some ⟨g5, 0, none⟩) m m)).run Try.prog W = .ok (.string s2) W))
          have HCA := Lib.hid (fun W (hW : QOnly w.heap.size w5 W) => (by
            have := conv_src (c := c) (src_take (src_q HS.out HB5.out (Nat.le_refl _) hs5 hW) k) HVT.out (by rw [HTK.out]; exact hk1)
            rw [HTK.out, hs1'] at this
            exact this : (convert 64 9 (.slice (some ⟨ab, off, none⟩) k c)).run Try.prog W = .ok (.string s1) W))
          have HCB := Lib.hid (fun W (hW : QOnly w.heap.size w5 W) => (by
            have := conv_src (c := c - k) (src_drop (src_q HS.out HB5.out (Nat.le_refl _) hs5 hW) k) HVD.out (by rw [HDL.out]; exact hm0)
            rw [HDL.out, hs2'] at this
            exact this : (convert 64 9 (.slice (some ⟨ab, off + k, none⟩) m (c - k))).run Try.prog W = .ok (.string s2) W))
          have hp1 : discE 1 [t', tb] = 7 ∧ discF 1 [t', tb] = [t', tb] := by
            have e0 : placeF 1 [t', tb] = 0 := by unfold placeF; rw [List.findIdx_cons, HT'.out.1]; rfl
            unfold discE discF
            rw [e0]
            simp [HT'.out.2.2]
          have hp2 : discE 2 [t', tb] = 0 ∧ discF 2 [t', tb] = [t'] := by
            have e0 : placeF 2 [t', tb] = 1 := by unfold placeF; rw [List.findIdx_cons, HT'.out.1, List.findIdx_cons, HTB.out.1]; rfl
            unfold discE discF
            rw [e0]
            simp [HTB.out.2.2]
          have HD1 := Lib.hid (fun W (hW : QRep w.heap.size W w.heap.size 20000 2 [t', tb]) => (by
            have := discard_any 1 hW (by omega) (by simp)
            rw [hp1.1, hp1.2] at this
            exact this : Calls Try.prog 34 #[.pointer (some ⟨w.heap.size, 0, none⟩), .int .u64 1] W fun e w' => e = .returned (.int .i64 7) ∧ QRep w.heap.size w' w.heap.size 20000 2 [t', tb] ∧ QOnly w.heap.size W w'))
          have HD2 := Lib.hid (fun W (hW : QRep w.heap.size W w.heap.size 20000 2 [t', tb]) => (by
            have := discard_any 2 hW (by omega) (by simp)
            rw [hp2.1, hp2.2] at this
            exact this : Calls Try.prog 34 #[.pointer (some ⟨w.heap.size, 0, none⟩), .int .u64 2] W fun e w' => e = .returned (.int .i64 0) ∧ QRep w.heap.size w' w.heap.size 20000 2 [t'] ∧ QOnly w.heap.size W w'))
          have hbyt : bytesF [t'] = m := by rw [bytesF_cons, HT'.out.2.1, HDL.out]; rfl
          have HD3 := Lib.hid (fun W (hW : QRep w.heap.size W w.heap.size 20000 2 [t']) => (by
            have := bytes_any hW (by omega) (by rw [hbyt]; omega)
            rw [hbyt] at this
            exact this : Calls Try.prog 41 #[.pointer (some ⟨w.heap.size, 0, none⟩)] W fun e w' => e = .returned (.int .i64 (m : Nat)) ∧ Below W.heap.size W w'))
          have hki : (k : Int) ≤ (na : Int) := by omega
          have hkc : k ≤ c := by omega
          have hki2 : (k : Int) ≤ (c : Int) := by omega
          have hck : ¬ c = k := by omega
          have HMM := Lib.hid hm
          have hmm : na - k = m := hm
          have hneq : ¬ (k : Int) = (na : Int) := by omega
          clear hm hb5 hby5 hg5 hs1' hs2' hp1 hp2 hbyt hidI HB4 HQ4
          go_wp2_with fail
          refine wp_of_frame [some (.slice (some ⟨ab, off, none⟩) na c), none, some (.int .i64 k), none, none, none, none, some (.pointer (some ⟨w.heap.size, 0, none⟩)), none, some (.int .u64 1), none, some (.int .u64 2), none, some (.slice (some ⟨g4, 0, none⟩) k k), none, none, some (.int .u64 1), some (.slice (some ⟨g5, 0, none⟩) m m), some (.bool true), none, none, none, none, none, none, none, none, none, none, none, none, none, none, none, none, none, none, none, none, none, none, none, none, none, none, none, none, none, none, none, none, none, none, none, none, none, none, none, none, none, none, none, none, none, none, none, none, none, none, none, none, none, none, none, none, none, none, none, none, none, none, none, none, none, none, none, none, none, none, none, none, none, none, none, none, none, none, none, none, none, none, none, none, none, none, none, none, none, none, none, none, none, none, none, none, none, none, none, none, none, none, none, none, none, none, none, none, none, none, none, none, none, none, none, none, none, none, none, none, none, none, none, none, none, none, none, none, none, none, none, none, none, none, none, none, none, none, none, none, none, none, none, none, none, none, none, none, none, none, none, none, none, none, none, none, none, none, none, none, none, none, none, none, none, none, none, none, none, none, none, none, none, none, none, none, none] (by
            simp only [Fr, Holes]
            repeat apply Exists.intro
            rfl) ?_
          intro a' hfr
          simp only [Fr, Holes] at hfr
          repeat (obtain ⟨_, hfr⟩ := hfr)
          refine wp_region_noPanic ?_
          refine wp_region_held_drew (S := fun W => QOnly w.heap.size w5 W) (by kernel_rfl) (QOnly.of_below (bl_drew (Below.refl _ _))) (fun hS => ?_)
          refine wpAnyH_ready (rs := [0]) (by kernel_rfl) (by simp) ?_
          refine AllReadyH.cons rfl (fun K hK => ?_) AllReadyH.nil
          go_simp
          refine (alive4_any _).mono ?_
          rintro e v1 ⟨rfl, h1⟩; have HR1 := Lib.hid (HQ5.out.later (bl_step (bl_drew (Below.refl w5.heap.size w5)) h1)); have q1 := QOnly.of_below (B := w.heap.size) h1; clear h1
          try go_simp
          refine hK.out _ _ (QOnly.trans hS q1) (fun hS => ?_)
          clear hK K
          try simp only [Act.put, List.setIfInBounds_toArray, List.set_cons_zero, List.set_cons_succ]
          have hQv1 : QOnly w.heap.size w5 v1 := hS
          refine wpAnyH_more (S' := fun W => QOnly w.heap.size v1 W) ?_ (fun _ h => QOnly.trans hQv1 h)
          clear hS
          have hS : (fun W => QOnly w.heap.size v1 W) v1 := QOnly.refl _ _
          refine take_at 1 151 (v := ?v1) (by simp only [List.getElem?_toArray, List.getElem?_cons_succ, List.getElem?_cons_zero]; rfl) rfl (by kernel_rfl) (by kernel_rfl) (by kernel_rfl) (fun _ _ _ h => h) (Or.inl ⟨by rfl, ?y1⟩) hS ?_
          case y1 =>
            intro W hSW
            (try dsimp only at hSW)
            go_simp
            first | done | with_reducible rfl
          simp only [Act.put, List.setIfInBounds_toArray, List.set_cons_zero, List.set_cons_succ]
          refine take_at 2 152 (v := ?v2) (by simp only [List.getElem?_toArray, List.getElem?_cons_succ, List.getElem?_cons_zero]; rfl) rfl (by kernel_rfl) (by kernel_rfl) (by kernel_rfl) (fun _ _ _ h => h) (Or.inl ⟨by rfl, ?y2⟩) hS ?_
          case y2 =>
            intro W hSW
            (try dsimp only at hSW)
            go_simp
            first | done | with_reducible rfl
          simp only [Act.put, List.setIfInBounds_toArray, List.set_cons_zero, List.set_cons_succ]
          refine take_at 3 153 (v := ?v3) (by simp only [List.getElem?_toArray, List.getElem?_cons_succ, List.getElem?_cons_zero]; rfl) rfl (by kernel_rfl) (by kernel_rfl) (by kernel_rfl) (fun _ _ _ h => h) (Or.inl ⟨by rfl, ?y3⟩) hS ?_
          case y3 =>
            intro W hSW
            (try dsimp only at hSW)
            go_simp
            first | done | with_reducible rfl
          simp only [Act.put, List.setIfInBounds_toArray, List.set_cons_zero, List.set_cons_succ]
          refine take_at 4 154 (v := ?v4) (by simp only [List.getElem?_toArray, List.getElem?_cons_succ, List.getElem?_cons_zero]; rfl) rfl (by kernel_rfl) (by kernel_rfl) (by kernel_rfl) (fun _ _ _ h => h) (Or.inl ⟨by rfl, ?y4⟩) hS ?_
          case y4 =>
            intro W hSW
            (try dsimp only at hSW)
            go_simp
            first | done | with_reducible rfl
          simp only [Act.put, List.setIfInBounds_toArray, List.set_cons_zero, List.set_cons_succ]
          refine take_at 5 155 (v := ?v5) (by simp only [List.getElem?_toArray, List.getElem?_cons_succ, List.getElem?_cons_zero]; rfl) rfl (by kernel_rfl) (by kernel_rfl) (by kernel_rfl) (fun _ _ _ h => h) (Or.inl ⟨by rfl, ?y5⟩) hS ?_
          case y5 =>
            intro W hSW
            (try dsimp only at hSW)
            go_simp
            first | done | with_reducible rfl
          simp only [Act.put, List.setIfInBounds_toArray, List.set_cons_zero, List.set_cons_succ]
          refine take_at 6 156 (v := ?v6) (by simp only [List.getElem?_toArray, List.getElem?_cons_succ, List.getElem?_cons_zero]; rfl) rfl (by kernel_rfl) (by kernel_rfl) (by kernel_rfl) (fun _ _ _ h => h) (Or.inl ⟨by rfl, ?y6⟩) hS ?_
          case y6 =>
            intro W hSW
            (try dsimp only at hSW)
            go_simp
            first | done | with_reducible rfl
          simp only [Act.put, List.setIfInBounds_toArray, List.set_cons_zero, List.set_cons_succ]
          refine take_at 7 157 (v := ?v7) (by simp only [List.getElem?_toArray, List.getElem?_cons_succ, List.getElem?_cons_zero]; rfl) rfl (by kernel_rfl) (by kernel_rfl) (by kernel_rfl) (fun _ _ _ h => h) (Or.inl ⟨by rfl, ?y7⟩) hS ?_
          case y7 =>
            intro W hSW
            (try dsimp only at hSW)
            go_simp
            first | done | with_reducible rfl
          simp only [Act.put, List.setIfInBounds_toArray, List.set_cons_zero, List.set_cons_succ]
          refine take_at 8 158 (v := ?v8) (by simp only [List.getElem?_toArray, List.getElem?_cons_succ, List.getElem?_cons_zero]; rfl) rfl (by kernel_rfl) (by kernel_rfl) (by kernel_rfl) (fun _ _ _ h => h) (Or.inl ⟨by rfl, ?y8⟩) hS ?_
          case y8 =>
            intro W hSW
            (try dsimp only at hSW)
            have z := HCT.out W (hQv1.trans hSW)
            go_simp
            first | done | with_reducible rfl
          simp only [Act.put, List.setIfInBounds_toArray, List.set_cons_zero, List.set_cons_succ]
          refine take_at 9 159 (v := ?v9) (by simp only [List.getElem?_toArray, List.getElem?_cons_succ, List.getElem?_cons_zero]; rfl) rfl (by kernel_rfl) (by kernel_rfl) (by kernel_rfl) (fun _ _ _ h => h) (Or.inl ⟨by rfl, ?y9⟩) hS ?_
          case y9 =>
            intro W hSW
            (try dsimp only at hSW)
            go_simp
            first | done | with_reducible rfl
          simp only [Act.put, List.setIfInBounds_toArray, List.set_cons_zero, List.set_cons_succ]
          refine take_at 10 160 (v := ?v10) (by simp only [List.getElem?_toArray, List.getElem?_cons_succ, List.getElem?_cons_zero]; rfl) rfl (by kernel_rfl) (by kernel_rfl) (by kernel_rfl) (fun _ _ _ h => h) (Or.inl ⟨by rfl, ?y10⟩) hS ?_
          case y10 =>
            intro W hSW
            (try dsimp only at hSW)
            go_simp
            first | done | with_reducible rfl
          simp only [Act.put, List.setIfInBounds_toArray, List.set_cons_zero, List.set_cons_succ]
          refine take_at 11 161 (v := ?v11) (by simp only [List.getElem?_toArray, List.getElem?_cons_succ, List.getElem?_cons_zero]; rfl) rfl (by kernel_rfl) (by kernel_rfl) (by kernel_rfl) (fun _ _ _ h => h) (Or.inl ⟨by rfl, ?y11⟩) hS ?_
          case y11 =>
            intro W hSW
            (try dsimp only at hSW)
            go_simp
            first | done | with_reducible rfl
          simp only [Act.put, List.setIfInBounds_toArray, List.set_cons_zero, List.set_cons_succ]
          refine take_at 12 162 (v := ?v12) (by simp only [List.getElem?_toArray, List.getElem?_cons_succ, List.getElem?_cons_zero]; rfl) rfl (by kernel_rfl) (by kernel_rfl) (by kernel_rfl) (fun _ _ _ h => h) (Or.inl ⟨by rfl, ?y12⟩) hS ?_
          case y12 =>
            intro W hSW
            (try dsimp only at hSW)
            have z := HCA.out W (hQv1.trans hSW)
            go_simp
            first | done | with_reducible rfl
          simp only [Act.put, List.setIfInBounds_toArray, List.set_cons_zero, List.set_cons_succ]
          refine take_at 13 163 (v := ?v13) (by simp only [List.getElem?_toArray, List.getElem?_cons_succ, List.getElem?_cons_zero]; rfl) rfl (by kernel_rfl) (by kernel_rfl) (by kernel_rfl) (fun _ _ _ h => h) (Or.inl ⟨by rfl, ?y13⟩) hS ?_
          case y13 =>
            intro W hSW
            (try dsimp only at hSW)
            go_simp
            first | done | with_reducible rfl
          simp only [Act.put, List.setIfInBounds_toArray, List.set_cons_zero, List.set_cons_succ]
          refine take_at 14 164 (v := ?v14) (by simp only [List.getElem?_toArray, List.getElem?_cons_succ, List.getElem?_cons_zero]; rfl) rfl (by kernel_rfl) (by kernel_rfl) (by kernel_rfl) (fun _ _ _ h => h) (Or.inl ⟨by rfl, ?y14⟩) hS ?_
          case y14 =>
            intro W hSW
            (try dsimp only at hSW)
            go_simp
            first | done | with_reducible rfl
          simp only [Act.put, List.setIfInBounds_toArray, List.set_cons_zero, List.set_cons_succ]
          refine take_at 15 165 (v := ?v15) (by simp only [List.getElem?_toArray, List.getElem?_cons_succ, List.getElem?_cons_zero]; rfl) rfl (by kernel_rfl) (by kernel_rfl) (by kernel_rfl) (fun _ _ _ h => h) (Or.inl ⟨by rfl, ?y15⟩) hS ?_
          case y15 =>
            intro W hSW
            (try dsimp only at hSW)
            go_simp
            first | done | with_reducible rfl
          simp only [Act.put, List.setIfInBounds_toArray, List.set_cons_zero, List.set_cons_succ]
          refine take_at 16 166 (v := ?v16) (by simp only [List.getElem?_toArray, List.getElem?_cons_succ, List.getElem?_cons_zero]; rfl) rfl (by kernel_rfl) (by kernel_rfl) (by kernel_rfl) (fun _ _ _ h => h) (Or.inl ⟨by rfl, ?y16⟩) hS ?_
          case y16 =>
            intro W hSW
            (try dsimp only at hSW)
            go_simp
            first | done | with_reducible rfl
          simp only [Act.put, List.setIfInBounds_toArray, List.set_cons_zero, List.set_cons_succ]
          refine take_at 17 167 (v := ?v17) (by simp only [List.getElem?_toArray, List.getElem?_cons_succ, List.getElem?_cons_zero]; rfl) rfl (by kernel_rfl) (by kernel_rfl) (by kernel_rfl) (fun _ _ _ h => h) (Or.inl ⟨by rfl, ?y17⟩) hS ?_
          case y17 =>
            intro W hSW
            (try dsimp only at hSW)
            have z := HCL.out W (hQv1.trans hSW)
            go_simp
            first | done | with_reducible rfl
          simp only [Act.put, List.setIfInBounds_toArray, List.set_cons_zero, List.set_cons_succ]
          refine take_at 18 168 (v := ?v18) (by simp only [List.getElem?_toArray, List.getElem?_cons_succ, List.getElem?_cons_zero]; rfl) rfl (by kernel_rfl) (by kernel_rfl) (by kernel_rfl) (fun _ _ _ h => h) (Or.inl ⟨by rfl, ?y18⟩) hS ?_
          case y18 =>
            intro W hSW
            (try dsimp only at hSW)
            go_simp
            first | done | with_reducible rfl
          simp only [Act.put, List.setIfInBounds_toArray, List.set_cons_zero, List.set_cons_succ]
          refine take_at 19 169 (v := ?v19) (by simp only [List.getElem?_toArray, List.getElem?_cons_succ, List.getElem?_cons_zero]; rfl) rfl (by kernel_rfl) (by kernel_rfl) (by kernel_rfl) (fun _ _ _ h => h) (Or.inl ⟨by rfl, ?y19⟩) hS ?_
          case y19 =>
            intro W hSW
            (try dsimp only at hSW)
            go_simp
            first | done | with_reducible rfl
          simp only [Act.put, List.setIfInBounds_toArray, List.set_cons_zero, List.set_cons_succ]
          refine take_at 20 170 (v := ?v20) (by simp only [List.getElem?_toArray, List.getElem?_cons_succ, List.getElem?_cons_zero]; rfl) rfl (by kernel_rfl) (by kernel_rfl) (by kernel_rfl) (fun _ _ _ h => h) (Or.inl ⟨by rfl, ?y20⟩) hS ?_
          case y20 =>
            intro W hSW
            (try dsimp only at hSW)
            go_simp
            first | done | with_reducible rfl
          simp only [Act.put, List.setIfInBounds_toArray, List.set_cons_zero, List.set_cons_succ]
          refine take_at 21 171 (v := ?v21) (by simp only [List.getElem?_toArray, List.getElem?_cons_succ, List.getElem?_cons_zero]; rfl) rfl (by kernel_rfl) (by kernel_rfl) (by kernel_rfl) (fun _ _ _ h => h) (Or.inl ⟨by rfl, ?y21⟩) hS ?_
          case y21 =>
            intro W hSW
            (try dsimp only at hSW)
            have z := HCB.out W (hQv1.trans hSW)
            go_simp
            first | done | with_reducible rfl
          simp only [Act.put, List.setIfInBounds_toArray, List.set_cons_zero, List.set_cons_succ]
          refine take_at 22 172 (v := ?v22) (by simp only [List.getElem?_toArray, List.getElem?_cons_succ, List.getElem?_cons_zero]; rfl) rfl (by kernel_rfl) (by kernel_rfl) (by kernel_rfl) (fun _ _ _ h => h) (Or.inl ⟨by rfl, ?y22⟩) hS ?_
          case y22 =>
            intro W hSW
            (try dsimp only at hSW)
            go_simp
            first | done | with_reducible rfl
          simp only [Act.put, List.setIfInBounds_toArray, List.set_cons_zero, List.set_cons_succ]
          refine take_at 23 173 (v := ?v23) (by simp only [List.getElem?_toArray, List.getElem?_cons_succ, List.getElem?_cons_zero]; rfl) rfl (by kernel_rfl) (by kernel_rfl) (by kernel_rfl) (fun _ _ _ h => h) (Or.inl ⟨by rfl, ?y23⟩) hS ?_
          case y23 =>
            intro W hSW
            (try dsimp only at hSW)
            go_simp
            first | done | with_reducible rfl
          simp only [Act.put, List.setIfInBounds_toArray, List.set_cons_zero, List.set_cons_succ]
          refine take_at 24 174 (v := ?v24) (by simp only [List.getElem?_toArray, List.getElem?_cons_succ, List.getElem?_cons_zero]; rfl) rfl (by kernel_rfl) (by kernel_rfl) (by kernel_rfl) (fun _ _ _ h => h) (Or.inl ⟨by rfl, ?y24⟩) hS ?_
          case y24 =>
            intro W hSW
            (try dsimp only at hSW)
            go_simp
            first | done | with_reducible rfl
          simp only [Act.put, List.setIfInBounds_toArray, List.set_cons_zero, List.set_cons_succ]
          refine take_at 25 175 (v := ?v25) (by simp only [List.getElem?_toArray, List.getElem?_cons_succ, List.getElem?_cons_zero]; rfl) rfl (by kernel_rfl) (by kernel_rfl) (by kernel_rfl) (fun _ _ _ h => h) (Or.inl ⟨by rfl, ?y25⟩) hS ?_
          case y25 =>
            intro W hSW
            (try dsimp only at hSW)
            go_simp
            first | done | with_reducible rfl
          simp only [Act.put, List.setIfInBounds_toArray, List.set_cons_zero, List.set_cons_succ]
          refine take_at 26 176 (v := ?v26) (by simp only [List.getElem?_toArray, List.getElem?_cons_succ, List.getElem?_cons_zero]; rfl) rfl (by kernel_rfl) (by kernel_rfl) (by kernel_rfl) (fun _ _ _ h => h) (Or.inl ⟨by rfl, ?y26⟩) hS ?_
          case y26 =>
            intro W hSW
            (try dsimp only at hSW)
            go_simp
            first | done | with_reducible rfl
          simp only [Act.put, List.setIfInBounds_toArray, List.set_cons_zero, List.set_cons_succ]
          refine take_at 27 177 (v := ?v27) (by simp only [List.getElem?_toArray, List.getElem?_cons_succ, List.getElem?_cons_zero]; rfl) rfl (by kernel_rfl) (by kernel_rfl) (by kernel_rfl) (fun _ _ _ h => h) (Or.inl ⟨by rfl, ?y27⟩) hS ?_
          case y27 =>
            intro W hSW
            (try dsimp only at hSW)
            go_simp
            first | done | with_reducible rfl
          simp only [Act.put, List.setIfInBounds_toArray, List.set_cons_zero, List.set_cons_succ]
          refine take_at 28 178 (v := ?v28) (by simp only [List.getElem?_toArray, List.getElem?_cons_succ, List.getElem?_cons_zero]; rfl) rfl (by kernel_rfl) (by kernel_rfl) (by kernel_rfl) (fun _ _ _ h => h) (Or.inl ⟨by rfl, ?y28⟩) hS ?_
          case y28 =>
            intro W hSW
            (try dsimp only at hSW)
            go_simp
            first | done | with_reducible rfl
          simp only [Act.put, List.setIfInBounds_toArray, List.set_cons_zero, List.set_cons_succ]
          refine take_at 29 179 (v := ?v29) (by simp only [List.getElem?_toArray, List.getElem?_cons_succ, List.getElem?_cons_zero]; rfl) rfl (by kernel_rfl) (by kernel_rfl) (by kernel_rfl) (fun _ _ _ h => h) (Or.inl ⟨by rfl, ?y29⟩) hS ?_
          case y29 =>
            intro W hSW
            (try dsimp only at hSW)
            go_simp
            first | done | with_reducible rfl
          simp only [Act.put, List.setIfInBounds_toArray, List.set_cons_zero, List.set_cons_succ]
          refine wpAnyH_ready (rs := [30]) (by kernel_rfl) (by simp) ?_
          refine AllReadyH.cons rfl (fun K hK => ?_) AllReadyH.nil
          go_simp
          refine (HD1.out v1 HR1.out).mono ?_
          rintro e v2 ⟨rfl, hr2, q2⟩; have HR2 := Lib.hid hr2; clear hr2
          try go_simp
          refine hK.out _ _ (QOnly.trans hS q2) (fun hS => ?_)
          clear hK K
          try simp only [Act.put, List.setIfInBounds_toArray, List.set_cons_zero, List.set_cons_succ]
          have hQv2 : QOnly w.heap.size v1 v2 := hS
          refine wpAnyH_more (S' := fun W => QOnly w.heap.size v2 W) ?_ (fun _ h => QOnly.trans hQv2 h)
          clear hS
          have hS : (fun W => QOnly w.heap.size v2 W) v2 := QOnly.refl _ _
          refine take_at 31 181 (v := ?v31) (by simp only [List.getElem?_toArray, List.getElem?_cons_succ, List.getElem?_cons_zero]; rfl) rfl (by kernel_rfl) (by kernel_rfl) (by kernel_rfl) (fun _ _ _ h => h) (Or.inl ⟨by rfl, ?y31⟩) hS ?_
          case y31 =>
            intro W hSW
            (try dsimp only at hSW)
            go_simp
            first | done | with_reducible rfl
          simp only [Act.put, List.setIfInBounds_toArray, List.set_cons_zero, List.set_cons_succ]
          refine take_at 32 182 (v := ?v32) (by simp only [List.getElem?_toArray, List.getElem?_cons_succ, List.getElem?_cons_zero]; rfl) rfl (by kernel_rfl) (by kernel_rfl) (by kernel_rfl) (fun _ _ _ h => h) (Or.inl ⟨by rfl, ?y32⟩) hS ?_
          case y32 =>
            intro W hSW
            (try dsimp only at hSW)
            go_simp
            first | done | with_reducible rfl
          simp only [Act.put, List.setIfInBounds_toArray, List.set_cons_zero, List.set_cons_succ]
          refine take_at 33 183 (v := ?v33) (by simp only [List.getElem?_toArray, List.getElem?_cons_succ, List.getElem?_cons_zero]; rfl) rfl (by kernel_rfl) (by kernel_rfl) (by kernel_rfl) (fun _ _ _ h => h) (Or.inl ⟨by rfl, ?y33⟩) hS ?_
          case y33 =>
            intro W hSW
            (try dsimp only at hSW)
            go_simp
            first | done | with_reducible rfl
          simp only [Act.put, List.setIfInBounds_toArray, List.set_cons_zero, List.set_cons_succ]
          refine take_at 34 184 (v := ?v34) (by simp only [List.getElem?_toArray, List.getElem?_cons_succ, List.getElem?_cons_zero]; rfl) rfl (by kernel_rfl) (by kernel_rfl) (by kernel_rfl) (fun _ _ _ h => h) (Or.inl ⟨by rfl, ?y34⟩) hS ?_
          case y34 =>
            intro W hSW
            (try dsimp only at hSW)
            go_simp
            first | done | with_reducible rfl
          simp only [Act.put, List.setIfInBounds_toArray, List.set_cons_zero, List.set_cons_succ]
          refine take_at 35 185 (v := ?v35) (by simp only [List.getElem?_toArray, List.getElem?_cons_succ, List.getElem?_cons_zero]; rfl) rfl (by kernel_rfl) (by kernel_rfl) (by kernel_rfl) (fun _ _ _ h => h) (Or.inl ⟨by rfl, ?y35⟩) hS ?_
          case y35 =>
            intro W hSW
            (try dsimp only at hSW)
            go_simp
            first | done | with_reducible rfl
          simp only [Act.put, List.setIfInBounds_toArray, List.set_cons_zero, List.set_cons_succ]
          refine wpAnyH_ready (rs := [36]) (by kernel_rfl) (by simp) ?_
          refine AllReadyH.cons rfl (fun K hK => ?_) AllReadyH.nil
          go_simp
          refine (HD2.out v2 HR2.out).mono ?_
          rintro e v3 ⟨rfl, hr3, q3⟩; have HR3 := Lib.hid hr3; clear hr3
          try go_simp
          refine hK.out _ _ (QOnly.trans hS q3) (fun hS => ?_)
          clear hK K
          try simp only [Act.put, List.setIfInBounds_toArray, List.set_cons_zero, List.set_cons_succ]
          have hQv3 : QOnly w.heap.size v2 v3 := hS
          refine wpAnyH_more (S' := fun W => QOnly w.heap.size v3 W) ?_ (fun _ h => QOnly.trans hQv3 h)
          clear hS
          have hS : (fun W => QOnly w.heap.size v3 W) v3 := QOnly.refl _ _
          refine take_at 37 187 (v := ?v37) (by simp only [List.getElem?_toArray, List.getElem?_cons_succ, List.getElem?_cons_zero]; rfl) rfl (by kernel_rfl) (by kernel_rfl) (by kernel_rfl) (fun _ _ _ h => h) (Or.inl ⟨by rfl, ?y37⟩) hS ?_
          case y37 =>
            intro W hSW
            (try dsimp only at hSW)
            go_simp
            first | done | with_reducible rfl
          simp only [Act.put, List.setIfInBounds_toArray, List.set_cons_zero, List.set_cons_succ]
          refine take_at 38 188 (v := ?v38) (by simp only [List.getElem?_toArray, List.getElem?_cons_succ, List.getElem?_cons_zero]; rfl) rfl (by kernel_rfl) (by kernel_rfl) (by kernel_rfl) (fun _ _ _ h => h) (Or.inl ⟨by rfl, ?y38⟩) hS ?_
          case y38 =>
            intro W hSW
            (try dsimp only at hSW)
            go_simp
            first | done | with_reducible rfl
          simp only [Act.put, List.setIfInBounds_toArray, List.set_cons_zero, List.set_cons_succ]
          refine take_at 39 189 (v := ?v39) (by simp only [List.getElem?_toArray, List.getElem?_cons_succ, List.getElem?_cons_zero]; rfl) rfl (by kernel_rfl) (by kernel_rfl) (by kernel_rfl) (fun _ _ _ h => h) (Or.inl ⟨by rfl, ?y39⟩) hS ?_
          case y39 =>
            intro W hSW
            (try dsimp only at hSW)
            go_simp
            first | done | with_reducible rfl
          simp only [Act.put, List.setIfInBounds_toArray, List.set_cons_zero, List.set_cons_succ]
          refine take_at 40 190 (v := ?v40) (by simp only [List.getElem?_toArray, List.getElem?_cons_succ, List.getElem?_cons_zero]; rfl) rfl (by kernel_rfl) (by kernel_rfl) (by kernel_rfl) (fun _ _ _ h => h) (Or.inl ⟨by rfl, ?y40⟩) hS ?_
          case y40 =>
            intro W hSW
            (try dsimp only at hSW)
            go_simp
            first | done | with_reducible rfl
          simp only [Act.put, List.setIfInBounds_toArray, List.set_cons_zero, List.set_cons_succ]
          refine take_at 42 192 (v := ?v42) (by simp only [List.getElem?_toArray, List.getElem?_cons_succ, List.getElem?_cons_zero]; rfl) rfl (by kernel_rfl) (by kernel_rfl) (by kernel_rfl) (fun _ _ _ h => h) (Or.inl ⟨by rfl, ?y42⟩) hS ?_
          case y42 =>
            intro W hSW
            (try dsimp only at hSW)
            go_simp
            first | done | with_reducible rfl
          simp only [Act.put, List.setIfInBounds_toArray, List.set_cons_zero, List.set_cons_succ]
          refine take_at 43 193 (v := ?v43) (by simp only [List.getElem?_toArray, List.getElem?_cons_succ, List.getElem?_cons_zero]; rfl) rfl (by kernel_rfl) (by kernel_rfl) (by kernel_rfl) (fun _ _ _ h => h) (Or.inl ⟨by rfl, ?y43⟩) hS ?_
          case y43 =>
            intro W hSW
            (try dsimp only at hSW)
            go_simp
            first | done | with_reducible rfl
          simp only [Act.put, List.setIfInBounds_toArray, List.set_cons_zero, List.set_cons_succ]
          refine wpAnyH_ready (rs := [41]) (by kernel_rfl) (by simp) ?_
          refine AllReadyH.cons rfl (fun K hK => ?_) AllReadyH.nil
          go_simp
          refine (HD3.out v3 HR3.out).mono ?_
          rintro e v4 ⟨rfl, h4⟩; have q4 := QOnly.of_below (B := w.heap.size) h4; clear h4
          try go_simp
          refine hK.out _ _ (QOnly.trans hS q4) (fun hS => ?_)
          clear hK K
          try simp only [Act.put, List.setIfInBounds_toArray, List.set_cons_zero, List.set_cons_succ]
          have hQv4 : QOnly w.heap.size v3 v4 := hS
          refine wpAnyH_more (S' := fun W => QOnly w.heap.size v4 W) ?_ (fun _ h => QOnly.trans hQv4 h)
          clear hS
          have hS : (fun W => QOnly w.heap.size v4 W) v4 := QOnly.refl _ _
          refine take_at 44 194 (v := ?v44) (by simp only [List.getElem?_toArray, List.getElem?_cons_succ, List.getElem?_cons_zero]; rfl) rfl (by kernel_rfl) (by kernel_rfl) (by kernel_rfl) (fun _ _ _ h => h) (Or.inl ⟨by rfl, ?y44⟩) hS ?_
          case y44 =>
            intro W hSW
            (try dsimp only at hSW)
            go_simp
            first | done | with_reducible rfl
          simp only [Act.put, List.setIfInBounds_toArray, List.set_cons_zero, List.set_cons_succ]
          refine take_at 45 195 (v := ?v45) (by simp only [List.getElem?_toArray, List.getElem?_cons_succ, List.getElem?_cons_zero]; rfl) rfl (by kernel_rfl) (by kernel_rfl) (by kernel_rfl) (fun _ _ _ h => h) (Or.inl ⟨by rfl, ?y45⟩) hS ?_
          case y45 =>
            intro W hSW
            (try dsimp only at hSW)
            go_simp
            first | done | with_reducible rfl
          simp only [Act.put, List.setIfInBounds_toArray, List.set_cons_zero, List.set_cons_succ]
          refine take_at 46 6 (v := ?v46) (by simp only [List.getElem?_toArray, List.getElem?_cons_succ, List.getElem?_cons_zero]; rfl) rfl (by kernel_rfl) (by kernel_rfl) (by kernel_rfl) (fun _ _ _ h => h) (Or.inl ⟨by rfl, ?y46⟩) hS ?_
          case y46 =>
            intro W hSW
            (try dsimp only at hSW)
            go_simp
            first | done | with_reducible rfl
          simp only [Act.put, List.setIfInBounds_toArray, List.set_cons_zero, List.set_cons_succ]
          refine wpAnyH_done (by kernel_rfl) ?_ _
          refine NoPanic.normal ?_
          go_wp2
          go_ret
          exact ⟨rfl, HB5.out.trans ((((hQv1.trans hQv2).trans hQv3).trans hQv4).below hs5)⟩
        · obtain rfl : k = na := by omega
          rw [if_pos rfl] at hq4
          have heq : (k == k) = true := by simp
          rw [heq]
          have HQ4 := Lib.hid (show QRep w.heap.size w4 w.heap.size 20000 2 [tb] from hq4)
          clear hby4 h41 h41' h42 h43 hq4 hg4 heq
          go_wp2_with fail
          refine (front_ok HQ4.out (by omega) (by rw [HTB.out.2.1, HNB.out]; exact hlb) (by rw [HTB.out.2.1, HNB.out]; omega)).mono ?_
          rintro e w5 ⟨g5, rfl, hg5, hby5, hb5⟩
          have hidI : ((tb.id : Nat) : Int) = 2 := by rw [HTB.out.1]; rfl
          rw [HTB.out.2.1] at hby5 ⊢
          rw [HTB.out.2.2, HNB.out, hidI]
          have HQ5 := Lib.hid (HQ4.out.later hb5)
          have HB5 := Lib.hid (bl_step HB4.out hb5)
          have HBY5 := Lib.hid (And.intro (HBY4.out.later hb5) (show Bytes w5 g5 b from hby5))
          clear hb5 hby5 hg5 hidI ho4
          have hp1 : discE 1 [tb] = 4 ∧ discF 1 [tb] = [tb] := by
            have e0 : placeF 1 [tb] = 1 := by unfold placeF; rw [List.findIdx_cons, HTB.out.1]; rfl
            unfold discE discF
            rw [e0]
            simp
          have hp2 : discE 2 [tb] = 0 ∧ discF 2 [tb] = [] := by
            have e0 : placeF 2 [tb] = 0 := by unfold placeF; rw [List.findIdx_cons, HTB.out.1]; rfl
            unfold discE discF
            rw [e0]
            simp [HTB.out.2.2]
          have HP1 := Lib.hid hp1
          have HP2 := Lib.hid hp2
          clear hp1 hp2
          have hkk : (k : Int) = (k : Int) := rfl
          go_wp2_with fail
          refine (alive4_any _).mono ?_
          rintro e w6 ⟨rfl, hb6⟩
          have HB6 := Lib.hid (bl_step HB5.out hb6)
          have HQ6 := Lib.hid (HQ5.out.later hb6)
          have hs6 := HB6.out.size
          have z1 := conv_src (c := k) (HBY5.out.1.later hb6).src HVT.out (by rw [HTK.out]; exact hk1)
          have z2 := conv_src (c := c) (src_take (HS.out.later HB6.out) k) HVT.out (by rw [HTK.out]; exact hk1)
          have z3 := conv_src (c := b.length) (HBY5.out.2.later hb6).src HV2.out (by rw [HNB.out]; exact hlb)
          have z4 := conv_src (c := c2) (HS2.out.later HB6.out) HV2.out (by rw [HNB.out]; exact hlb)
          rw [HTK.out] at z1 z2
          rw [HNB.out] at z3 z4
          generalize strOf (a.take k) = s1 at *
          generalize strOf b = s2 at *
          clear hb6 hkk
          go_wp2_with fail
          refine (discard_any 1 HQ6.out (by omega) (by simp)).mono ?_
          rintro e w7 ⟨rfl, hq7, ho7⟩
          rw [HP1.out.1]
          rw [HP1.out.2] at hq7
          have HQ7 := Lib.hid hq7
          have HB7 := Lib.hid (HB6.out.trans (ho7.below hs6))
          have hs7 := HB7.out.size
          clear hq7 ho7 z1 z2 z3 z4
          go_wp2_with fail
          refine (discard_any 2 HQ7.out (by omega) (by simp)).mono ?_
          rintro e w8 ⟨rfl, hq8, ho8⟩
          rw [HP2.out.1]
          have HB8 := Lib.hid (HB7.out.trans (ho8.below hs7))
          clear hq8 ho8
          go_wp2
          go_ret
          exact ⟨rfl, HB8.out⟩
    · have hx : (er2 != 0) = true := by simp; exact he2
      clear he2 HC2
      go_wp2_with (go_at_call 29; refine (alive4_any _).mono ?_; rintro e w4 ⟨rfl, hb4⟩)
      go_ret
      exact ⟨rfl, bl_step HB3.out hb4⟩
  · have hx : (er1 != 0) = true := by simp; exact he1
    clear he1
    go_wp2_with fail
    have hq2 : ∃ l ts, QRep w.heap.size w2 w.heap.size 20000 l ts ∧ (bytesF ts : Int) ≤ 20000 ∧ ts.length ≤ 64 ∧ l ≤ 1000 := by
      rcases HC1.out with h | h
      · obtain ⟨_, _, h1, h2, h3, h4, t, h5, h6, _, h7⟩ := h
        exact ⟨_, _, h7, by rw [bytesF_append, bytesF_cons, h6]; have : bytesF [] = 0 := rfl; omega, by simp, by omega⟩
      · exact ⟨_, _, h.2.2.1, by simp [bytesF], by simp, by omega⟩
    obtain ⟨lq, tsq, hq2, hq2b, hq2l, hq2n⟩ := hq2
    have HP2 := Lib.hid (push_all A2 b c2 hq2 (by omega) (by omega) hq2b hq2l (by rw [HNB.out]; omega) (by omega) (fun W hW => src_q HS2.out HB2.out (Nat.le_refl _) hs2 hW))
    rw [HNB.out] at HP2
    clear HC1 hq2 hq2b hq2l hq2n
    refine (HP2.out).mono ?_
    rintro e w3 ⟨id2, er2, rfl, ho3, _⟩
    have HB3 := Lib.hid (HB2.out.trans (ho3.below hs2))
    clear ho3 HP2
    go_wp2_with (go_at_call 29; refine (alive4_any _).mono ?_; rintro e w4 ⟨rfl, hb4⟩)
    go_ret
    exact ⟨rfl, bl_step HB3.out hb4⟩
end Go.Proofs.Ytmaefeckkodllaa
