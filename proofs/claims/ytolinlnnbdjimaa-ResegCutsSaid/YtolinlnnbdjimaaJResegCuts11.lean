/-
  ResegCuts: the law walked.
-/
import Derived.Test.YtolinlnnbdjimaaJResegCuts10
import Derived.Test.YtolinlnnbdjimaaJResegFits23
import Derived.Test.YtolinlnnbdjimaaJResegFits19
namespace Go.Proofs.Ytolinlnnbdjimaa
open Go.RowKit

theorem same_two {A1 A2 : Option Addr} {M M2 : List RowB} {k1 k2 c1 c2 : Nat} {W : World} (xp xq xl : Bool) (xf xs xo : Int) (h1 : Hid (M.length = k1)) (h2 : Hid (M2.length = k2)) (ht : Hid (texts M2 = texts M)) (hs1 : RSrc W A1 M) (hs2 : RSrc W A2 M2) (hk : M.length ≤ 40) :
    Calls Try.prog 27 #[.agg #[.bool xp, .int .i64 xf, .int .i64 xs, .bool xq, .bool xl, .int .i64 xo, .slice A1 k1 c1], .agg #[.bool xp, .int .i64 xf, .int .i64 xs, .bool xq, .bool xl, .int .i64 xo, .slice A2 k2 c2]] W fun e w' => e = .returned (.bool true) ∧ Below W.heap.size W w' := by
  have h := rasame_any (A := A1) (B := A2) (L := M) (M := M2) xp xq xl xf xs xo xp xq xl xf xs xo k1 k2 c1 c2 W h1.out h2.out (by rw [← h1.out]; omega) hs1 hs2
  rw [ht.out, eqA_self] at h
  exact h
set_option maxRecDepth 100000 in
set_option maxHeartbeats 12800000 in
/-- the law, where both calls' answers are known -/
theorem rcuts_walk {A : Option Addr} {L : List RowB} (poll part last : Bool) (fi sn off a b grant wd : Int) (n cap : Nat) (w : World) (hL : L.length = n) (hn : n ≤ 9223372036854775807) (hs : RSrc w A L) (hm : ∀ m ∈ lens L, m ≤ 9223372036854775807) (er at_ : Int)
    (xp xq xl : Bool) (xf xs xo : Int)
    (hc : ∀ W, Below w.heap.size w W → n ≤ 40 → (lens L).sum ≤ 9000 → Calls Try.prog 39 #[.agg #[.bool poll, .int .i64 fi, .int .i64 sn, .bool part, .bool last, .int .i64 off, .slice A n cap], .int .i64 a, .int .i64 b, .int .i64 grant, .int .i64 wd] W fun e w' => ∃ (A1 : Option Addr) (c1 : Nat) (M : List RowB), e = .returned (.tuple #[.agg #[.bool xp, .int .i64 xf, .int .i64 xs, .bool xq, .bool xl, .int .i64 xo, .slice A1 M.length c1], .int .i64 at_, .int .i64 er]) ∧ RSrc w' A1 M ∧ M.length ≤ 40 ∧ Below W.heap.size W w' ∧
      ∀ W2, Below w'.heap.size w' W2 → Calls Try.prog 40 #[.agg #[.bool poll, .int .i64 fi, .int .i64 sn, .bool part, .bool last, .int .i64 off, .slice A n cap], .int .i64 a, .int .i64 b, .int .i64 grant, .int .i64 wd] W2 fun e2 w2' => ∃ (A2 : Option Addr) (c2 : Nat) (M2 : List RowB), e2 = .returned (.tuple #[.agg #[.bool xp, .int .i64 xf, .int .i64 xs, .bool xq, .bool xl, .int .i64 xo, .slice A2 M2.length c2], .int .i64 at_, .int .i64 er]) ∧ RSrc w2' A2 M2 ∧ M2.length ≤ 40 ∧ texts M2 = texts M ∧ Below W2.heap.size W2 w2') :
    Calls Try.prog 9 #[.agg #[.bool poll, .int .i64 fi, .int .i64 sn, .bool part, .bool last, .int .i64 off, .slice A n cap], .int .i64 a, .int .i64 b, .int .i64 grant, .int .i64 wd] w fun e w' => e = .returned (.bool true) ∧ Below w.heap.size w w' := by
  have HB0 := Lib.hid (bl_alloc (Below.refl w.heap.size w) (.cells #[.bool poll, .int .i64 fi, .int .i64 sn, .bool part, .bool last, .int .i64 off, .slice A n cap] 32))
  have RP0 := Lib.hid (Row.made w 32 #[.bool poll, .int .i64 fi, .int .i64 sn, .bool part, .bool last, .int .i64 off, .slice A n cap])
  have HGR := Lib.hid (great_any n cap (w.alloc (.cells #[.bool poll, .int .i64 fi, .int .i64 sn, .bool part, .bool last, .int .i64 off, .slice A n cap] 32)) hL hn (hs.later HB0.out) hm)
  have HC := Lib.hid hc
  have HLE := Lib.hid (fun W => rsleast_any wd W)
  have HHD := Lib.hid (fun W => rahead_any true wd W)
  have hle : leastR wd = if headA true wd = 0 then 0 else headA true wd + 1 := rfl
  have hh := headA_nonneg true wd
  generalize (lens L).sum = d at *
  generalize leastR wd = le at *
  generalize headA true wd = hd at *
  clear hs hL hm hc
  go_enter Try.func9, Try.ntmps9
  go_wp2_with (go_at_call 19; refine HGR.out.mono ?_; rintro e w1 ⟨⟨b', rfl, hbb⟩, rfl⟩; (have HBB := Lib.hid hbb); clear hbb; cases b')
  · obtain ⟨hn40, hd9⟩ := HBB.out (by first | rfl | trivial)
    have hcase : (hd = 0 ∧ le = 0) ∨ (0 < hd ∧ le = hd + 1) := by
      rcases Decidable.em (hd = 0) with h | h
      · exact .inl ⟨h, by rw [hle, if_pos h]⟩
      · exact .inr ⟨by omega, by rw [hle, if_neg h]⟩
    clear hle
    rcases hcase with ⟨rfl, rfl⟩ | ⟨hd0, rfl⟩
    all_goals
      go_wp2_with (first
        | (go_at_call 39; (with_reducible refine (HC.out _ HB0.out hn40 hd9).mono ?_); rintro e w2 ⟨A1, c1, M, rfl, hs1, hm40, hb2, hrf⟩; obtain ⟨k1, hk1⟩ : ∃ k1, M.length = k1 := ⟨_, rfl⟩; rw [hk1]; (have HK1 := Lib.hid hk1); (have HS1 := Lib.hid hs1); (have HRF := Lib.hid hrf); (have HBA := Lib.hid (bl_step HB0.out hb2)); (have HX2 := Lib.hid (bl_alloc (Below.refl w2.heap.size w2) (.cells #[.bool xp, .int .i64 xf, .int .i64 xs, .bool xq, .bool xl, .int .i64 xo, .slice A1 k1 c1] 32))); (have HB2 := Lib.hid (HBA.out.trans (HX2.out.mono HBA.out.size))); (have RP2 := Lib.hid ((RP0.out.later hb2).more (.cells #[.bool xp, .int .i64 xf, .int .i64 xs, .bool xq, .bool xl, .int .i64 xo, .slice A1 k1 c1] 32))); (have RX2 := Lib.hid (Row.made w2 32 #[.bool xp, .int .i64 xf, .int .i64 xs, .bool xq, .bool xl, .int .i64 xo, .slice A1 k1 c1])); obtain ⟨b0, b1, b2, b3, b4, b5, b6⟩ := cells_pk RP2.out; clear hs1 hrf hb2 hk1)
        | (go_at_call 22; (with_reducible refine (aas_any poll part last fi sn off A n cap _).mono ?_); rintro e w3 ⟨rfl, hb3⟩; (have HX3 := Lib.hid (HX2.out.trans (hb3.mono HX2.out.size))); (have HB3 := Lib.hid (HB2.out.trans (hb3.mono HB2.out.size))); (have RX3 := Lib.hid (RX2.out.later hb3)); clear hb3)
        | (go_at_call 40; (with_reducible refine (HRF.out _ HX3.out).mono ?_); rintro e w4 ⟨A2, c2, M2, rfl, hs2, hm42, htx, hb4⟩; obtain ⟨k2, hk2⟩ : ∃ k2, M2.length = k2 := ⟨_, rfl⟩; rw [hk2]; (have HK2 := Lib.hid hk2); (have HS2 := Lib.hid hs2); (have HTX := Lib.hid htx); (have HX4 := Lib.hid (HX3.out.trans (hb4.mono HX3.out.size))); (have HY4 := Lib.hid (bl_alloc (Below.refl w4.heap.size w4) (.cells #[.bool xp, .int .i64 xf, .int .i64 xs, .bool xq, .bool xl, .int .i64 xo, .slice A2 k2 c2] 35))); (have HX5 := Lib.hid (HX4.out.trans (HY4.out.mono HX4.out.size))); (have HB4 := Lib.hid ((HB3.out.trans (hb4.mono HB3.out.size)).trans (HY4.out.mono (Nat.le_trans HB3.out.size hb4.size)))); (have RX4 := Lib.hid ((RX3.out.later hb4).more (.cells #[.bool xp, .int .i64 xf, .int .i64 xs, .bool xq, .bool xl, .int .i64 xo, .slice A2 k2 c2] 35))); (have RY4 := Lib.hid (Row.made w4 35 #[.bool xp, .int .i64 xf, .int .i64 xs, .bool xq, .bool xl, .int .i64 xo, .slice A2 k2 c2])); obtain ⟨x0, x1, x2, x3, x4, x5, x6⟩ := cells_pk RX4.out; obtain ⟨y0, y1, y2, y3, y4, y5, y6⟩ := cells_pk RY4.out; clear hs2 htx hb4 hk2)
        | (go_at_call 29; (with_reducible refine (HHD.out _).mono ?_); rintro e wy ⟨rfl, rfl⟩))
      have HBD := Lib.hid (bl_drew HB4.out)
      go_region_held3 (fun W => W.cell? ⟨w2.heap.size, 0, none⟩ = some (.bool xp) ∧ W.cell? ⟨w2.heap.size, 1, none⟩ = some (.int .i64 xf) ∧ W.cell? ⟨w2.heap.size, 2, none⟩ = some (.int .i64 xs) ∧ W.cell? ⟨w2.heap.size, 3, none⟩ = some (.bool xq) ∧ W.cell? ⟨w2.heap.size, 4, none⟩ = some (.bool xl) ∧ W.cell? ⟨w2.heap.size, 5, none⟩ = some (.int .i64 xo) ∧ W.cell? ⟨w2.heap.size, 6, none⟩ = some (.slice A1 k1 c1) ∧ W.cell? ⟨w4.heap.size, 0, none⟩ = some (.bool xp) ∧ W.cell? ⟨w4.heap.size, 1, none⟩ = some (.int .i64 xf) ∧ W.cell? ⟨w4.heap.size, 2, none⟩ = some (.int .i64 xs) ∧ W.cell? ⟨w4.heap.size, 3, none⟩ = some (.bool xq) ∧ W.cell? ⟨w4.heap.size, 4, none⟩ = some (.bool xl) ∧ W.cell? ⟨w4.heap.size, 5, none⟩ = some (.int .i64 xo) ∧ W.cell? ⟨w4.heap.size, 6, none⟩ = some (.slice A2 k2 c2)) (first | with_reducible exact ⟨x0, x1, x2, x3, x4, x5, x6, y0, y1, y2, y3, y4, y5, y6⟩ | with_reducible exact ⟨m0, m1, m2, m3, m4, m5, m6, n0, n1, n2, n3, n4, n5, n6⟩ | with_reducible exact ⟨o0, o1, o2, o3, o4, o5, o6, p0, p1, p2, p3, p4, p5, p6⟩ | with_reducible exact ⟨q0, q1, q2, q3, q4, q5, q6, r0, r1, r2, r3, r4, r5, r6⟩ | go_keep) (first
        | (go_at_call 38; (with_reducible refine (rsalive_any _).mono ?_); rintro e w6 ⟨rfl, hb6⟩; (have HV6 := Lib.hid (bl_step (bl_drew (Below.refl _ _)) hb6)); (have HB6 := Lib.hid (HB4.out.trans (HV6.out.mono HB4.out.size))); (have RX6 := Lib.hid (RX4.out.later HV6.out)); (have RY6 := Lib.hid (RY4.out.later HV6.out)); obtain ⟨m0, m1, m2, m3, m4, m5, m6⟩ := cells_pk RX6.out; obtain ⟨n0, n1, n2, n3, n4, n5, n6⟩ := cells_pk RY6.out; clear hb6)
        | (go_at_call 22; (with_reducible refine (aas_any xp xq xl xf xs xo A1 k1 c1 _).mono ?_); rintro e w7 ⟨rfl, hb7⟩; (have HV7 := Lib.hid (HV6.out.trans (hb7.mono HV6.out.size))); (have HB7 := Lib.hid (HB6.out.trans (hb7.mono HB6.out.size))); (have RX7 := Lib.hid (RX6.out.later hb7)); (have RY7 := Lib.hid (RY6.out.later hb7)); obtain ⟨o0, o1, o2, o3, o4, o5, o6⟩ := cells_pk RX7.out; obtain ⟨p0, p1, p2, p3, p4, p5, p6⟩ := cells_pk RY7.out; clear hb7)
        | (go_at_call 27; (with_reducible refine (same_two xp xq xl xf xs xo HK1 HK2 HTX ((HS1.out.later HX5.out).later HV7.out) ((HS2.out.later HY4.out).later HV7.out) hm40).mono ?_); rintro e w8 ⟨rfl, hb8⟩; (have HB8 := Lib.hid (HB7.out.trans (hb8.mono HB7.out.size))); (have RX8 := Lib.hid (RX7.out.later hb8)); (have RY8 := Lib.hid (RY7.out.later hb8)); obtain ⟨q0, q1, q2, q3, q4, q5, q6⟩ := cells_pk RX8.out; obtain ⟨r0, r1, r2, r3, r4, r5, r6⟩ := cells_pk RY8.out; clear hb8)
        | (go_at_call 41; (with_reducible refine (HLE.out _).mono ?_); rintro e w11 ⟨rfl, rfl⟩))
      go_wp2_with fail
      go_ret
      exact ⟨ret_bool (by simp), HB8.out⟩
  · go_wp2_with (go_at_call 38; refine (rsalive_any _).mono ?_; rintro e w2 ⟨rfl, hb2⟩)
    go_ret
    exact ⟨rfl, bl_step HB0.out hb2⟩
theorem rcuts_all {A : Option Addr} (poll part last : Bool) (fi sn off a b grant wd : Int) (L : List RowB) (cap : Nat) (w : World) (hcap : L.length ≤ cap) (hcm : cap ≤ 9223372036854775807) (hs : RSrc w A L) (hm : ∀ m ∈ lens L, m ≤ 9223372036854775807) :
    Calls Try.prog 9 #[.agg #[.bool poll, .int .i64 fi, .int .i64 sn, .bool part, .bool last, .int .i64 off, .slice A L.length cap], .int .i64 a, .int .i64 b, .int .i64 grant, .int .i64 wd] w fun e w' => e = .returned (.bool true) ∧ Below w.heap.size w w' := by
  by_cases h0 : faultR part last fi sn off (lens L) a b grant wd = 0
  · obtain ⟨hpa, hne, hg0, hg1, ha0, hlt, hle⟩ := faultR_ok h0
    subst hpa
    obtain ⟨a', rfl⟩ : ∃ a' : Nat, a = a' := ⟨a.toNat, by omega⟩
    obtain ⟨b', rfl⟩ : ∃ b' : Nat, b = b' := ⟨b.toNat, by omega⟩
    obtain ⟨hwd, _, _, _, _, hl1, hl24, hok, _⟩ := amdF_pos hne
    rw [length_lens] at hl1 hl24
    have hp : ∀ l ∈ lens L, 0 < l := by
      intro m hm
      obtain ⟨k, hk⟩ := List.getElem?_of_mem hm
      have := okTo_small hok hk
      omega
    by_cases hall : a' = 0 ∧ b' = (lens L).sum ∧ amdF false last fi sn off (lens L) wd ≤ grant
    · obtain ⟨rfl, rfl, hg⟩ := hall
      refine rcuts_walk poll false last fi sn off _ _ grant wd L.length cap w rfl (by omega) hs hm 0 ((lens L).sum : Nat) false false last fi sn off (fun W hW hn hd => ?_)
      refine (rsc_whole poll false last fi sn off L.length cap _ grant wd W rfl (hs.later hW) h0 rfl hg).mono ?_
      rintro e w' ⟨g, M, rfl, h1, h2, h3, h4⟩
      refine ⟨some ⟨g, 0, none⟩, L.length, M, by rw [h1], h3.src, by omega, h4, fun W2 hW2 => ?_⟩
      refine (rrc_whole poll last fi sn off L.length cap _ grant wd W2 rfl hn ((hs.later (hW.trans (h4.mono hW.size))).later hW2) hd h0 rfl hg).mono ?_
      rintro e2 w2' ⟨rfl, h5⟩
      exact ⟨A, cap, L, rfl, ((hs.later (hW.trans (h4.mono hW.size))).later hW2).later h5, hn, h2.symm, h5⟩
    · have hno : a' ≠ 0 ∨ b' ≠ (lens L).sum ∨ grant < amdF false last fi sn off (lens L) wd := by
        by_cases h1 : a' = 0
        · by_cases h2 : b' = (lens L).sum
          · exact .inr (.inr (by have : ¬ amdF false last fi sn off (lens L) wd ≤ grant := fun h => hall ⟨h1, h2, h⟩; omega))
          · exact .inr (.inl h2)
        · exact .inl h1
      by_cases hN : ∃ N, 0 < N ∧ CutN (lens L) a' b' (min grant 4000 - headA true wd) (lwA wd) N
      · obtain ⟨N, hN0, hC⟩ := hN
        have honly : ∀ N', CutN (lens L) a' b' (min grant 4000 - headA true wd) (lwA wd) N' → N' = N := fun N' h => CutN.only hp (by rw [length_lens]; exact hl24) (by omega) h hC
        have hroom : ¬ min grant 4000 - headA true wd < 1 := fun h => by have := (hC.zero_iff (by omega)).2 h; omega
        refine rcuts_walk poll false last fi sn off _ _ grant wd L.length cap w rfl (by omega) hs hm 0 ((a' + N : Nat) : Int) false true (decide (a' + N = (lens L).sum)) (fiC (lens L) fi a' (a' + N)) sn a' (fun W hW hn hd => ?_)
        refine (rsc_part poll false last fi sn off L.length cap a' b' grant wd W rfl (hs.later hW) h0 hno).mono ?_
        rintro e w' (⟨h, _⟩ | ⟨N1, g, k, M, h1, h2, h3, h4, h5, h6, h7, h8⟩)
        · exact absurd h hroom
        · obtain rfl := honly N1 h2
          have hml : M.length ≤ 40 := by
            have h9 := pcs_len (a := a') (N := N1) hp (by have := h2.1; omega)
            rw [← h5, length_lens, length_lens] at h9
            omega
          refine ⟨some ⟨g, 0, none⟩, k, M, by rw [h3, h4], h7.src, hml, h8, fun W2 hW2 => ?_⟩
          refine (rrc_part poll last fi sn off L.length cap a' b' grant wd W2 rfl hn ((hs.later (hW.trans (h8.mono hW.size))).later hW2) hd h0 hno).mono ?_
          rintro e2 w2' (⟨h, _⟩ | ⟨N2, g2, c2, M2, i1, i2, i3, i4, i5, i6⟩)
          · exact absurd h hroom
          · obtain rfl := honly N2 i2
            have hM2 : M2.length = M.length := by rw [← length_texts, i4, ← h6, length_texts]
            exact ⟨some ⟨g2, 0, none⟩, c2, M2, i3, i5.src, by omega, by rw [i4, h6], i6⟩
      · refine rcuts_walk poll false last fi sn off _ _ grant wd L.length cap w rfl (by omega) hs hm 16 0 false false false 0 0 0 (fun W hW hn hd => ?_)
        refine (rsc_part poll false last fi sn off L.length cap a' b' grant wd W rfl (hs.later hW) h0 hno).mono ?_
        rintro e w' (⟨_, h1, h2⟩ | ⟨N1, g, k, M, h1, h2, _⟩)
        · refine ⟨none, 0, [], h1, (fun h => by simp at h), by simp, h2, fun W2 hW2 => ?_⟩
          refine (rrc_part poll last fi sn off L.length cap a' b' grant wd W2 rfl hn ((hs.later (hW.trans (h2.mono hW.size))).later hW2) hd h0 hno).mono ?_
          rintro e2 w2' (⟨_, i1, i2⟩ | ⟨N2, g2, c2, M2, i1, i2, _⟩)
          · exact ⟨none, 0, [], i1, (fun h => by simp at h), by simp, rfl, i2⟩
          · exact absurd ⟨N2, i1, i2⟩ hN
        · exact absurd ⟨N1, h1, h2⟩ hN
  · refine rcuts_walk poll part last fi sn off a b grant wd L.length cap w rfl (by omega) hs hm (faultR part last fi sn off (lens L) a b grant wd) 0 false false false 0 0 0 (fun W hW hn hd => ?_)
    refine (rsc_bad poll part last fi sn off L.length cap a b grant wd W rfl (by omega) (hs.later hW) hm (by omega) h0).mono ?_
    rintro e w' ⟨h1, h2⟩
    refine ⟨none, 0, [], h1, (fun h => by simp at h), by simp, h2, fun W2 hW2 => ?_⟩
    refine (rrc_bad poll part last fi sn off L.length cap a b grant wd W2 rfl hn ((hs.later (hW.trans (h2.mono hW.size))).later hW2) hd h0).mono ?_
    rintro e2 w2' ⟨i1, i2⟩
    exact ⟨none, 0, [], i1, (fun h => by simp at h), by simp, rfl, i2⟩
end Go.Proofs.Ytolinlnnbdjimaa
