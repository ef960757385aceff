/-
  ResegSame: the law walked. reseg: what goes may be, and fits into its grant. A region that draws its order, walked by hand.
-/
import Derived.Test.YtolinlnnbdjimaaJResegFits21
import Derived.Test.YtolinlnnbdjimaaJResegFits19
import Derived.Test.YtolinlnnbdjimaaJResegFits01
import Derived.Deep.RegionHeld3
namespace Go.Proofs.Ytolinlnnbdjimaa
open Go.RowKit

theorem pcs_all {ls : List Nat} (hp : ∀ l ∈ ls, 0 < l) : pcs ls 0 ls.sum = ls := by
  have key : ∀ j, j ≤ ls.length → pcs ls 0 (sumTo ls j) = ls.take j := by
    intro j hj
    induction j with
    | zero => simp [sumTo, pcs]
    | succ j ih =>
      have hm : ls[j]? = some ls[j] := List.getElem?_eq_getElem (by omega)
      have h0 : 0 < ls[j] := hp _ (List.getElem_mem _)
      rw [sumTo_succ hm, List.take_succ_eq_append_getElem (by omega), ← ih (by omega)]
      have he := endF_to (p := sumTo ls j) hm (Nat.le_refl _) (by omega)
      have hs : sumTo ls j + ls[j] ≤ ls.sum := by rw [← sumTo_succ hm]; exact sumTo_le _ _
      have hi := (endF_in (ls := ls) (p := sumTo ls j) (by omega)).2.2.2
      rw [he] at hi
      exact pcs_jump h0 (.inr (by rw [Nat.zero_add]; exact edgeF_to)) (fun x h1 h2 => hi x (by omega) (by omega))
  have := key ls.length (Nat.le_refl _)
  rwa [sumTo_all, List.take_length] at this
theorem headA_two {wd : Int} (h : wd = 10 ∨ wd = 16) : headA true wd = headA false wd + 2 := by
  rcases h with rfl | rfl <;> rfl
theorem cut_less {ls : List Nat} {room wd : Int} {N : Nat} (hp : ∀ l ∈ ls, 0 < l) (h : CutN ls 0 ls.sum room wd N) (h0 : 0 < ls.sum) (hr : room < ls.sum + sizeF ((ls.length : Int) - 1) wd) : N < ls.sum := by
  obtain ⟨h1, h2, _⟩ := h
  rcases Nat.lt_or_ge N ls.sum with h3 | h3
  · exact h3
  · have e : N = ls.sum := by omega
    rcases h2 with h2 | h2
    · omega
    · unfold costP at h2
      rw [e, pcs_all hp] at h2
      omega
set_option maxRecDepth 100000 in
set_option maxHeartbeats 3200000 in
/-- the law answers at once -/
theorem rsame_none {A : Option Addr} {L : List RowB} (poll part last : Bool) (fi sn off wd : Int) (n cap : Nat) (w : World) (hL : L.length = n) (hn : n ≤ 9223372036854775807) (hs : RSrc w A L) (hm : ∀ m ∈ lens L, m ≤ 9223372036854775807) (hno : part = true ∨ amdF part last fi sn off (lens L) wd = 0) :
    Calls Try.prog 12 #[.agg #[.bool poll, .int .i64 fi, .int .i64 sn, .bool part, .bool last, .int .i64 off, .slice A n cap], .int .i64 wd] w fun e w' => e = .returned (.bool true) ∧ Below w.heap.size w w' := by
  have HB0 := Lib.hid (bl_alloc (Below.refl w.heap.size w) (.cells #[.bool poll, .int .i64 fi, .int .i64 sn, .bool part, .bool last, .int .i64 off, .slice A n cap] 32))
  have HGR := Lib.hid (great_any n cap (w.alloc (.cells #[.bool poll, .int .i64 fi, .int .i64 sn, .bool part, .bool last, .int .i64 off, .slice A n cap] 32)) hL hn (hs.later HB0.out) hm)
  have HR := Lib.hid (fun W (hb : Below w.heap.size w W) => aright_any (A := A) poll part last fi sn off wd n cap W hL hn (hs.later hb) hm)
  have hcase : part = true ∨ (part = false ∧ decide (0 < amdF part last fi sn off (lens L) wd) = false) := by
    cases part
    · refine .inr ⟨rfl, ?_⟩
      rcases hno with h | h
      · cases h
      · rw [h]; rfl
    · exact .inl rfl
  clear hs hL hm hno
  rcases hcase with rfl | ⟨rfl, h0⟩
  · go_enter Try.func12, Try.ntmps12
    go_wp2_with (go_at_call 19; refine HGR.out.mono ?_; rintro e w1 ⟨⟨b, rfl, hbb⟩, rfl⟩; clear hbb; cases b)
    all_goals
      go_wp2_with (go_at_call 38; refine (rsalive_any _).mono ?_; rintro e w2 ⟨rfl, hb2⟩)
      go_ret
      exact ⟨rfl, bl_step HB0.out hb2⟩
  · rw [h0] at HR
    clear h0
    go_enter Try.func12, Try.ntmps12
    go_wp2_with (go_at_call 19; refine HGR.out.mono ?_; rintro e w1 ⟨⟨b, rfl, hbb⟩, rfl⟩; clear hbb; cases b)
    · go_wp2_with (first
        | (go_at_call 25; (with_reducible refine (HR.out _ HB0.out).mono ?_); rintro e w3 ⟨rfl, hb3⟩; (have HB3 := Lib.hid (bl_step HB0.out hb3)); clear hb3)
        | (go_at_call 38; refine (rsalive_any _).mono ?_; rintro e w2 ⟨rfl, hb2⟩))
      go_ret
      exact ⟨rfl, HB3.out.trans (hb2.mono HB3.out.size)⟩
    · go_wp2_with (go_at_call 38; refine (rsalive_any _).mono ?_; rintro e w2 ⟨rfl, hb2⟩)
      go_ret
      exact ⟨rfl, bl_step HB0.out hb2⟩
set_option maxRecDepth 100000 in
set_option maxHeartbeats 6400000 in
theorem rsame_some {A : Option Addr} {L : List RowB} (poll last : Bool) (fi sn off wd : Int) (n cap : Nat) (w : World) (hL : L.length = n) (hs : RSrc w A L) (h0 : amdF false last fi sn off (lens L) wd ≠ 0) :
    Calls Try.prog 12 #[.agg #[.bool poll, .int .i64 fi, .int .i64 sn, .bool false, .bool last, .int .i64 off, .slice A n cap], .int .i64 wd] w fun e w' => e = .returned (.bool true) ∧ Below w.heap.size w w' := by
  obtain ⟨hwd, hf0, hf3, _, _, hl1, hl24, hok, hFeq⟩ := amdF_pos h0
  have hn24 : n ≤ 24 := by rw [← hL, ← length_lens]; exact hl24
  have hsum := sumTo_bound hok (Nat.le_refl _)
  rw [sumTo_all] at hsum
  have hbig := amdF_big false last fi sn off (lens L) wd
  have hnn := amdF_nonneg false last fi sn off (lens L) wd
  have hm : ∀ m ∈ lens L, m ≤ 9223372036854775807 := by
    intro m hm
    obtain ⟨k, hk⟩ := List.getElem?_of_mem hm
    have := okTo_small hok hk
    omega
  have hp : ∀ l ∈ lens L, 0 < l := by
    intro m hm
    obtain ⟨k, hk⟩ := List.getElem?_of_mem hm
    have := okTo_small hok hk
    omega
  have hd0 : 0 < (lens L).sum := by
    have h1 := sizeF_nonneg (((lens L).length : Int) - 1) (lwA wd)
    rcases Nat.eq_zero_or_pos (lens L).sum with h | h
    · obtain ⟨k, hk⟩ : ∃ m, (lens L)[0]? = some m := ⟨_, List.getElem?_eq_getElem (by omega)⟩
      have := hp k (List.mem_of_getElem? hk)
      have := le_sum_mem (List.mem_of_getElem? hk)
      omega
    · exact h
  have h2 := headA_two hwd
  have hh := headA_nonneg false wd
  have hsz := sizeF_nonneg (((lens L).length : Int) - 1) (lwA wd)
  have hfr : ∀ g : Int, 0 ≤ g → g ≤ 4096 → faultR false last fi sn off (lens L) 0 ((lens L).sum : Nat) g wd = 0 := by
    intro g g0 g1
    unfold faultR
    rw [if_neg (by simp; exact h0), if_neg (by omega), if_neg (by omega)]
  generalize hF : amdF false last fi sn off (lens L) wd = F at *
  have HCW := Lib.hid (fun W (hb : Below w.heap.size w W) => rsc_whole (A := A) (L := L) poll false last fi sn off n cap (lens L).sum F wd W hL (hs.later hb) (hfr F (by omega) (by omega)) rfl (by rw [hF]; omega))
  have HCP : ∀ W, Below w.heap.size w W → Calls Try.prog 39 #[.agg #[.bool poll, .int .i64 fi, .int .i64 sn, .bool false, .bool last, .int .i64 off, .slice A n cap], .int .i64 0, .int .i64 ((lens L).sum : Nat), .int .i64 (F - 1), .int .i64 wd] W fun e w' => ((∃ (f2 : Int) (lb : Bool) (gg kk q : Nat), e = .returned (.tuple #[.agg #[.bool false, .int .i64 f2, .int .i64 sn, .bool true, .bool lb, .int .i64 0, .slice (some ⟨gg, 0, none⟩) kk kk], .int .i64 (q : Nat), .int .i64 0]) ∧ q < (lens L).sum) ∨ (e = .returned (.tuple #[.agg #[.bool false, .int .i64 0, .int .i64 0, .bool false, .bool false, .int .i64 0, .slice none 0 0], .int .i64 0, .int .i64 16]) ∧ F - 1 < leastR wd)) ∧ Below W.heap.size W w' := by
    intro W hb
    refine (rsc_part (A := A) (L := L) poll false last fi sn off n cap 0 (lens L).sum (F - 1) wd W hL (hs.later hb) (hfr (F - 1) (by omega) (by omega)) (.inr (.inr (by rw [hF]; omega)))).mono ?_
    rintro e w' (⟨h9, he, hb9⟩ | ⟨N, g, k, M, hN, hC, he, _, _, _, _, hb9⟩)
    · refine ⟨.inr ⟨he, ?_⟩, hb9⟩
      unfold leastR
      rw [if_neg (by omega)]
      omega
    · refine ⟨.inl ⟨_, _, _, _, 0 + N, he, ?_⟩, hb9⟩
      rw [Nat.zero_add]
      exact cut_less hp hC hd0 (by omega)
  have HCP := Lib.hid HCP
  have HB0 := Lib.hid (bl_alloc (Below.refl w.heap.size w) (.cells #[.bool poll, .int .i64 fi, .int .i64 sn, .bool false, .bool last, .int .i64 off, .slice A n cap] 32))
  have HGR := Lib.hid (great_any n cap (w.alloc (.cells #[.bool poll, .int .i64 fi, .int .i64 sn, .bool false, .bool last, .int .i64 off, .slice A n cap] 32)) hL (by omega) (hs.later HB0.out) hm)
  have HR := Lib.hid (fun W (hb : Below w.heap.size w W) => aright_any (A := A) poll false last fi sn off wd n cap W hL (by omega) (hs.later hb) hm)
  rw [hF, decide_eq_true (show 0 < F by omega)] at HR
  have HSZ := Lib.hid (fun W (hb : Below w.heap.size w W) => asize_any (A := A) poll false last fi sn off wd n cap W hL (by omega) (hs.later hb) hm)
  rw [hF] at HSZ
  have HD := Lib.hid (fun W (hb : Below w.heap.size w W) => adata_len (A := A) poll false last fi sn off n cap W hL (by omega) (hs.later hb) (by omega))
  have HLE := Lib.hid (fun W => rsleast_any wd W)
  have HSM := Lib.hid (fun W g M (hb : Below w.heap.size w W) (h1 : M.length = n) (h2 : texts M = texts L) (h3 : RSrc W (some ⟨g, 0, none⟩) M) => (by
    have h := asame_any (A := some ⟨g, 0, none⟩) (B := A) (L := M) (M := L) false false last fi sn off false false last fi sn off n n n cap W h1 hL (by omega) h3 (hs.later hb)
    rw [h2, eqA_self] at h
    exact h : Calls Try.prog 26 #[.agg #[.bool false, .int .i64 fi, .int .i64 sn, .bool false, .bool last, .int .i64 off, .slice (some ⟨g, 0, none⟩) n n], .agg #[.bool false, .int .i64 fi, .int .i64 sn, .bool false, .bool last, .int .i64 off, .slice A n cap]] W (SameAns true W)))
  have hd4 : (lens L).sum ≤ 96000 := by omega
  generalize (lens L).sum = d at *
  generalize leastR wd = le at *
  have RP0 := Lib.hid (Row.made w 32 #[.bool poll, .int .i64 fi, .int .i64 sn, .bool false, .bool last, .int .i64 off, .slice A n cap])
  have hF1 : 1 ≤ F := by omega
  clear hs hm hL hp hok hFeq hfr hF h2 hh hsz hsum hl1 hl24
  go_enter Try.func12, Try.ntmps12
  go_wp2_with (go_at_call 19; refine HGR.out.mono ?_; rintro e w1 ⟨⟨b, rfl, hbb⟩, rfl⟩; clear hbb; cases b)
  · go_wp2_with (go_at_call 25; (with_reducible refine (HR.out _ HB0.out).mono ?_); rintro e w3 ⟨rfl, hb3⟩; (have HB3 := Lib.hid (bl_step HB0.out hb3)); (have RP3 := Lib.hid (RP0.out.later hb3)); (have HB3D := Lib.hid (bl_drew HB3.out)); obtain ⟨k0, k1, k2, k3, k4, k5, k6⟩ := cells_pk RP3.out; clear hb3)
    go_region_held3 (fun w' => w'.cell? ⟨w.heap.size, 0, none⟩ = some (.bool poll) ∧ w'.cell? ⟨w.heap.size, 1, none⟩ = some (.int .i64 fi) ∧ w'.cell? ⟨w.heap.size, 2, none⟩ = some (.int .i64 sn) ∧ w'.cell? ⟨w.heap.size, 3, none⟩ = some (.bool false) ∧ w'.cell? ⟨w.heap.size, 4, none⟩ = some (.bool last) ∧ w'.cell? ⟨w.heap.size, 5, none⟩ = some (.int .i64 off) ∧ w'.cell? ⟨w.heap.size, 6, none⟩ = some (.slice A n cap)) (first | with_reducible exact ⟨k0, k1, k2, k3, k4, k5, k6⟩ | with_reducible exact ⟨l0, l1, l2, l3, l4, l5, l6⟩ | with_reducible exact ⟨m0, m1, m2, m3, m4, m5, m6⟩ | go_keep) (first
      | (go_at_call 24; (with_reducible refine (HSZ.out _ HB3D.out).mono ?_); rintro e w4 ⟨rfl, hb4⟩; (have HB4 := Lib.hid (HB3D.out.trans (hb4.mono HB3D.out.size))); (have RP4 := Lib.hid ((RP3.out.later (bl_drew (Below.refl _ _))).later hb4)); obtain ⟨l0, l1, l2, l3, l4, l5, l6⟩ := cells_pk RP4.out; clear hb4)
      | (go_at_call 30; (with_reducible refine (HD.out _ HB4.out).mono ?_); rintro e w5 ⟨A5, c5, rfl, -, hb5⟩; (have HB5 := Lib.hid (HB4.out.trans (hb5.mono HB4.out.size))); (have RP5 := Lib.hid (RP4.out.later hb5)); obtain ⟨m0, m1, m2, m3, m4, m5, m6⟩ := cells_pk RP5.out; clear hb5))
    go_wp2_with (first
      | (go_at_call 39; (with_reducible refine (HCW.out _ HB5.out).mono ?_); rintro e w6 ⟨g, M, rfl, y1, y2, y3, hb6⟩; (have Y1 := Lib.hid y1); (have Y2 := Lib.hid y2); (have Y3 := Lib.hid y3); (have HB6 := Lib.hid (HB5.out.trans (hb6.mono HB5.out.size))); (have HB6A := Lib.hid (bl_alloc (bl_alloc HB6.out (.cells #[.bool false, .int .i64 fi, .int .i64 sn, .bool false, .bool last, .int .i64 off, .slice (some ⟨g, 0, none⟩) n n] 32)) (.cells #[.bool false, .int .i64 fi, .int .i64 sn, .bool false, .bool last, .int .i64 off, .slice A n cap] 32))); (have RP6 := Lib.hid (((RP5.out.later hb6).more (.cells #[.bool false, .int .i64 fi, .int .i64 sn, .bool false, .bool last, .int .i64 off, .slice (some ⟨g, 0, none⟩) n n] 32)))); (have RP7 := Lib.hid (RP6.out.more (.cells #[.bool false, .int .i64 fi, .int .i64 sn, .bool false, .bool last, .int .i64 off, .slice A n cap] 32))); (have RX7 := Lib.hid ((Row.made w6 32 #[.bool false, .int .i64 fi, .int .i64 sn, .bool false, .bool last, .int .i64 off, .slice (some ⟨g, 0, none⟩) n n]).more (.cells #[.bool false, .int .i64 fi, .int .i64 sn, .bool false, .bool last, .int .i64 off, .slice A n cap] 32))); (have RL7 := Lib.hid (row1 w6 (.cells #[.bool false, .int .i64 fi, .int .i64 sn, .bool false, .bool last, .int .i64 off, .slice (some ⟨g, 0, none⟩) n n] 32) 32 #[.bool false, .int .i64 fi, .int .i64 sn, .bool false, .bool last, .int .i64 off, .slice A n cap])); obtain ⟨n_0, n_1, n_2, n_3, n_4, n_5, n_6⟩ := cells_pk RP6.out; obtain ⟨o_0, o_1, o_2, o_3, o_4, o_5, o_6⟩ := cells_pk RP7.out; clear hb6 y1 y2 y3)
      | (go_at_call 39; (with_reducible refine (HCP.out _ HB6A.out).mono ?_); rintro e w8 ⟨hor, hb8⟩; (have HBB := Lib.hid ((bl_alloc (bl_alloc (Below.refl w6.heap.size w6) (.cells #[.bool false, .int .i64 fi, .int .i64 sn, .bool false, .bool last, .int .i64 off, .slice (some ⟨g, 0, none⟩) n n] 32)) (.cells #[.bool false, .int .i64 fi, .int .i64 sn, .bool false, .bool last, .int .i64 off, .slice A n cap] 32)).trans (hb8.mono (by simp only [World.size_alloc]; omega)))); (have HB8 := Lib.hid (HB6A.out.trans (hb8.mono HB6A.out.size))); (have RX8 := Lib.hid (RX7.out.later hb8)); (have RL8 := Lib.hid (RL7.out.later hb8)); clear hb8; rcases hor with ⟨f2, lb, gg, kk, q, rfl, hq⟩ | ⟨rfl, hle⟩))
    · have hqI : (q : Int) < (d : Int) := by omega
      go_wp2_with (first
        | (go_at_call 38; (with_reducible refine (rsalive_any _).mono ?_); rintro e w9 ⟨rfl, hb9⟩; (have HB9 := Lib.hid (bl_step (bl_alloc HB8.out (.cells #[.bool false, .int .i64 f2, .int .i64 sn, .bool true, .bool lb, .int .i64 0, .slice (some ⟨gg, 0, none⟩) kk kk] 32)) hb9)); (have HBC := Lib.hid (HBB.out.trans ((bl_step (bl_alloc (Below.refl w8.heap.size w8) (.cells #[.bool false, .int .i64 f2, .int .i64 sn, .bool true, .bool lb, .int .i64 0, .slice (some ⟨gg, 0, none⟩) kk kk] 32)) hb9).mono HBB.out.size))); (have RX9 := Lib.hid ((RX8.out.more (.cells #[.bool false, .int .i64 f2, .int .i64 sn, .bool true, .bool lb, .int .i64 0, .slice (some ⟨gg, 0, none⟩) kk kk] 32)).later hb9)); (have RL9 := Lib.hid ((RL8.out.more (.cells #[.bool false, .int .i64 f2, .int .i64 sn, .bool true, .bool lb, .int .i64 0, .slice (some ⟨gg, 0, none⟩) kk kk] 32)).later hb9)); (have RY9 := Lib.hid ((Row.made w8 32 #[.bool false, .int .i64 f2, .int .i64 sn, .bool true, .bool lb, .int .i64 0, .slice (some ⟨gg, 0, none⟩) kk kk]).later hb9)); obtain ⟨a0, a1, a2, a3, a4, a5, a6⟩ := cells_pk RX9.out; obtain ⟨b0, b1, b2, b3, b4, b5, b6⟩ := cells_pk RL9.out; obtain ⟨c0, c1, c2, c3, c4, c5, c6⟩ := cells_pk RY9.out; clear hb9)
        | (go_at_call 26; (with_reducible refine (HSM.out _ g M HB9.out Y1.out Y2.out ((Y3.out.src).later HBC.out)).mono ?_); rintro e w10 ⟨rfl, hb10⟩; (have HB10 := Lib.hid (HB9.out.trans (hb10.mono HB9.out.size))); (have RY10 := Lib.hid (RY9.out.later hb10)); obtain ⟨d_0, d_1, d_2, d_3, d_4, d_5, d_6⟩ := cells_pk RY10.out; clear hb10))
      go_ret
      exact ⟨rfl, HB10.out⟩
    · go_wp2_with (first
        | (go_at_call 38; (with_reducible refine (rsalive_any _).mono ?_); rintro e w9 ⟨rfl, hb9⟩; (have HB9 := Lib.hid (bl_step (bl_alloc HB8.out (.cells #[.bool false, .int .i64 0, .int .i64 0, .bool false, .bool false, .int .i64 0, .slice none 0 0] 32)) hb9)); (have HBC := Lib.hid (HBB.out.trans ((bl_step (bl_alloc (Below.refl w8.heap.size w8) (.cells #[.bool false, .int .i64 0, .int .i64 0, .bool false, .bool false, .int .i64 0, .slice none 0 0] 32)) hb9).mono HBB.out.size))); (have RX9 := Lib.hid ((RX8.out.more (.cells #[.bool false, .int .i64 0, .int .i64 0, .bool false, .bool false, .int .i64 0, .slice none 0 0] 32)).later hb9)); (have RL9 := Lib.hid ((RL8.out.more (.cells #[.bool false, .int .i64 0, .int .i64 0, .bool false, .bool false, .int .i64 0, .slice none 0 0] 32)).later hb9)); (have RY9 := Lib.hid ((Row.made w8 32 #[.bool false, .int .i64 0, .int .i64 0, .bool false, .bool false, .int .i64 0, .slice none 0 0]).later hb9)); obtain ⟨a0, a1, a2, a3, a4, a5, a6⟩ := cells_pk RX9.out; obtain ⟨b0, b1, b2, b3, b4, b5, b6⟩ := cells_pk RL9.out; obtain ⟨c0, c1, c2, c3, c4, c5, c6⟩ := cells_pk RY9.out; clear hb9)
        | (go_at_call 26; (with_reducible refine (HSM.out _ g M HB9.out Y1.out Y2.out ((Y3.out.src).later HBC.out)).mono ?_); rintro e w10 ⟨rfl, hb10⟩; (have HB10 := Lib.hid (HB9.out.trans (hb10.mono HB9.out.size))); (have RY10 := Lib.hid (RY9.out.later hb10)); obtain ⟨d_0, d_1, d_2, d_3, d_4, d_5, d_6⟩ := cells_pk RY10.out; clear hb10)
        | (go_at_call 41; (with_reducible refine (HLE.out _).mono ?_); rintro e w11 ⟨rfl, rfl⟩))
      go_ret
      exact ⟨rfl, HB10.out⟩
  · go_wp2_with (go_at_call 38; refine (rsalive_any _).mono ?_; rintro e w2 ⟨rfl, hb2⟩)
    go_ret
    exact ⟨rfl, bl_step HB0.out hb2⟩
theorem rsame_all {A : Option Addr} (poll part last : Bool) (fi sn off wd : Int) (L : List RowB) (cap : Nat) (w : World) (hcap : L.length ≤ cap) (hcm : cap ≤ 9223372036854775807) (hs : RSrc w A L) (hm : ∀ m ∈ lens L, m ≤ 9223372036854775807) :
    Calls Try.prog 12 #[.agg #[.bool poll, .int .i64 fi, .int .i64 sn, .bool part, .bool last, .int .i64 off, .slice A L.length cap], .int .i64 wd] w fun e w' => e = .returned (.bool true) ∧ Below w.heap.size w w' := by
  by_cases h0 : part = true ∨ amdF part last fi sn off (lens L) wd = 0
  · exact rsame_none poll part last fi sn off wd L.length cap w rfl (by omega) hs hm h0
  · cases part
    · exact rsame_some poll last fi sn off wd L.length cap w rfl hs (fun h => h0 (.inr h))
    · exact absurd (.inl rfl) h0
end Go.Proofs.Ytolinlnnbdjimaa
namespace Go.Proofs.Ytolinlnnbdjimaa
open Go.RowKit

theorem okTo_each {ls : List Nat} (h : ∀ k m, ls[k]? = some m → 1 ≤ m ∧ m ≤ 4000 ∧ (k + 1 ≠ ls.length → m ≤ 2047)) : okTo ls ls.length = true := by
  unfold okTo
  rw [List.all_eq_true]
  intro k hk
  rw [List.mem_range] at hk
  have hm : ls[k]? = some ls[k] := List.getElem?_eq_getElem hk
  obtain ⟨h1, h2, h3⟩ := h k _ hm
  rw [List.getD_eq_getElem?_getD, hm]
  unfold okAt
  simp only [Option.getD_some]
  rw [decide_eq_true h1, Bool.true_and, decide_eq_true_iff]
  split
  · exact h2
  · rename_i h4
    exact h3 h4
/-- something goes -/
def GoesF (fi sn : Int) (ls d : List Nat) (a b : Nat) (grant wd : Int) (pt lb : Bool) (f2 off2 : Int) (q : Nat) (M : List RowB) : Prop :=
  a < q ∧ q ≤ b ∧ flat M = (d.drop a).take (q - a) ∧ 0 < amdF pt lb f2 sn off2 (lens M) wd ∧ amdF pt lb f2 sn off2 (lens M) wd ≤ grant ∧ (pt = false → a = 0 ∧ q = ls.sum ∧ f2 = fi) ∧ (pt = true → lb = decide (q = ls.sum)) ∧ 1 ≤ M.length ∧ M.length ≤ 24
def GoesR (fi sn : Int) (ls d : List Nat) (a b : Nat) (grant wd : Int) (w : World) (e : Ending) (w' : World) : Prop :=
  ∃ (pt lb : Bool) (f2 off2 : Int) (g k q : Nat) (M : List RowB), e = .returned (.tuple #[.agg #[.bool false, .int .i64 f2, .int .i64 sn, .bool pt, .bool lb, .int .i64 off2, .slice (some ⟨g, 0, none⟩) k k], .int .i64 q, .int .i64 0]) ∧ M.length = k ∧ OwnR w.heap.size w' (.slice (some ⟨g, 0, none⟩) k k) M ∧ Below w.heap.size w w' ∧ GoesF fi sn ls d a b grant wd pt lb f2 off2 q M
theorem flat_slic {M : List RowB} {d P : List Nat} (h : texts M = slic d P) : flat M = d.take P.sum := by
  unfold flat
  rw [h, slic_flat]
theorem amdF_of {part last : Bool} {fi sn off wd : Int} {ls : List Nat} (hwd : wd = 10 ∨ wd = 16) (h0 : 0 ≤ fi) (h3 : fi ≤ 3) (hn : okn wd sn = true) (hp : placedA part last off wd = true) (h1 : 1 ≤ ls.length) (h24 : ls.length ≤ 24) (hok : okTo ls ls.length = true) (hb : headA part wd + sizeF ((ls.length : Int) - 1) (lwA wd) + ls.sum ≤ 4000) :
    amdF part last fi sn off ls wd = headA part wd + sizeF ((ls.length : Int) - 1) (lwA wd) + ls.sum := by
  unfold amdF
  rw [if_pos ⟨hwd, h0, h3, hn, hp⟩]
  unfold fieldsF
  rw [if_pos ⟨h1, h24, hok, hb⟩]
theorem part_goes {last : Bool} {fi sn off wd grant : Int} {ls d : List Nat} {a b N : Nat} {M : List RowB} (h0 : amdF false last fi sn off ls wd ≠ 0) (hab : a < b) (hb : b ≤ ls.sum) (hN : 0 < N) (hC : CutN ls a b (min grant 4000 - headA true wd) (lwA wd) N) (hl : lens M = pcs ls a N) (ht : texts M = slic (d.drop a) (pcs ls a N)) :
    GoesF fi sn ls d a b grant wd true (decide (a + N = ls.sum)) (fiC ls fi a (a + N)) a (a + N) M := by
  obtain ⟨hwd, hf0, hf3, hsn, _, hl1, hl24, hok, hFe⟩ := amdF_pos h0
  have hbig := amdF_big false last fi sn off ls wd
  have hp : ∀ l ∈ ls, 0 < l := by
    intro m hm
    obtain ⟨k, hk⟩ := List.getElem?_of_mem hm
    have := okTo_small hok hk
    omega
  have hcost : costP ls a (lwA wd) N ≤ min grant 4000 - headA true wd := by
    rcases hC.2.1 with h | h
    · omega
    · exact h
  have hsz := sizeF_nonneg ((ls.length : Int) - 1) (lwA wd)
  have hh := headA_nonneg false wd
  have hs := pcs_sum ls a N
  have hle := hC.1
  have hpl := pcs_len (a := a) (N := N) hp (by omega)
  have hpp := pcs_pos ls a hN
  have hok2 : okTo (pcs ls a N) (pcs ls a N).length = true := okTo_each fun k m hk => by
    obtain ⟨g1, g2⟩ := pcs_small (M := 2047) (a := a) (N := N) (fun j m hj hn => (okTo_small hok hj).2.2 hn) (by omega) hk
    have g3 := le_sum_mem (List.mem_of_getElem? hk)
    exact ⟨g1, by omega, g2⟩
  have hfc := fiC_bound ls fi a (a + N)
  unfold costP at hcost
  have hF := amdF_of (part := true) (last := decide (a + N = ls.sum)) (fi := fiC ls fi a (a + N)) (sn := sn) (off := (a : Int)) (ls := pcs ls a N) hwd hfc.1 hfc.2 hsn (by
    unfold placedA topA
    simp
    split <;> omega) (by omega) (by omega) hok2 (by rw [hs]; omega)
  have hsz2 := sizeF_nonneg (((pcs ls a N).length : Int) - 1) (lwA wd)
  have hh2 := headA_nonneg true wd
  have hml : M.length = (pcs ls a N).length := by rw [← hl, length_lens]
  refine ⟨by omega, hle, ?_, ?_, ?_, fun h => (by cases h), fun _ => rfl, by omega, by omega⟩
  · rw [flat_slic ht, hs, Nat.add_sub_cancel_left]
  · rw [hl, hF, hs]; omega
  · rw [hl, hF, hs]; omega
theorem texts_lens {M L : List RowB} (h : texts M = texts L) : lens M = lens L := by rw [lens_texts, h, ← lens_texts]
theorem rsc_goes {A : Option Addr} {L : List RowB} (poll part last : Bool) (fi sn off : Int) (n cap a b : Nat) (grant wd : Int) (w : World) (hL : L.length = n) (hs : RSrc w A L) (h0 : faultR part last fi sn off (lens L) a b grant wd = 0) :
    Calls Try.prog 39 #[.agg #[.bool poll, .int .i64 fi, .int .i64 sn, .bool part, .bool last, .int .i64 off, .slice A n cap], .int .i64 a, .int .i64 b, .int .i64 grant, .int .i64 wd] w fun e w' => (e = .returned (.tuple #[.agg #[.bool false, .int .i64 0, .int .i64 0, .bool false, .bool false, .int .i64 0, .slice none 0 0], .int .i64 0, .int .i64 16]) ∧ grant < leastR wd ∧ Below w.heap.size w w') ∨ GoesR fi sn (lens L) (flat L) a b grant wd w e w' := by
  obtain ⟨hpa, hne, hg0, hg1, _, hlt, hle⟩ := faultR_ok h0
  subst hpa
  by_cases hall : a = 0 ∧ b = (lens L).sum ∧ amdF false last fi sn off (lens L) wd ≤ grant
  · obtain ⟨rfl, rfl, hg⟩ := hall
    refine (rsc_whole poll false last fi sn off n cap (lens L).sum grant wd w hL hs h0 rfl hg).mono ?_
    rintro e w' ⟨g, M, rfl, h1, h2, h3, h4⟩
    have hnn := amdF_nonneg false last fi sn off (lens L) wd
    obtain ⟨_, _, _, _, _, hl1, hl24, _⟩ := amdF_pos hne
    rw [length_lens] at hl1 hl24
    refine .inr ⟨false, last, fi, off, g, n, (lens L).sum, M, rfl, h1, h3, h4, by omega, Nat.le_refl _, ?_, by rw [texts_lens h2]; omega, by rw [texts_lens h2]; exact hg, fun _ => ⟨rfl, rfl, rfl⟩, fun h => by (cases h), by omega, by omega⟩
    unfold flat
    rw [h2, List.drop_zero, Nat.sub_zero, ← length_flat]
    unfold flat
    rw [List.take_length]
  · refine (rsc_part poll false last fi sn off n cap a b grant wd w hL hs h0 (by
      by_cases h1 : a = 0
      · by_cases h2 : b = (lens L).sum
        · exact .inr (.inr (by have : ¬ amdF false last fi sn off (lens L) wd ≤ grant := fun h => hall ⟨h1, h2, h⟩; omega))
        · exact .inr (.inl h2)
      · exact .inl h1)).mono ?_
    rintro e w' (⟨h1, h2, h3⟩ | ⟨N, g, k, M, h1, h2, h3, h4, h5, h6, h7, h8⟩)
    · obtain ⟨hwd, _⟩ := amdF_pos hne
      have hh := headA_nonneg true wd
      refine .inl ⟨h2, ?_, h3⟩
      unfold leastR
      rw [if_neg (by rcases hwd with rfl | rfl <;> decide)]
      omega
    · exact .inr ⟨true, _, _, a, g, k, a + N, M, h3, h4, h7, h8, part_goes hne (by omega) (by omega) h1 h2 h5 h6⟩
end Go.Proofs.Ytolinlnnbdjimaa
namespace Go.Proofs.Ytolinlnnbdjimaa
open Go.RowKit

/-- a stronger condition may be held from here on -/
theorem wpAnyH_more {P : Program} {md : Region.Mode} {ops : Array Oper} {Q : Exit → Act → World → Prop} {S S' : World → Prop} : ∀ {fuel : Nat} {listed : Array Bool} {a : Act} {w : World}, wpAnyH P md ops Q S' fuel listed a w → (∀ w, S' w → S w) → wpAnyH P md ops Q S fuel listed a w
  | 0, _, _, _, h, _ => h
  | _ + 1, _, _, _, h, hs => ⟨h.1, fun i hi => wpOp_mono (fun _ _ h' => ⟨hs _ h'.1, wpAnyH_more h'.2 hs⟩) (h.2 i hi)⟩

theorem take_at {P : Program} {md : Region.Mode} {ops : Array Oper} {Q : Exit → Act → World → Prop} {S : World → Prop} (i t : Nat) {oi : Oper} {v : Value} {fuel : Nat} {listed : Array Bool} {a : Act} {w : World} (hi : ops[i]? = some oi) (hd : oi.dst = some t)
    (hs : Region.noSelect ops = true) (hf : Region.free md ops listed i = true) (hr : (Region.ready md ops listed).contains i = true)
    (hQ : ∀ c a w, Q (.panic c) (a.put oi.dst v) w → Q (.panic c) a w) (hy : YieldsIf P ops S oi v a) (hS : S w)
    (h : wpAnyH P md ops Q S fuel (listed.setIfInBounds i true) (a.put (some t) v) w) : wpAnyH P md ops Q S (fuel + 1) listed a w :=
  wpAnyH_take hi hs hf hr hQ hy hS (by rw [hd]; exact h)

/-- what of a frame is forgotten -/
theorem wp_of_frame {P : Program} {c : Code} {Q : Exit → Act → World → Prop} {a : Act} {w : World} (xs : List (Option Value)) (h : Fr xs a) (k : ∀ a', Fr xs a' → c.wp P Q a' w) : c.wp P Q a w := k a h
end Go.Proofs.Ytolinlnnbdjimaa
