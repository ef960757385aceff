/-
  ResegSame: the law walked. A law's row follows from its walk: the call returns true, and below the heap's old size the world is as it was; then every argument reads as it did. How the packets and bytes that a statement draws read. How the packets of amd that a statement draws read.
-/
import Derived.Test.YtolinlnnbdjimaaJResegSame21
import Derived.Test.YtolinlnnbdjimaaJResegSame19
import Derived.Test.YtolinlnnbdjimaaRows
import Derived.WalkKit
import Derived.ProofKit
import Derived.OpenShut
import Derived.Test.YtolinlnnbdjimaaJResegSame08
import Derived.SizedLaws
import Derived.Deep.Matrix
import Derived.Lib.SmallJoins
namespace Go.Proofs.Ytolinlnnbdjimaa
open Go.RowKit

theorem pcs_all {ls : List Nat} (hp : ∀ l ∈ ls, 0 < l) : pcs ls 0 ls.sum = ls := by
  have key : ∀ j, j ≤ ls.length → pcs ls 0 (sumTo ls j) = ls.take j := by
    intro j hj
    induction j with
    | zero => simp [sumTo, pcs]
    | succ j ih =>
      have hm : ls[j]? = some ls[j] := List.getElem?_eq_getElem (by omega)
      have h0 : 0 < ls[j] := hp _ (List.getElem_mem _)
      rw [sumTo_succ hm, List.take_succ_eq_append_getElem (by omega), ← ih (by omega)]
      have he := endF_to (p := sumTo ls j) hm (Nat.le_refl _) (by omega)
      have hs : sumTo ls j + ls[j] ≤ ls.sum := by rw [← sumTo_succ hm]; exact sumTo_le _ _
      have hi := (endF_in (ls := ls) (p := sumTo ls j) (by omega)).2.2.2
      rw [he] at hi
      exact pcs_jump h0 (.inr (by rw [Nat.zero_add]; exact edgeF_to)) (fun x h1 h2 => hi x (by omega) (by omega))
  have := key ls.length (Nat.le_refl _)
  rwa [sumTo_all, List.take_length] at this
theorem headA_two {wd : Int} (h : wd = 10 ∨ wd = 16) : headA true wd = headA false wd + 2 := by
  rcases h with rfl | rfl <;> rfl
theorem cut_less {ls : List Nat} {room wd : Int} {N : Nat} (hp : ∀ l ∈ ls, 0 < l) (h : CutN ls 0 ls.sum room wd N) (h0 : 0 < ls.sum) (hr : room < ls.sum + sizeF ((ls.length : Int) - 1) wd) : N < ls.sum := by
  obtain ⟨h1, h2, _⟩ := h
  rcases Nat.lt_or_ge N ls.sum with h3 | h3
  · exact h3
  · have e : N = ls.sum := by omega
    rcases h2 with h2 | h2
    · omega
    · unfold costP at h2
      rw [e, pcs_all hp] at h2
      omega
set_option maxRecDepth 100000 in
set_option maxHeartbeats 3200000 in
/-- the law answers at once -/
theorem rsame_none {A : Option Addr} {L : List RowB} (poll part last : Bool) (fi sn off wd : Int) (n cap : Nat) (w : World) (hL : L.length = n) (hn : n ≤ 9223372036854775807) (hs : RSrc w A L) (hm : ∀ m ∈ lens L, m ≤ 9223372036854775807) (hno : part = true ∨ amdF part last fi sn off (lens L) wd = 0) :
    Calls Try.prog 12 #[.agg #[.bool poll, .int .i64 fi, .int .i64 sn, .bool part, .bool last, .int .i64 off, .slice A n cap], .int .i64 wd] w fun e w' => e = .returned (.bool true) ∧ Below w.heap.size w w' := by
  have HB0 := Lib.hid (bl_alloc (Below.refl w.heap.size w) (.cells #[.bool poll, .int .i64 fi, .int .i64 sn, .bool part, .bool last, .int .i64 off, .slice A n cap] 32))
  have HGR := Lib.hid (great_any n cap (w.alloc (.cells #[.bool poll, .int .i64 fi, .int .i64 sn, .bool part, .bool last, .int .i64 off, .slice A n cap] 32)) hL hn (hs.later HB0.out) hm)
  have HR := Lib.hid (fun W (hb : Below w.heap.size w W) => aright_any (A := A) poll part last fi sn off wd n cap W hL hn (hs.later hb) hm)
  have hcase : part = true ∨ (part = false ∧ decide (0 < amdF part last fi sn off (lens L) wd) = false) := by
    cases part
    · refine .inr ⟨rfl, ?_⟩
      rcases hno with h | h
      · cases h
      · rw [h]; rfl
    · exact .inl rfl
  clear hs hL hm hno
  rcases hcase with rfl | ⟨rfl, h0⟩
  · go_enter Try.func12, Try.ntmps12
    go_wp2_with (go_at_call 19; refine HGR.out.mono ?_; rintro e w1 ⟨⟨b, rfl, hbb⟩, rfl⟩; clear hbb; cases b)
    all_goals
      go_wp2_with (go_at_call 38; refine (rsalive_any _).mono ?_; rintro e w2 ⟨rfl, hb2⟩)
      go_ret
      exact ⟨rfl, bl_step HB0.out hb2⟩
  · rw [h0] at HR
    clear h0
    go_enter Try.func12, Try.ntmps12
    go_wp2_with (go_at_call 19; refine HGR.out.mono ?_; rintro e w1 ⟨⟨b, rfl, hbb⟩, rfl⟩; clear hbb; cases b)
    · go_wp2_with (first
        | (go_at_call 25; (with_reducible refine (HR.out _ HB0.out).mono ?_); rintro e w3 ⟨rfl, hb3⟩; (have HB3 := Lib.hid (bl_step HB0.out hb3)); clear hb3)
        | (go_at_call 38; refine (rsalive_any _).mono ?_; rintro e w2 ⟨rfl, hb2⟩))
      go_ret
      exact ⟨rfl, HB3.out.trans (hb2.mono HB3.out.size)⟩
    · go_wp2_with (go_at_call 38; refine (rsalive_any _).mono ?_; rintro e w2 ⟨rfl, hb2⟩)
      go_ret
      exact ⟨rfl, bl_step HB0.out hb2⟩
set_option maxRecDepth 100000 in
set_option maxHeartbeats 6400000 in
theorem rsame_some {A : Option Addr} {L : List RowB} (poll last : Bool) (fi sn off wd : Int) (n cap : Nat) (w : World) (hL : L.length = n) (hs : RSrc w A L) (h0 : amdF false last fi sn off (lens L) wd ≠ 0) :
    Calls Try.prog 12 #[.agg #[.bool poll, .int .i64 fi, .int .i64 sn, .bool false, .bool last, .int .i64 off, .slice A n cap], .int .i64 wd] w fun e w' => e = .returned (.bool true) ∧ Below w.heap.size w w' := by
  obtain ⟨hwd, hf0, hf3, _, _, hl1, hl24, hok, hFeq⟩ := amdF_pos h0
  have hn24 : n ≤ 24 := by rw [← hL, ← length_lens]; exact hl24
  have hsum := sumTo_bound hok (Nat.le_refl _)
  rw [sumTo_all] at hsum
  have hbig := amdF_big false last fi sn off (lens L) wd
  have hnn := amdF_nonneg false last fi sn off (lens L) wd
  have hm : ∀ m ∈ lens L, m ≤ 9223372036854775807 := by
    intro m hm
    obtain ⟨k, hk⟩ := List.getElem?_of_mem hm
    have := okTo_small hok hk
    omega
  have hp : ∀ l ∈ lens L, 0 < l := by
    intro m hm
    obtain ⟨k, hk⟩ := List.getElem?_of_mem hm
    have := okTo_small hok hk
    omega
  have hd0 : 0 < (lens L).sum := by
    have h1 := sizeF_nonneg (((lens L).length : Int) - 1) (lwA wd)
    rcases Nat.eq_zero_or_pos (lens L).sum with h | h
    · obtain ⟨k, hk⟩ : ∃ m, (lens L)[0]? = some m := ⟨_, List.getElem?_eq_getElem (by omega)⟩
      have := hp k (List.mem_of_getElem? hk)
      have := le_sum_mem (List.mem_of_getElem? hk)
      omega
    · exact h
  have h2 := headA_two hwd
  have hh := headA_nonneg false wd
  have hsz := sizeF_nonneg (((lens L).length : Int) - 1) (lwA wd)
  have hfr : ∀ g : Int, 0 ≤ g → g ≤ 4096 → faultR false last fi sn off (lens L) 0 ((lens L).sum : Nat) g wd = 0 := by
    intro g g0 g1
    unfold faultR
    rw [if_neg (by simp; exact h0), if_neg (by omega), if_neg (by omega)]
  generalize hF : amdF false last fi sn off (lens L) wd = F at *
  have HCW := Lib.hid (fun W (hb : Below w.heap.size w W) => rsc_whole (A := A) (L := L) poll false last fi sn off n cap (lens L).sum F wd W hL (hs.later hb) (hfr F (by omega) (by omega)) rfl (by rw [hF]; omega))
  have HCP : ∀ W, Below w.heap.size w W → Calls Try.prog 39 #[.agg #[.bool poll, .int .i64 fi, .int .i64 sn, .bool false, .bool last, .int .i64 off, .slice A n cap], .int .i64 0, .int .i64 ((lens L).sum : Nat), .int .i64 (F - 1), .int .i64 wd] W fun e w' => ((∃ (f2 : Int) (lb : Bool) (gg kk q : Nat), e = .returned (.tuple #[.agg #[.bool false, .int .i64 f2, .int .i64 sn, .bool true, .bool lb, .int .i64 0, .slice (some ⟨gg, 0, none⟩) kk kk], .int .i64 (q : Nat), .int .i64 0]) ∧ q < (lens L).sum) ∨ (e = .returned (.tuple #[.agg #[.bool false, .int .i64 0, .int .i64 0, .bool false, .bool false, .int .i64 0, .slice none 0 0], .int .i64 0, .int .i64 16]) ∧ F - 1 < leastR wd)) ∧ Below W.heap.size W w' := by
    intro W hb
    refine (rsc_part (A := A) (L := L) poll false last fi sn off n cap 0 (lens L).sum (F - 1) wd W hL (hs.later hb) (hfr (F - 1) (by omega) (by omega)) (.inr (.inr (by rw [hF]; omega)))).mono ?_
    rintro e w' (⟨h9, he, hb9⟩ | ⟨N, g, k, M, hN, hC, he, _, _, _, _, hb9⟩)
    · refine ⟨.inr ⟨he, ?_⟩, hb9⟩
      unfold leastR
      rw [if_neg (by omega)]
      omega
    · refine ⟨.inl ⟨_, _, _, _, 0 + N, he, ?_⟩, hb9⟩
      rw [Nat.zero_add]
      exact cut_less hp hC hd0 (by omega)
  have HCP := Lib.hid HCP
  have HB0 := Lib.hid (bl_alloc (Below.refl w.heap.size w) (.cells #[.bool poll, .int .i64 fi, .int .i64 sn, .bool false, .bool last, .int .i64 off, .slice A n cap] 32))
  have HGR := Lib.hid (great_any n cap (w.alloc (.cells #[.bool poll, .int .i64 fi, .int .i64 sn, .bool false, .bool last, .int .i64 off, .slice A n cap] 32)) hL (by omega) (hs.later HB0.out) hm)
  have HR := Lib.hid (fun W (hb : Below w.heap.size w W) => aright_any (A := A) poll false last fi sn off wd n cap W hL (by omega) (hs.later hb) hm)
  rw [hF, decide_eq_true (show 0 < F by omega)] at HR
  have HSZ := Lib.hid (fun W (hb : Below w.heap.size w W) => asize_any (A := A) poll false last fi sn off wd n cap W hL (by omega) (hs.later hb) hm)
  rw [hF] at HSZ
  have HD := Lib.hid (fun W (hb : Below w.heap.size w W) => adata_len (A := A) poll false last fi sn off n cap W hL (by omega) (hs.later hb) (by omega))
  have HLE := Lib.hid (fun W => rsleast_any wd W)
  have HSM := Lib.hid (fun W g M (hb : Below w.heap.size w W) (h1 : M.length = n) (h2 : texts M = texts L) (h3 : RSrc W (some ⟨g, 0, none⟩) M) => (by
    have h := asame_any (A := some ⟨g, 0, none⟩) (B := A) (L := M) (M := L) false false last fi sn off false false last fi sn off n n n cap W h1 hL (by omega) h3 (hs.later hb)
    rw [h2, eqA_self] at h
    exact h : Calls Try.prog 26 #[.agg #[.bool false, .int .i64 fi, .int .i64 sn, .bool false, .bool last, .int .i64 off, .slice (some ⟨g, 0, none⟩) n n], .agg #[.bool false, .int .i64 fi, .int .i64 sn, .bool false, .bool last, .int .i64 off, .slice A n cap]] W (SameAns true W)))
  have hd4 : (lens L).sum ≤ 96000 := by omega
  generalize (lens L).sum = d at *
  generalize leastR wd = le at *
  have RP0 := Lib.hid (Row.made w 32 #[.bool poll, .int .i64 fi, .int .i64 sn, .bool false, .bool last, .int .i64 off, .slice A n cap])
  have hF1 : 1 ≤ F := by omega
  clear hs hm hL hp hok hFeq hfr hF h2 hh hsz hsum hl1 hl24
  go_enter Try.func12, Try.ntmps12
  go_wp2_with (go_at_call 19; refine HGR.out.mono ?_; rintro e w1 ⟨⟨b, rfl, hbb⟩, rfl⟩; clear hbb; cases b)
  · go_wp2_with (go_at_call 25; (with_reducible refine (HR.out _ HB0.out).mono ?_); rintro e w3 ⟨rfl, hb3⟩; (have HB3 := Lib.hid (bl_step HB0.out hb3)); (have RP3 := Lib.hid (RP0.out.later hb3)); (have HB3D := Lib.hid (bl_drew HB3.out)); obtain ⟨k0, k1, k2, k3, k4, k5, k6⟩ := cells_pk RP3.out; clear hb3)
    go_region_held3 (fun w' => w'.cell? ⟨w.heap.size, 0, none⟩ = some (.bool poll) ∧ w'.cell? ⟨w.heap.size, 1, none⟩ = some (.int .i64 fi) ∧ w'.cell? ⟨w.heap.size, 2, none⟩ = some (.int .i64 sn) ∧ w'.cell? ⟨w.heap.size, 3, none⟩ = some (.bool false) ∧ w'.cell? ⟨w.heap.size, 4, none⟩ = some (.bool last) ∧ w'.cell? ⟨w.heap.size, 5, none⟩ = some (.int .i64 off) ∧ w'.cell? ⟨w.heap.size, 6, none⟩ = some (.slice A n cap)) (first | with_reducible exact ⟨k0, k1, k2, k3, k4, k5, k6⟩ | with_reducible exact ⟨l0, l1, l2, l3, l4, l5, l6⟩ | with_reducible exact ⟨m0, m1, m2, m3, m4, m5, m6⟩ | go_keep) (first
      | (go_at_call 24; (with_reducible refine (HSZ.out _ HB3D.out).mono ?_); rintro e w4 ⟨rfl, hb4⟩; (have HB4 := Lib.hid (HB3D.out.trans (hb4.mono HB3D.out.size))); (have RP4 := Lib.hid ((RP3.out.later (bl_drew (Below.refl _ _))).later hb4)); obtain ⟨l0, l1, l2, l3, l4, l5, l6⟩ := cells_pk RP4.out; clear hb4)
      | (go_at_call 30; (with_reducible refine (HD.out _ HB4.out).mono ?_); rintro e w5 ⟨A5, c5, rfl, -, hb5⟩; (have HB5 := Lib.hid (HB4.out.trans (hb5.mono HB4.out.size))); (have RP5 := Lib.hid (RP4.out.later hb5)); obtain ⟨m0, m1, m2, m3, m4, m5, m6⟩ := cells_pk RP5.out; clear hb5))
    go_wp2_with (first
      | (go_at_call 39; (with_reducible refine (HCW.out _ HB5.out).mono ?_); rintro e w6 ⟨g, M, rfl, y1, y2, y3, hb6⟩; (have Y1 := Lib.hid y1); (have Y2 := Lib.hid y2); (have Y3 := Lib.hid y3); (have HB6 := Lib.hid (HB5.out.trans (hb6.mono HB5.out.size))); (have HB6A := Lib.hid (bl_alloc (bl_alloc HB6.out (.cells #[.bool false, .int .i64 fi, .int .i64 sn, .bool false, .bool last, .int .i64 off, .slice (some ⟨g, 0, none⟩) n n] 32)) (.cells #[.bool false, .int .i64 fi, .int .i64 sn, .bool false, .bool last, .int .i64 off, .slice A n cap] 32))); (have RP6 := Lib.hid (((RP5.out.later hb6).more (.cells #[.bool false, .int .i64 fi, .int .i64 sn, .bool false, .bool last, .int .i64 off, .slice (some ⟨g, 0, none⟩) n n] 32)))); (have RP7 := Lib.hid (RP6.out.more (.cells #[.bool false, .int .i64 fi, .int .i64 sn, .bool false, .bool last, .int .i64 off, .slice A n cap] 32))); (have RX7 := Lib.hid ((Row.made w6 32 #[.bool false, .int .i64 fi, .int .i64 sn, .bool false, .bool last, .int .i64 off, .slice (some ⟨g, 0, none⟩) n n]).more (.cells #[.bool false, .int .i64 fi, .int .i64 sn, .bool false, .bool last, .int .i64 off, .slice A n cap] 32))); (have RL7 := Lib.hid (row1 w6 (.cells #[.bool false, .int .i64 fi, .int .i64 sn, .bool false, .bool last, .int .i64 off, .slice (some ⟨g, 0, none⟩) n n] 32) 32 #[.bool false, .int .i64 fi, .int .i64 sn, .bool false, .bool last, .int .i64 off, .slice A n cap])); obtain ⟨n_0, n_1, n_2, n_3, n_4, n_5, n_6⟩ := cells_pk RP6.out; obtain ⟨o_0, o_1, o_2, o_3, o_4, o_5, o_6⟩ := cells_pk RP7.out; clear hb6 y1 y2 y3)
      | (go_at_call 39; (with_reducible refine (HCP.out _ HB6A.out).mono ?_); rintro e w8 ⟨hor, hb8⟩; (have HBB := Lib.hid ((bl_alloc (bl_alloc (Below.refl w6.heap.size w6) (.cells #[.bool false, .int .i64 fi, .int .i64 sn, .bool false, .bool last, .int .i64 off, .slice (some ⟨g, 0, none⟩) n n] 32)) (.cells #[.bool false, .int .i64 fi, .int .i64 sn, .bool false, .bool last, .int .i64 off, .slice A n cap] 32)).trans (hb8.mono (by simp only [World.size_alloc]; omega)))); (have HB8 := Lib.hid (HB6A.out.trans (hb8.mono HB6A.out.size))); (have RX8 := Lib.hid (RX7.out.later hb8)); (have RL8 := Lib.hid (RL7.out.later hb8)); clear hb8; rcases hor with ⟨f2, lb, gg, kk, q, rfl, hq⟩ | ⟨rfl, hle⟩))
    · have hqI : (q : Int) < (d : Int) := by omega
      go_wp2_with (first
        | (go_at_call 38; (with_reducible refine (rsalive_any _).mono ?_); rintro e w9 ⟨rfl, hb9⟩; (have HB9 := Lib.hid (bl_step (bl_alloc HB8.out (.cells #[.bool false, .int .i64 f2, .int .i64 sn, .bool true, .bool lb, .int .i64 0, .slice (some ⟨gg, 0, none⟩) kk kk] 32)) hb9)); (have HBC := Lib.hid (HBB.out.trans ((bl_step (bl_alloc (Below.refl w8.heap.size w8) (.cells #[.bool false, .int .i64 f2, .int .i64 sn, .bool true, .bool lb, .int .i64 0, .slice (some ⟨gg, 0, none⟩) kk kk] 32)) hb9).mono HBB.out.size))); (have RX9 := Lib.hid ((RX8.out.more (.cells #[.bool false, .int .i64 f2, .int .i64 sn, .bool true, .bool lb, .int .i64 0, .slice (some ⟨gg, 0, none⟩) kk kk] 32)).later hb9)); (have RL9 := Lib.hid ((RL8.out.more (.cells #[.bool false, .int .i64 f2, .int .i64 sn, .bool true, .bool lb, .int .i64 0, .slice (some ⟨gg, 0, none⟩) kk kk] 32)).later hb9)); (have RY9 := Lib.hid ((Row.made w8 32 #[.bool false, .int .i64 f2, .int .i64 sn, .bool true, .bool lb, .int .i64 0, .slice (some ⟨gg, 0, none⟩) kk kk]).later hb9)); obtain ⟨a0, a1, a2, a3, a4, a5, a6⟩ := cells_pk RX9.out; obtain ⟨b0, b1, b2, b3, b4, b5, b6⟩ := cells_pk RL9.out; obtain ⟨c0, c1, c2, c3, c4, c5, c6⟩ := cells_pk RY9.out; clear hb9)
        | (go_at_call 26; (with_reducible refine (HSM.out _ g M HB9.out Y1.out Y2.out ((Y3.out.src).later HBC.out)).mono ?_); rintro e w10 ⟨rfl, hb10⟩; (have HB10 := Lib.hid (HB9.out.trans (hb10.mono HB9.out.size))); (have RY10 := Lib.hid (RY9.out.later hb10)); obtain ⟨d_0, d_1, d_2, d_3, d_4, d_5, d_6⟩ := cells_pk RY10.out; clear hb10))
      go_ret
      exact ⟨rfl, HB10.out⟩
    · go_wp2_with (first
        | (go_at_call 38; (with_reducible refine (rsalive_any _).mono ?_); rintro e w9 ⟨rfl, hb9⟩; (have HB9 := Lib.hid (bl_step (bl_alloc HB8.out (.cells #[.bool false, .int .i64 0, .int .i64 0, .bool false, .bool false, .int .i64 0, .slice none 0 0] 32)) hb9)); (have HBC := Lib.hid (HBB.out.trans ((bl_step (bl_alloc (Below.refl w8.heap.size w8) (.cells #[.bool false, .int .i64 0, .int .i64 0, .bool false, .bool false, .int .i64 0, .slice none 0 0] 32)) hb9).mono HBB.out.size))); (have RX9 := Lib.hid ((RX8.out.more (.cells #[.bool false, .int .i64 0, .int .i64 0, .bool false, .bool false, .int .i64 0, .slice none 0 0] 32)).later hb9)); (have RL9 := Lib.hid ((RL8.out.more (.cells #[.bool false, .int .i64 0, .int .i64 0, .bool false, .bool false, .int .i64 0, .slice none 0 0] 32)).later hb9)); (have RY9 := Lib.hid ((Row.made w8 32 #[.bool false, .int .i64 0, .int .i64 0, .bool false, .bool false, .int .i64 0, .slice none 0 0]).later hb9)); obtain ⟨a0, a1, a2, a3, a4, a5, a6⟩ := cells_pk RX9.out; obtain ⟨b0, b1, b2, b3, b4, b5, b6⟩ := cells_pk RL9.out; obtain ⟨c0, c1, c2, c3, c4, c5, c6⟩ := cells_pk RY9.out; clear hb9)
        | (go_at_call 26; (with_reducible refine (HSM.out _ g M HB9.out Y1.out Y2.out ((Y3.out.src).later HBC.out)).mono ?_); rintro e w10 ⟨rfl, hb10⟩; (have HB10 := Lib.hid (HB9.out.trans (hb10.mono HB9.out.size))); (have RY10 := Lib.hid (RY9.out.later hb10)); obtain ⟨d_0, d_1, d_2, d_3, d_4, d_5, d_6⟩ := cells_pk RY10.out; clear hb10)
        | (go_at_call 41; (with_reducible refine (HLE.out _).mono ?_); rintro e w11 ⟨rfl, rfl⟩))
      go_ret
      exact ⟨rfl, HB10.out⟩
  · go_wp2_with (go_at_call 38; refine (rsalive_any _).mono ?_; rintro e w2 ⟨rfl, hb2⟩)
    go_ret
    exact ⟨rfl, bl_step HB0.out hb2⟩
theorem rsame_all {A : Option Addr} (poll part last : Bool) (fi sn off wd : Int) (L : List RowB) (cap : Nat) (w : World) (hcap : L.length ≤ cap) (hcm : cap ≤ 9223372036854775807) (hs : RSrc w A L) (hm : ∀ m ∈ lens L, m ≤ 9223372036854775807) :
    Calls Try.prog 12 #[.agg #[.bool poll, .int .i64 fi, .int .i64 sn, .bool part, .bool last, .int .i64 off, .slice A L.length cap], .int .i64 wd] w fun e w' => e = .returned (.bool true) ∧ Below w.heap.size w w' := by
  by_cases h0 : part = true ∨ amdF part last fi sn off (lens L) wd = 0
  · exact rsame_none poll part last fi sn off wd L.length cap w rfl (by omega) hs hm h0
  · cases part
    · exact rsame_some poll last fi sn off wd L.length cap w rfl hs (fun h => h0 (.inr h))
    · exact absurd (.inl rfl) h0
end Go.Proofs.Ytolinlnnbdjimaa
namespace Go.Proofs.Ytolinlnnbdjimaa
open Go.ChangeShapes Go.WideShapes Go.ChangeAt Go.RowKit

theorem lawOwn : ownKnob Try.prog.godebug = none := by kernel_rfl
theorem lawLaid : laidOutB Try.prog = true := by kernel_rfl

section
variable {H : Type} {enc : TypeId × Value → H} {P : Program}
/-- what was read in the old world is read in the new one -/
theorem args_stay (hl : laidOutB P = true) {W W' : World} (hb : Below W.heap.size W W') : ∀ (ts : List TypeId) (vs : List Value) (ds : List (DataW H)) (ps : List MemPlace),
    (∀ t ∈ ts, P.readableRec t = true ∧ t < P.types.size) → DataW.TrodAll enc P W 0 (fun _ => true) true ts vs ds ps → (∀ x ∈ ps, x.block < W.heap.size) →
    DataW.TrodAll enc P W' 0 (fun b => decide (b < W.heap.size)) true ts vs ds ps := by
  intro ts
  induction ts with
  | nil =>
    intro vs ds ps _ h _
    obtain ⟨rfl, rfl, rfl⟩ := trodAll_nil h
    exact trodAll_mk0
  | cons t ts ih =>
    intro vs ds ps hr h hlt
    obtain ⟨v, vs', d, ds', p, q, rfl, rfl, rfl, h1, h2⟩ := trodAll_cons h
    have ht := hr t (List.mem_cons_self ..)
    exact trodAll_cons_mk (Below.trod hl ht.1 ht.2 h1 hb fun x hx => hlt x (List.mem_append_left _ hx))
      (ih vs' ds' q (fun u hu => hr u (List.mem_cons_of_mem _ hu)) h2 fun x hx => hlt x (List.mem_append_right _ hx))

theorem law_post {f : Func} {s : ChangeSpec} {W W' : World} {args : Array Value} {ds gs : List (DataW H)} {before : List MemPlace} {B : TypeId}
    (hl : laidOutB P = true) (hr : f.params.toList.all (fun t => P.readableRec t && decide (t < P.types.size)) = true) (hv : s.vars = [])
    (hW : DataW.Whole enc P f.params.toList s.vars false W args.toList ds gs before)
    (hs : s.fn H (ds ++ gs) = { results := [.lit (.bool true)], args := ds }) (ht : f.resultTypes = #[B]) (hB : P.underlying B = some .bool)
    (hb : Below W.heap.size W W') : s.post enc P f false true false false W args (.bool true) W' := by
  have hW' := hW
  obtain ⟨p, q, hA, hV, rfl, _, _⟩ := hW
  rw [hv] at hV
  obtain ⟨rfl, rfl⟩ := trodVars_none hV
  refine ⟨ds, [], p ++ [], [], p, [], hW', ?_, ?_, ?_, hb.frame _, fun h => by cases h⟩
  · rw [hs, ht]
    exact trodAll_mk1 (shut_bool hB true)
  · rw [hs]
    exact args_stay hl hb _ _ _ _ (fun t h => by have := List.all_eq_true.1 hr t h; simpa using this) hA fun x hx => hW'.lt x (List.mem_append_left _ hx)
  · rw [hs, hv]
    exact rfl
end
end Go.Proofs.Ytolinlnnbdjimaa
namespace Go.Proofs.Ytolinlnnbdjimaa
open Go.ChangeShapes Go.WideShapes Go.ChangeAt Go.RowKit Go.Deep


theorem Try.cells5 : Try.prog.cellsOf 5 = 1 := by kernel_rfl
theorem Try.cells37 : Try.prog.cellsOf 37 = 1 := by kernel_rfl
theorem nums_src {W : World} {a : Addr} {cap len : Nat} {zs : List Int} (hl : len ≤ cap) (hz : zs.length = cap) (hc : ∀ j, j < cap → W.cell? (a.add j) = some (.int .u8 (zs.getD j 0))) (hw : ∀ n ∈ zs, (Lit.int .u8 n).wf = true) :
    ((zs.take len).map Int.toNat).length = len ∧ Src W (some a) (bts ((zs.take len).map Int.toNat)) ∧ ∀ b ∈ (zs.take len).map Int.toNat, b < 256 := by
  have hlen : ((zs.take len).map Int.toNat).length = len := by rw [List.length_map, List.length_take]; omega
  refine ⟨hlen, fun h0 => ⟨a, rfl, fun j u hu => ?_⟩, fun b hb => ?_⟩
  · have hj : j < len := by
      have h1 := (List.getElem?_eq_some_iff.1 hu).1
      rw [length_bts, hlen] at h1
      exact h1
    have h2 := hc j (by omega)
    rw [h2]
    have hjz : j < zs.length := by omega
    have hww := bounds_u8 (hw zs[j] (List.getElem_mem hjz))
    have h3 : ((zs.take len).map Int.toNat)[j]? = some zs[j].toNat := by
      rw [List.getElem?_map, List.getElem?_take, if_pos hj, List.getElem?_eq_getElem hjz]
      rfl
    have h4 := bts_at h3
    rw [h4] at hu
    injection hu with hu
    rw [← hu, List.getD_eq_getElem?_getD, List.getElem?_eq_getElem hjz]
    simp only [Option.getD_some]
    rw [Int.toNat_of_nonneg hww.1]
  · rw [List.mem_map] at hb
    obtain ⟨z, hz2, rfl⟩ := hb
    have hww := bounds_u8 (hw z (List.mem_of_mem_take hz2))
    omega
set_option maxRecDepth 100000 in
theorem bytes_arg {H : Type} {enc : TypeId × Value → H} {W : World} {base : Nat} {v : Value} {d : DataW H} {p : List MemPlace} (hok : Value.okWide Try.prog W .any base 37 v)
    (h : DataW.Trod enc Try.prog W 0 (fun _ => true) true 37 v d p) : ∃ (A : Option Addr) (cap : Nat) (l : List Nat), v = .slice A l.length cap ∧ l.length ≤ cap ∧ cap ≤ 9223372036854775807 ∧ Src W A (bts l) ∧ ∀ b ∈ l, b < 256 := by
  obtain ⟨a0, len, cap, rfl⟩ := okWide_slice Try.underlying37 hok
  obtain ⟨fuel, hf⟩ := h
  rcases open_ints Try.underlying37 Try.underlying5 Try.cells5 hf with ⟨hcs, _⟩ | ⟨a, len', cap', zs, hcs, _, hl, hm, hz, _, hcell, hwz⟩
  · simp only [Value.cells] at hcs
    have e : Value.slice a0 len cap = .slice none 0 0 := by simpa using hcs
    rw [e]
    exact ⟨none, 0, [], rfl, Nat.le_refl _, by omega, fun h0 => absurd h0 (by simp [bts]), fun b hb => by cases hb⟩
  · have e : Value.slice a0 len cap = .slice (some a) len' cap' := by simpa [Value.cells] using hcs
    rw [e]
    have hz' : zs.length = cap' := by simpa using hz
    obtain ⟨h1, h2, h3⟩ := nums_src (W := W) (a := a) hl hz' (fun j hj => hcell j (by omega)) hwz
    exact ⟨some a, cap', _, by rw [h1], by omega, by unfold maxLen at hm; exact hm, h2, h3⟩
set_option maxRecDepth 100000 in
theorem rows_cells {H : Type} {enc : TypeId × Value → H} {W : World} {fuel : Nat} {v : Value} {y : DataW H × List MemPlace} (hf : DataW.trod enc Try.prog W 0 (fun _ => true) true fuel 30 [v] = some y) :
    ∃ (A : Option Addr) (cap : Nat) (L : List RowB), v = .slice A L.length cap ∧ L.length ≤ cap ∧ cap ≤ 9223372036854775807 ∧ RSrc W A L ∧ ∀ m ∈ lens L, m ≤ 9223372036854775807 := by
  rcases open_int_rows Try.underlying30 Try.underlying37 Try.underlying5 Try.cells37 Try.cells5 hf with ⟨hcs, _⟩ | ⟨a, len', cap', A, L, C, Z, hcs, _, hl, hm, _, hx⟩
  · have e : v = .slice none 0 0 := by simpa [Value.cells] using hcs
    rw [e]
    exact ⟨none, 0, [], rfl, Nat.le_refl _, by omega, fun h0 => absurd h0 (by simp), fun m hm => by cases hm⟩
  · have e : v = .slice (some a) len' cap' := by simpa [Value.cells] using hcs
    rw [e]
    have hlen : ((List.range len').map fun k => (⟨A k, C k, ((Z k).take (L k)).map Int.toNat⟩ : RowB)).length = len' := by simp
    have hrow : ∀ k r, ((List.range len').map fun k => (⟨A k, C k, ((Z k).take (L k)).map Int.toNat⟩ : RowB))[k]? = some r → W.cell? (a.add k) = some r.v ∧ r.ok W := by
      intro k r hr
      have hk : k < len' := by
        have h1 := (List.getElem?_eq_some_iff.1 hr).1
        rw [hlen] at h1
        exact h1
      have hr' : r = ⟨A k, C k, ((Z k).take (L k)).map Int.toNat⟩ := by
        rw [List.getElem?_map, List.getElem?_range hk] at hr
        simp only [Option.map_some, Option.some.injEq] at hr
        exact hr.symm
      subst hr'
      obtain ⟨h1, h2, h3, h4, h5, h6, h7⟩ := hx k (by omega)
      unfold maxLen at h3
      have hll : (((Z k).take (L k)).map Int.toNat).length = L k := by rw [List.length_map, List.length_take]; omega
      refine ⟨by rw [h1]; show _ = some (Value.slice (A k) (((Z k).take (L k)).map Int.toNat).length (C k)); rw [hll], ?_⟩
      cases hA : A k with
      | none =>
        have hc0 := h6 hA
        have hl0 : L k = 0 := by omega
        refine ⟨fun h0 => ?_, by rw [hll]; exact h2, h3, fun b hb => ?_⟩
        · rw [length_bts, hll] at h0; omega
        · rw [hl0] at hb; simp at hb
      | some a' =>
        obtain ⟨_, hc⟩ := h7 a' hA
        obtain ⟨_, g2, g3⟩ := nums_src (W := W) h2 h4 hc h5
        exact ⟨g2, by rw [hll]; exact h2, h3, g3⟩
    refine ⟨some a, cap', (List.range len').map fun k => ⟨A k, C k, ((Z k).take (L k)).map Int.toNat⟩, by rw [hlen], by omega, by unfold maxLen at hm; exact hm, fun h0 => ⟨a, rfl, hrow⟩, fun m hm2 => ?_⟩
    obtain ⟨k, hk⟩ := List.getElem?_of_mem hm2
    simp only [lens, List.getElem?_map, Option.map_eq_some_iff] at hk
    obtain ⟨r, hr, rfl⟩ := hk
    have h9 := (hrow k r (by rw [List.getElem?_map, Option.map_eq_some_iff]; exact hr)).2
    have := h9.2.1
    have := h9.2.2.1
    omega
set_option maxRecDepth 100000 in
/-- a packet of umd as it came in -/
theorem upack_arg {H : Type} {enc : TypeId × Value → H} {W : World} {base : Nat} {v : Value} {d : DataW H} {p : List MemPlace} (hok : Value.okWide Try.prog W .any base 59 v)
    (h : DataW.Trod enc Try.prog W 0 (fun _ => true) true 59 v d p) : ∃ (fi sn : Int) (A : Option Addr) (cap : Nat) (L : List RowB), v = .agg #[.int .i64 fi, .int .i64 sn, .slice A L.length cap] ∧ L.length ≤ cap ∧ cap ≤ 9223372036854775807 ∧ RSrc W A L ∧ ∀ m ∈ lens L, m ≤ 9223372036854775807 := by
  obtain ⟨v0, v1, v2, y0, y1, y2, k, rfl, _, _, h0, h1, h2⟩ := Joins.open_agg3 Try.underlying59 (by kernel_rfl) (by kernel_rfl) hok h
  obtain ⟨A, cap, L, rfl, g1, g2, g3, g4⟩ := rows_cells h2
  obtain ⟨fi, rfl⟩ : ∃ fi, v0 = .int .i64 fi := by
    obtain ⟨n, h9, _⟩ := DataW.trod_int Try.underlying3 h0
    exact ⟨n, by simpa using h9⟩
  obtain ⟨sn, rfl⟩ : ∃ sn, v1 = .int .i64 sn := by
    obtain ⟨n, h9, _⟩ := DataW.trod_int Try.underlying3 h1
    exact ⟨n, by simpa using h9⟩
  exact ⟨fi, sn, A, cap, L, rfl, g1, g2, g3, g4⟩
end Go.Proofs.Ytolinlnnbdjimaa
namespace Go.Proofs.Ytolinlnnbdjimaa
open Go.ChangeShapes Go.WideShapes Go.ChangeAt Go.RowKit Go.Deep

theorem agg_field {H : Type} {enc : TypeId × Value → H} {P : Program} {w : World} {base b0 : Nat} {spare : Nat → Bool} {held : Bool} {r : Reach} {t : TypeId} {fs : Array Field} {v : Value} {d : DataW H} {p : List MemPlace}
    (hs : P.underlying t = some (.struct fs)) (hone : oneCellFields P fs = true) (hC : P.cellsOf t = fs.size) (hv : Value.okWide P w r b0 t v) (h : DataW.Trod enc P w base spare held t v d p) :
    ∃ cs : Array Value, v = .agg cs ∧ cs.size = fs.size ∧ ∃ n, ∀ (j : Nat) (f : Field), fs[j]? = some f → ∃ (x : Value) (y : DataW H × List MemPlace), cs[j]? = some x ∧ DataW.trod enc P w base spare held n f.type [x] = some y := by
  obtain ⟨cs, rfl, hsz⟩ := okWide_struct hs hv
  obtain ⟨fuel, hf⟩ := h
  obtain ⟨xs, n, _, _, _, hlen, hg⟩ := DataW.trod_struct hs hf
  refine ⟨cs, rfl, hsz.trans hC, n, fun j f hj => ?_⟩
  obtain ⟨ho, hk⟩ := hone_of hone j f hj
  have hjl : j < fs.size := (Array.getElem?_eq_some_iff.1 hj).1
  have hjc : j < cs.size := by rw [hsz, hC]; exact hjl
  have hjx : j < xs.length := by omega
  refine ⟨cs[j], xs[j], Array.getElem?_eq_getElem hjc, ?_⟩
  have h1 := hg j f hj
  rw [ho, hk, List.getElem?_eq_getElem hjx] at h1
  have e : ((Value.agg cs).cells.toList.drop j).take 1 = [cs[j]] := by
    simp only [Value.cells]
    rw [List.drop_eq_getElem_cons (by simpa using hjc)]
    simp
  rw [← e]
  exact h1
set_option maxRecDepth 100000 in
/-- a packet of amd as it came in -/
theorem apack_arg {H : Type} {enc : TypeId × Value → H} {W : World} {base : Nat} {v : Value} {d : DataW H} {p : List MemPlace} (hok : Value.okWide Try.prog W .any base 32 v)
    (h : DataW.Trod enc Try.prog W 0 (fun _ => true) true 32 v d p) : ∃ (poll part last : Bool) (fi sn off : Int) (A : Option Addr) (cap : Nat) (L : List RowB), v = .agg #[.bool poll, .int .i64 fi, .int .i64 sn, .bool part, .bool last, .int .i64 off, .slice A L.length cap] ∧ L.length ≤ cap ∧ cap ≤ 9223372036854775807 ∧ RSrc W A L ∧ ∀ m ∈ lens L, m ≤ 9223372036854775807 := by
  obtain ⟨cs, rfl, hsz, n, hf⟩ := agg_field Try.underlying32 (by kernel_rfl) (by kernel_rfl) hok h
  obtain ⟨x0, y0, e0, h0⟩ := hf 0 _ rfl
  obtain ⟨x1, y1, e1, h1⟩ := hf 1 _ rfl
  obtain ⟨x2, y2, e2, h2⟩ := hf 2 _ rfl
  obtain ⟨x3, y3, e3, h3⟩ := hf 3 _ rfl
  obtain ⟨x4, y4, e4, h4⟩ := hf 4 _ rfl
  obtain ⟨x5, y5, e5, h5⟩ := hf 5 _ rfl
  obtain ⟨x6, y6, e6, h6⟩ := hf 6 _ rfl
  have hcs : cs = #[x0, x1, x2, x3, x4, x5, x6] := by
    have hsz7 : cs.size = 7 := hsz
    apply Array.ext (by rw [hsz7]; rfl)
    intro i hi _
    have h7 : i < 7 := by omega
    have key : ∀ k x, cs[k]? = some x → ∀ (hk : k < cs.size), cs[k] = x := fun k x hx hk => by
      rw [Array.getElem?_eq_getElem hk] at hx
      injection hx
    rcases i with _ | _ | _ | _ | _ | _ | _ | i
    · exact key 0 _ e0 hi
    · exact key 1 _ e1 hi
    · exact key 2 _ e2 hi
    · exact key 3 _ e3 hi
    · exact key 4 _ e4 hi
    · exact key 5 _ e5 hi
    · exact key 6 _ e6 hi
    · omega
  subst hcs
  obtain ⟨b0, g0, _⟩ := DataW.trod_bool Try.underlying4 h0
  obtain ⟨n1, g1, _⟩ := DataW.trod_int Try.underlying3 h1
  obtain ⟨n2, g2, _⟩ := DataW.trod_int Try.underlying3 h2
  obtain ⟨b3, g3, _⟩ := DataW.trod_bool Try.underlying4 h3
  obtain ⟨b4, g4, _⟩ := DataW.trod_bool Try.underlying4 h4
  obtain ⟨n5, g5, _⟩ := DataW.trod_int Try.underlying3 h5
  injection g0 with g0
  injection g1 with g1
  injection g2 with g2
  injection g3 with g3
  injection g4 with g4
  injection g5 with g5
  subst g0 g1 g2 g3 g4 g5
  obtain ⟨A, cap, L, rfl, q1, q2, q3, q4⟩ := rows_cells h6
  exact ⟨b0, b3, b4, n1, n2, n5, A, cap, L, rfl, q1, q2, q3, q4⟩
end Go.Proofs.Ytolinlnnbdjimaa
