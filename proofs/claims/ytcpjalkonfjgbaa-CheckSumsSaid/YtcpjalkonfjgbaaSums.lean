/-
  CheckSums: any bytes' sum is told, gone on with from any sum; and whether they end with it: the law walked.
-/
import Derived.Test.YtcpjalkonfjgbaaCheckOpen
namespace Go.Proofs.Ytcpjalkonfjgbaa
open Go.RowKit

set_option maxRecDepth 100000 in
set_option maxHeartbeats 1600000 in
theorem sums_guard (A A' : Option Addr) (n m cap cap' : Nat) (s : Int) (w : World) (h : 3000 < n ∨ 3000 < m) :
    Calls Try.prog 3 #[.int .u16 s, .slice A n cap, .slice A' m cap'] w fun e w' => e = .returned (.bool true) ∧ Below w.heap.size w w' := by
  rcases Nat.lt_or_ge 3000 n with h1 | h1
  · have h1' : (3000 : Int) < (n : Int) := by omega
    clear h
    go_enter Try.func3, Try.ntmps3
    go_wp2_with (go_at_call 10; refine (calive_any _).mono ?_; rintro e w1 ⟨rfl, hb1⟩)
    go_ret
    exact ⟨rfl, hb1⟩
  · have h1' : ¬ (3000 : Int) < (n : Int) := by omega
    have h2' : (3000 : Int) < (m : Int) := by omega
    clear h
    go_enter Try.func3, Try.ntmps3
    go_wp2_with (go_at_call 10; refine (calive_any _).mono ?_; rintro e w1 ⟨rfl, hb1⟩)
    go_ret
    exact ⟨rfl, hb1⟩

set_option maxRecDepth 100000 in
set_option maxHeartbeats 6400000 in
theorem sums_walk (A A' : Option Addr) (l k : List Nat) (n m cap cap' s : Nat) (w : World) (hn : l.length = n) (hm : k.length = m) (h3 : n ≤ 3000) (h4 : m ≤ 3000) (hc : m ≤ cap') (hs : Src w A (bts l)) (hs' : Src w A' (bts k)) (hb : ∀ b ∈ l, b < 256) (hb' : ∀ b ∈ k, b < 256) (hsl : s < 65536) :
    Calls Try.prog 3 #[.int .u16 s, .slice A n cap, .slice A' m cap'] w fun e w' => e = .returned (.bool true) ∧ Below w.heap.size w w' := by
  obtain ⟨S, er, HO1, HO2⟩ := both_open m hm h4 hb'
  have HP1 := Lib.hid (HO1 w A' cap' hc hs')
  have HP2 := Lib.hid (fun W (hW : Below w.heap.size w W) => HO2 W A' cap' hc (src_later hs' hW))
  have H13 := fun W (hW : Below w.heap.size w W) => of_any (cap := cap) n hn (by unfold maxLen; omega) W (src_later hs hW) hb
  have H14a := fun W (hW : Below w.heap.size w W) => refmore_any (cap := cap) 65535 n hn (by omega) (by unfold maxLen; omega) W (src_later hs hW) hb
  have H15 := fun W (hW : Below w.heap.size w W) => more_any (cap := cap) s n hn hsl (by unfold maxLen; omega) W (src_later hs hW) hb
  have H14 := fun W (hW : Below w.heap.size w W) => refmore_any (cap := cap) s n hn hsl (by unfold maxLen; omega) W (src_later hs hW) hb
  have H16 := fun W (hW : Below w.heap.size w W) => close_any (cap := cap) n hn (by omega) W (src_later hs hW) hb
  have H17 := fun W (hW : Below w.heap.size w W) => refclose_any (cap := cap) n hn h3 W (src_later hs hW) hb
  have HK1 := Lib.hid (fun (W : World) (g : Nat) (h : Row W g 5 (bts (closed l)).toArray) => (by
    have h1 := conv_str (c := n + 2) h (closed_lt hb)
    rw [length_closed, hn] at h1
    exact h1 : (convert 23 9 (.slice (some ⟨g, 0, none⟩) (n + 2) (n + 2))).run Try.prog W = .ok (.string (strOf (closed l))) W))
  have HK2 := Lib.hid (fun (W : World) (B : Nat) (x : Value) (h : W.ownsRow B 5 1 x (n + 2) (bts (closed l))) => conv_own h (closed_lt hb))
  have hn1 : ¬ (3000 : Int) < (n : Int) := by omega
  have hm1 : ¬ (3000 : Int) < (m : Int) := by omega
  generalize strOf (closed l) = st at *
  generalize more 65535 l = ss at *
  generalize more s l = sm at *
  clear hn hm hs hs' hb hb' HO1 HO2
  have H13 := Lib.hid H13
  have H14a := Lib.hid H14a
  have H15 := Lib.hid H15
  have H14 := Lib.hid H14
  have H16 := Lib.hid H16
  have H17 := Lib.hid H17
  go_enter Try.func3, Try.ntmps3
  go_wp2_with fail
  refine HP1.out.mono ?_
  rintro e w1 ⟨x1, rfl, hb1, hx1⟩
  have HX1 := Lib.hid hx1
  have HB1 := Lib.hid hb1
  clear hb1 hx1
  go_wp2_with fail
  refine (HP2.out w1 HB1.out).mono ?_
  rintro e w2 ⟨x2, rfl, hb2, hx2⟩
  have HX1 := Lib.hid (fun W (h : Below w2.heap.size w2 W) => HX1.out W (bl_step hb2 h))
  have HX2 := Lib.hid hx2
  have HB2 := Lib.hid (bl_step HB1.out hb2)
  have H13 := Lib.hid (fun W (h : Below w2.heap.size w2 W) => H13.out W (bl_step HB2.out h))
  have H14a := Lib.hid (fun W (h : Below w2.heap.size w2 W) => H14a.out W (bl_step HB2.out h))
  have H15 := Lib.hid (fun W (h : Below w2.heap.size w2 W) => H15.out W (bl_step HB2.out h))
  have H14 := Lib.hid (fun W (h : Below w2.heap.size w2 W) => H14.out W (bl_step HB2.out h))
  have H16 := Lib.hid (fun W (h : Below w2.heap.size w2 W) => H16.out W (bl_step HB2.out h))
  have H17 := Lib.hid (fun W (h : Below w2.heap.size w2 W) => H17.out W (bl_step HB2.out h))
  clear hb2 hx2
  go_wp2_with fail
  refine wp_of_frame [some (.int .u16 s), some (.slice A n cap), none, none, none, none, none, some (x1), some (.int .i64 er), some (x2), some (.int .i64 er), none, none, none, none, none, none, none, none, none, none, none, none, none, none, none, none, none, none, none, none, none, none, none, none, none, none, none, none, none, none, none, none, none, none, none, none, none, none, none, none, none, none, none, none, none, none, none, none, none, none, none, none, none, none, none, none, none] (by
    simp only [Fr, Holes]
    repeat apply Exists.intro
    rfl) ?_
  intro a' hfr
  simp only [Fr, Holes] at hfr
  repeat (obtain ⟨_, hfr⟩ := hfr)
  refine wp_region_noPanic ?_
  refine wp_region_held_drew (S := fun W => Below w2.heap.size w2 W) (by kernel_rfl) (bl_drew (Below.refl _ _)) (fun hS => ?_)
  refine wpAnyH_ready (rs := [0]) (by kernel_rfl) (by simp) ?_
  refine AllReadyH.cons rfl (fun K hK => ?_) AllReadyH.nil
  go_simp
  refine (calive_any _).mono ?_
  rintro e v1 ⟨rfl, h1⟩
  try go_simp
  refine hK.out _ _ (bl_step hS h1) (fun hS => ?_)
  clear hK K
  try simp only [Act.put, List.setIfInBounds_toArray, List.set_cons_zero, List.set_cons_succ]
  have hBv1 : Below w2.heap.size w2 v1 := hS
  refine wpAnyH_more (S' := fun W => Below v1.heap.size v1 W) ?_ (fun _ h => bl_step hBv1 h)
  clear hS
  have hS : (fun W => Below v1.heap.size v1 W) v1 := Below.refl _ _
  refine take_at 1 31 (v := ?v1) (by simp only [List.getElem?_toArray, List.getElem?_cons_succ, List.getElem?_cons_zero]; rfl) rfl (by kernel_rfl) (by kernel_rfl) (by kernel_rfl) (fun _ _ _ h => h) (Or.inl ⟨by rfl, ?y1⟩) hS ?_
  case y1 =>
    intro W hSW
    (try dsimp only at hSW)
    go_simp
    first | done | with_reducible rfl
  simp only [Act.put, List.setIfInBounds_toArray, List.set_cons_zero, List.set_cons_succ]
  refine take_at 2 32 (v := ?v2) (by simp only [List.getElem?_toArray, List.getElem?_cons_succ, List.getElem?_cons_zero]; rfl) rfl (by kernel_rfl) (by kernel_rfl) (by kernel_rfl) (fun _ _ _ h => h) (Or.inl ⟨by rfl, ?y2⟩) hS ?_
  case y2 =>
    intro W hSW
    (try dsimp only at hSW)
    go_simp
    first | done | with_reducible rfl
  simp only [Act.put, List.setIfInBounds_toArray, List.set_cons_zero, List.set_cons_succ]
  refine take_at 4 34 (v := ?v4) (by simp only [List.getElem?_toArray, List.getElem?_cons_succ, List.getElem?_cons_zero]; rfl) rfl (by kernel_rfl) (by kernel_rfl) (by kernel_rfl) (fun _ _ _ h => h) (Or.inl ⟨by rfl, ?y4⟩) hS ?_
  case y4 =>
    intro W hSW
    (try dsimp only at hSW)
    go_simp
    first | done | with_reducible rfl
  simp only [Act.put, List.setIfInBounds_toArray, List.set_cons_zero, List.set_cons_succ]
  refine wpAnyH_ready (rs := [3]) (by kernel_rfl) (by simp) ?_
  refine AllReadyH.cons rfl (fun K hK => ?_) AllReadyH.nil
  go_simp
  refine (H13.out _ (bl_step hBv1 hS)).mono ?_
  rintro e u ⟨rfl, rfl⟩
  try go_simp
  refine hK.out _ _ hS (fun hS => ?_)
  clear hK K
  try simp only [Act.put, List.setIfInBounds_toArray, List.set_cons_zero, List.set_cons_succ]
  refine wpAnyH_ready (rs := [5]) (by kernel_rfl) (by simp) ?_
  refine AllReadyH.cons rfl (fun K hK => ?_) AllReadyH.nil
  go_simp
  refine (H14a.out _ (bl_step hBv1 hS)).mono ?_
  rintro e u ⟨rfl, rfl⟩
  try go_simp
  refine hK.out _ _ hS (fun hS => ?_)
  clear hK K
  try simp only [Act.put, List.setIfInBounds_toArray, List.set_cons_zero, List.set_cons_succ]
  refine take_at 6 36 (v := ?v6) (by simp only [List.getElem?_toArray, List.getElem?_cons_succ, List.getElem?_cons_zero]; rfl) rfl (by kernel_rfl) (by kernel_rfl) (by kernel_rfl) (fun _ _ _ h => h) (Or.inl ⟨by rfl, ?y6⟩) hS ?_
  case y6 =>
    intro W hSW
    (try dsimp only at hSW)
    go_simp
    first | done | with_reducible rfl
  simp only [Act.put, List.setIfInBounds_toArray, List.set_cons_zero, List.set_cons_succ]
  refine take_at 7 37 (v := ?v7) (by simp only [List.getElem?_toArray, List.getElem?_cons_succ, List.getElem?_cons_zero]; rfl) rfl (by kernel_rfl) (by kernel_rfl) (by kernel_rfl) (fun _ _ _ h => h) (Or.inl ⟨by rfl, ?y7⟩) hS ?_
  case y7 =>
    intro W hSW
    (try dsimp only at hSW)
    go_simp
    first | done | with_reducible rfl
  simp only [Act.put, List.setIfInBounds_toArray, List.set_cons_zero, List.set_cons_succ]
  refine take_at 8 38 (v := ?v8) (by simp only [List.getElem?_toArray, List.getElem?_cons_succ, List.getElem?_cons_zero]; rfl) rfl (by kernel_rfl) (by kernel_rfl) (by kernel_rfl) (fun _ _ _ h => h) (Or.inl ⟨by rfl, ?y8⟩) hS ?_
  case y8 =>
    intro W hSW
    (try dsimp only at hSW)
    go_simp
    first | done | with_reducible rfl
  simp only [Act.put, List.setIfInBounds_toArray, List.set_cons_zero, List.set_cons_succ]
  refine take_at 9 39 (v := ?v9) (by simp only [List.getElem?_toArray, List.getElem?_cons_succ, List.getElem?_cons_zero]; rfl) rfl (by kernel_rfl) (by kernel_rfl) (by kernel_rfl) (fun _ _ _ h => h) (Or.inl ⟨by rfl, ?y9⟩) hS ?_
  case y9 =>
    intro W hSW
    (try dsimp only at hSW)
    go_simp
    first | done | with_reducible rfl
  simp only [Act.put, List.setIfInBounds_toArray, List.set_cons_zero, List.set_cons_succ]
  refine take_at 10 40 (v := ?v10) (by simp only [List.getElem?_toArray, List.getElem?_cons_succ, List.getElem?_cons_zero]; rfl) rfl (by kernel_rfl) (by kernel_rfl) (by kernel_rfl) (fun _ _ _ h => h) (Or.inl ⟨by rfl, ?y10⟩) hS ?_
  case y10 =>
    intro W hSW
    (try dsimp only at hSW)
    go_simp
    first | done | with_reducible rfl
  simp only [Act.put, List.setIfInBounds_toArray, List.set_cons_zero, List.set_cons_succ]
  refine take_at 12 42 (v := ?v12) (by simp only [List.getElem?_toArray, List.getElem?_cons_succ, List.getElem?_cons_zero]; rfl) rfl (by kernel_rfl) (by kernel_rfl) (by kernel_rfl) (fun _ _ _ h => h) (Or.inl ⟨by rfl, ?y12⟩) hS ?_
  case y12 =>
    intro W hSW
    (try dsimp only at hSW)
    go_simp
    first | done | with_reducible rfl
  simp only [Act.put, List.setIfInBounds_toArray, List.set_cons_zero, List.set_cons_succ]
  refine take_at 13 43 (v := ?v13) (by simp only [List.getElem?_toArray, List.getElem?_cons_succ, List.getElem?_cons_zero]; rfl) rfl (by kernel_rfl) (by kernel_rfl) (by kernel_rfl) (fun _ _ _ h => h) (Or.inl ⟨by rfl, ?y13⟩) hS ?_
  case y13 =>
    intro W hSW
    (try dsimp only at hSW)
    go_simp
    first | done | with_reducible rfl
  simp only [Act.put, List.setIfInBounds_toArray, List.set_cons_zero, List.set_cons_succ]
  refine wpAnyH_ready (rs := [11]) (by kernel_rfl) (by simp) ?_
  refine AllReadyH.cons rfl (fun K hK => ?_) AllReadyH.nil
  go_simp
  refine (H15.out _ (bl_step hBv1 hS)).mono ?_
  rintro e u ⟨rfl, rfl⟩
  try go_simp
  refine hK.out _ _ hS (fun hS => ?_)
  clear hK K
  try simp only [Act.put, List.setIfInBounds_toArray, List.set_cons_zero, List.set_cons_succ]
  refine wpAnyH_ready (rs := [14]) (by kernel_rfl) (by simp) ?_
  refine AllReadyH.cons rfl (fun K hK => ?_) AllReadyH.nil
  go_simp
  refine (H14.out _ (bl_step hBv1 hS)).mono ?_
  rintro e u ⟨rfl, rfl⟩
  try go_simp
  refine hK.out _ _ hS (fun hS => ?_)
  clear hK K
  try simp only [Act.put, List.setIfInBounds_toArray, List.set_cons_zero, List.set_cons_succ]
  refine take_at 15 45 (v := ?v15) (by simp only [List.getElem?_toArray, List.getElem?_cons_succ, List.getElem?_cons_zero]; rfl) rfl (by kernel_rfl) (by kernel_rfl) (by kernel_rfl) (fun _ _ _ h => h) (Or.inl ⟨by rfl, ?y15⟩) hS ?_
  case y15 =>
    intro W hSW
    (try dsimp only at hSW)
    go_simp
    first | done | with_reducible rfl
  simp only [Act.put, List.setIfInBounds_toArray, List.set_cons_zero, List.set_cons_succ]
  refine take_at 16 46 (v := ?v16) (by simp only [List.getElem?_toArray, List.getElem?_cons_succ, List.getElem?_cons_zero]; rfl) rfl (by kernel_rfl) (by kernel_rfl) (by kernel_rfl) (fun _ _ _ h => h) (Or.inl ⟨by rfl, ?y16⟩) hS ?_
  case y16 =>
    intro W hSW
    (try dsimp only at hSW)
    go_simp
    first | done | with_reducible rfl
  simp only [Act.put, List.setIfInBounds_toArray, List.set_cons_zero, List.set_cons_succ]
  refine take_at 17 47 (v := ?v17) (by simp only [List.getElem?_toArray, List.getElem?_cons_succ, List.getElem?_cons_zero]; rfl) rfl (by kernel_rfl) (by kernel_rfl) (by kernel_rfl) (fun _ _ _ h => h) (Or.inl ⟨by rfl, ?y17⟩) hS ?_
  case y17 =>
    intro W hSW
    (try dsimp only at hSW)
    go_simp
    first | done | with_reducible rfl
  simp only [Act.put, List.setIfInBounds_toArray, List.set_cons_zero, List.set_cons_succ]
  refine take_at 18 48 (v := ?v18) (by simp only [List.getElem?_toArray, List.getElem?_cons_succ, List.getElem?_cons_zero]; rfl) rfl (by kernel_rfl) (by kernel_rfl) (by kernel_rfl) (fun _ _ _ h => h) (Or.inl ⟨by rfl, ?y18⟩) hS ?_
  case y18 =>
    intro W hSW
    (try dsimp only at hSW)
    go_simp
    first | done | with_reducible rfl
  simp only [Act.put, List.setIfInBounds_toArray, List.set_cons_zero, List.set_cons_succ]
  refine take_at 21 51 (v := ?v21) (by simp only [List.getElem?_toArray, List.getElem?_cons_succ, List.getElem?_cons_zero]; rfl) rfl (by kernel_rfl) (by kernel_rfl) (by kernel_rfl) (fun _ _ _ h => h) (Or.inl ⟨by rfl, ?y21⟩) hS ?_
  case y21 =>
    intro W hSW
    (try dsimp only at hSW)
    go_simp
    first | done | with_reducible rfl
  simp only [Act.put, List.setIfInBounds_toArray, List.set_cons_zero, List.set_cons_succ]
  refine wpAnyH_ready (rs := [19]) (by kernel_rfl) (by simp) ?_
  refine AllReadyH.cons rfl (fun K hK => ?_) AllReadyH.nil
  go_simp
  refine (H16.out _ (bl_step hBv1 hS)).mono ?_
  rintro e v2 ⟨g2, rfl, hg2, hr2, h2⟩; have HR2 := Lib.hid hr2; clear hr2 hg2
  try go_simp
  refine hK.out _ _ (bl_step hS h2) (fun hS => ?_)
  clear hK K
  try simp only [Act.put, List.setIfInBounds_toArray, List.set_cons_zero, List.set_cons_succ]
  have hBv2 : Below v1.heap.size v1 v2 := hS
  refine wpAnyH_more (S' := fun W => Below v2.heap.size v2 W) ?_ (fun _ h => bl_step hBv2 h)
  clear hS
  have hS : (fun W => Below v2.heap.size v2 W) v2 := Below.refl _ _
  refine take_at 20 50 (v := ?v20) (by simp only [List.getElem?_toArray, List.getElem?_cons_succ, List.getElem?_cons_zero]; rfl) rfl (by kernel_rfl) (by kernel_rfl) (by kernel_rfl) (fun _ _ _ h => h) (Or.inl ⟨by rfl, ?y20⟩) hS ?_
  case y20 =>
    intro W hSW
    (try dsimp only at hSW)
    have z := HK1.out _ _ (HR2.out.later hSW)
    go_simp
    first | done | with_reducible rfl
  simp only [Act.put, List.setIfInBounds_toArray, List.set_cons_zero, List.set_cons_succ]
  refine wpAnyH_ready (rs := [22]) (by kernel_rfl) (by simp) ?_
  refine AllReadyH.cons rfl (fun K hK => ?_) AllReadyH.nil
  go_simp
  refine (H17.out _ (bl_step hBv1 (bl_step hBv2 hS))).mono ?_
  rintro e v3 ⟨x3, rfl, ho3, h3⟩; have HO3 := Lib.hid ho3; clear ho3
  try go_simp
  refine hK.out _ _ (bl_step hS h3) (fun hS => ?_)
  clear hK K
  try simp only [Act.put, List.setIfInBounds_toArray, List.set_cons_zero, List.set_cons_succ]
  have hBv3 : Below v2.heap.size v2 v3 := hS
  refine wpAnyH_more (S' := fun W => Below v3.heap.size v3 W) ?_ (fun _ h => bl_step hBv3 h)
  clear hS
  have hS : (fun W => Below v3.heap.size v3 W) v3 := Below.refl _ _
  refine take_at 23 53 (v := ?v23) (by simp only [List.getElem?_toArray, List.getElem?_cons_succ, List.getElem?_cons_zero]; rfl) rfl (by kernel_rfl) (by kernel_rfl) (by kernel_rfl) (fun _ _ _ h => h) (Or.inl ⟨by rfl, ?y23⟩) hS ?_
  case y23 =>
    intro W hSW
    (try dsimp only at hSW)
    have z := HK2.out _ _ _ (own_later HO3.out hSW)
    go_simp
    first | done | with_reducible rfl
  simp only [Act.put, List.setIfInBounds_toArray, List.set_cons_zero, List.set_cons_succ]
  refine take_at 24 54 (v := ?v24) (by simp only [List.getElem?_toArray, List.getElem?_cons_succ, List.getElem?_cons_zero]; rfl) rfl (by kernel_rfl) (by kernel_rfl) (by kernel_rfl) (fun _ _ _ h => h) (Or.inl ⟨by rfl, ?y24⟩) hS ?_
  case y24 =>
    intro W hSW
    (try dsimp only at hSW)
    go_simp
    first | done | with_reducible rfl
  simp only [Act.put, List.setIfInBounds_toArray, List.set_cons_zero, List.set_cons_succ]
  refine take_at 25 55 (v := ?v25) (by simp only [List.getElem?_toArray, List.getElem?_cons_succ, List.getElem?_cons_zero]; rfl) rfl (by kernel_rfl) (by kernel_rfl) (by kernel_rfl) (fun _ _ _ h => h) (Or.inl ⟨by rfl, ?y25⟩) hS ?_
  case y25 =>
    intro W hSW
    (try dsimp only at hSW)
    go_simp
    first | done | with_reducible rfl
  simp only [Act.put, List.setIfInBounds_toArray, List.set_cons_zero, List.set_cons_succ]
  refine take_at 26 56 (v := ?v26) (by simp only [List.getElem?_toArray, List.getElem?_cons_succ, List.getElem?_cons_zero]; rfl) rfl (by kernel_rfl) (by kernel_rfl) (by kernel_rfl) (fun _ _ _ h => h) (Or.inl ⟨by rfl, ?y26⟩) hS ?_
  case y26 =>
    intro W hSW
    (try dsimp only at hSW)
    go_simp
    first | done | with_reducible rfl
  simp only [Act.put, List.setIfInBounds_toArray, List.set_cons_zero, List.set_cons_succ]
  refine take_at 27 57 (v := ?v27) (by simp only [List.getElem?_toArray, List.getElem?_cons_succ, List.getElem?_cons_zero]; rfl) rfl (by kernel_rfl) (by kernel_rfl) (by kernel_rfl) (fun _ _ _ h => h) (Or.inl ⟨by rfl, ?y27⟩) hS ?_
  case y27 =>
    intro W hSW
    (try dsimp only at hSW)
    go_simp
    first | done | with_reducible rfl
  simp only [Act.put, List.setIfInBounds_toArray, List.set_cons_zero, List.set_cons_succ]
  refine take_at 28 58 (v := ?v28) (by simp only [List.getElem?_toArray, List.getElem?_cons_succ, List.getElem?_cons_zero]; rfl) rfl (by kernel_rfl) (by kernel_rfl) (by kernel_rfl) (fun _ _ _ h => h) (Or.inl ⟨by rfl, ?y28⟩) hS ?_
  case y28 =>
    intro W hSW
    (try dsimp only at hSW)
    have z := HX1.out W (bl_step hBv1 (bl_step hBv2 (bl_step hBv3 hSW)))
    go_simp
    first | done | with_reducible rfl
  simp only [Act.put, List.setIfInBounds_toArray, List.set_cons_zero, List.set_cons_succ]
  refine take_at 29 59 (v := ?v29) (by simp only [List.getElem?_toArray, List.getElem?_cons_succ, List.getElem?_cons_zero]; rfl) rfl (by kernel_rfl) (by kernel_rfl) (by kernel_rfl) (fun _ _ _ h => h) (Or.inl ⟨by rfl, ?y29⟩) hS ?_
  case y29 =>
    intro W hSW
    (try dsimp only at hSW)
    go_simp
    first | done | with_reducible rfl
  simp only [Act.put, List.setIfInBounds_toArray, List.set_cons_zero, List.set_cons_succ]
  refine take_at 30 60 (v := ?v30) (by simp only [List.getElem?_toArray, List.getElem?_cons_succ, List.getElem?_cons_zero]; rfl) rfl (by kernel_rfl) (by kernel_rfl) (by kernel_rfl) (fun _ _ _ h => h) (Or.inl ⟨by rfl, ?y30⟩) hS ?_
  case y30 =>
    intro W hSW
    (try dsimp only at hSW)
    have z := HX2.out W (bl_step hBv1 (bl_step hBv2 (bl_step hBv3 hSW)))
    go_simp
    first | done | with_reducible rfl
  simp only [Act.put, List.setIfInBounds_toArray, List.set_cons_zero, List.set_cons_succ]
  refine take_at 31 61 (v := ?v31) (by simp only [List.getElem?_toArray, List.getElem?_cons_succ, List.getElem?_cons_zero]; rfl) rfl (by kernel_rfl) (by kernel_rfl) (by kernel_rfl) (fun _ _ _ h => h) (Or.inl ⟨by rfl, ?y31⟩) hS ?_
  case y31 =>
    intro W hSW
    (try dsimp only at hSW)
    go_simp
    first | done | with_reducible rfl
  simp only [Act.put, List.setIfInBounds_toArray, List.set_cons_zero, List.set_cons_succ]
  refine take_at 32 62 (v := ?v32) (by simp only [List.getElem?_toArray, List.getElem?_cons_succ, List.getElem?_cons_zero]; rfl) rfl (by kernel_rfl) (by kernel_rfl) (by kernel_rfl) (fun _ _ _ h => h) (Or.inl ⟨by rfl, ?y32⟩) hS ?_
  case y32 =>
    intro W hSW
    (try dsimp only at hSW)
    go_simp
    first | done | with_reducible rfl
  simp only [Act.put, List.setIfInBounds_toArray, List.set_cons_zero, List.set_cons_succ]
  refine take_at 33 63 (v := ?v33) (by simp only [List.getElem?_toArray, List.getElem?_cons_succ, List.getElem?_cons_zero]; rfl) rfl (by kernel_rfl) (by kernel_rfl) (by kernel_rfl) (fun _ _ _ h => h) (Or.inl ⟨by rfl, ?y33⟩) hS ?_
  case y33 =>
    intro W hSW
    (try dsimp only at hSW)
    go_simp
    first | done | with_reducible rfl
  simp only [Act.put, List.setIfInBounds_toArray, List.set_cons_zero, List.set_cons_succ]
  refine take_at 34 64 (v := ?v34) (by simp only [List.getElem?_toArray, List.getElem?_cons_succ, List.getElem?_cons_zero]; rfl) rfl (by kernel_rfl) (by kernel_rfl) (by kernel_rfl) (fun _ _ _ h => h) (Or.inl ⟨by rfl, ?y34⟩) hS ?_
  case y34 =>
    intro W hSW
    (try dsimp only at hSW)
    go_simp
    first | done | with_reducible rfl
  simp only [Act.put, List.setIfInBounds_toArray, List.set_cons_zero, List.set_cons_succ]
  refine take_at 35 65 (v := ?v35) (by simp only [List.getElem?_toArray, List.getElem?_cons_succ, List.getElem?_cons_zero]; rfl) rfl (by kernel_rfl) (by kernel_rfl) (by kernel_rfl) (fun _ _ _ h => h) (Or.inl ⟨by rfl, ?y35⟩) hS ?_
  case y35 =>
    intro W hSW
    (try dsimp only at hSW)
    go_simp
    first | done | with_reducible rfl
  simp only [Act.put, List.setIfInBounds_toArray, List.set_cons_zero, List.set_cons_succ]
  refine take_at 36 66 (v := ?v36) (by simp only [List.getElem?_toArray, List.getElem?_cons_succ, List.getElem?_cons_zero]; rfl) rfl (by kernel_rfl) (by kernel_rfl) (by kernel_rfl) (fun _ _ _ h => h) (Or.inl ⟨by rfl, ?y36⟩) hS ?_
  case y36 =>
    intro W hSW
    (try dsimp only at hSW)
    go_simp
    first | done | with_reducible rfl
  simp only [Act.put, List.setIfInBounds_toArray, List.set_cons_zero, List.set_cons_succ]
  refine take_at 37 67 (v := ?v37) (by simp only [List.getElem?_toArray, List.getElem?_cons_succ, List.getElem?_cons_zero]; rfl) rfl (by kernel_rfl) (by kernel_rfl) (by kernel_rfl) (fun _ _ _ h => h) (Or.inl ⟨by rfl, ?y37⟩) hS ?_
  case y37 =>
    intro W hSW
    (try dsimp only at hSW)
    go_simp
    first | done | with_reducible rfl
  simp only [Act.put, List.setIfInBounds_toArray, List.set_cons_zero, List.set_cons_succ]
  refine take_at 38 6 (v := ?v38) (by simp only [List.getElem?_toArray, List.getElem?_cons_succ, List.getElem?_cons_zero]; rfl) rfl (by kernel_rfl) (by kernel_rfl) (by kernel_rfl) (fun _ _ _ h => h) (Or.inl ⟨by rfl, ?y38⟩) hS ?_
  case y38 =>
    intro W hSW
    (try dsimp only at hSW)
    go_simp
    first | done | with_reducible rfl
  simp only [Act.put, List.setIfInBounds_toArray, List.set_cons_zero, List.set_cons_succ]
  refine wpAnyH_done (by kernel_rfl) ?_ _
  refine NoPanic.normal ?_
  go_wp2_with fail
  go_ret
  exact ⟨rfl, bl_step HB2.out (bl_step hBv1 (bl_step hBv2 hBv3))⟩
end Go.Proofs.Ytcpjalkonfjgbaa
