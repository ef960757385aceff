/-
  ResegFits: the law walked. A law's row follows from its walk: the call returns true, and below the heap's old size the world is as it was; then every argument reads as it did.
-/
import Derived.Test.YtolinlnnbdjimaaJResegFits22
import Derived.Test.YtolinlnnbdjimaaJResegFits19
import Derived.Test.YtolinlnnbdjimaaRows
import Derived.WalkKit
import Derived.ProofKit
import Derived.OpenShut
namespace Go.Proofs.Ytolinlnnbdjimaa
open Go.RowKit

set_option maxRecDepth 100000 in
set_option maxHeartbeats 3200000 in
/-- nothing goes -/
theorem rfits_none {A : Option Addr} {L : List RowB} (poll part last : Bool) (fi sn off a b grant wd er : Int) (n cap : Nat) (w : World) (hL : L.length = n) (hn : n ≤ 9223372036854775807) (hs : RSrc w A L) (hm : ∀ m ∈ lens L, m ≤ 9223372036854775807)
    (hc : ∀ W, Below w.heap.size w W → (lens L).sum ≤ 9000 → n ≤ 40 → Calls Try.prog 39 #[.agg #[.bool poll, .int .i64 fi, .int .i64 sn, .bool part, .bool last, .int .i64 off, .slice A n cap], .int .i64 a, .int .i64 b, .int .i64 grant, .int .i64 wd] W fun e w' => e = .returned (.tuple #[.agg #[.bool false, .int .i64 0, .int .i64 0, .bool false, .bool false, .int .i64 0, .slice none 0 0], .int .i64 0, .int .i64 er]) ∧ Below W.heap.size W w') (h0 : er ≠ 0) (h16 : er = 16 → grant < leastR wd) :
    Calls Try.prog 10 #[.agg #[.bool poll, .int .i64 fi, .int .i64 sn, .bool part, .bool last, .int .i64 off, .slice A n cap], .int .i64 a, .int .i64 b, .int .i64 grant, .int .i64 wd] w fun e w' => e = .returned (.bool true) ∧ Below w.heap.size w w' := by
  have HB0 := Lib.hid (bl_alloc (Below.refl w.heap.size w) (.cells #[.bool poll, .int .i64 fi, .int .i64 sn, .bool part, .bool last, .int .i64 off, .slice A n cap] 32))
  have HGR := Lib.hid (great_any n cap (w.alloc (.cells #[.bool poll, .int .i64 fi, .int .i64 sn, .bool part, .bool last, .int .i64 off, .slice A n cap] 32)) hL hn (hs.later HB0.out) hm)
  have HC := Lib.hid hc
  have HLE := Lib.hid (fun W => rsleast_any wd W)
  generalize leastR wd = le at *
  have he : (er == 0) = false := by simpa using h0
  have hcase : ((er == 16) = false) ∨ ((er == 16) = true ∧ grant < le) := by
    cases h : (er == 16)
    · exact .inl rfl
    · exact .inr ⟨rfl, h16 (by simpa using h)⟩
  have HZ := Lib.hid (show sumTo (lens L) 0 = 0 by simp [sumTo])
  generalize hd : (lens L).sum = d at *
  clear hs hL hm h0 h16 hc hd
  have key : ∀ b16 : Bool, (er == 16) = b16 → (b16 = true → grant < le) → Calls Try.prog 10 #[.agg #[.bool poll, .int .i64 fi, .int .i64 sn, .bool part, .bool last, .int .i64 off, .slice A n cap], .int .i64 a, .int .i64 b, .int .i64 grant, .int .i64 wd] w fun e w' => e = .returned (.bool true) ∧ Below w.heap.size w w' := by
    intro b16 hb16 hle
    clear hcase
    go_enter Try.func10, Try.ntmps10
    go_wp2_with (go_at_call 19; refine HGR.out.mono ?_; rintro e w1 ⟨⟨b', rfl, hbb⟩, rfl⟩; (have HBB := Lib.hid hbb); clear hbb; cases b')
    · obtain ⟨hn40, hd9⟩ := HBB.out (by first | rfl | trivial)
      have HC1 := Lib.hid (HC.out _ HB0.out hd9 hn40)
      cases b16
      · have hb17 : (er != 16) = true := by simp only [bne, hb16]; rfl
        go_wp2_with (first
          | (go_at_call 39; (with_reducible refine HC1.out.mono ?_); rintro e w2 ⟨rfl, hb2⟩; (have HB2 := Lib.hid (bl_alloc (bl_step HB0.out hb2) (.cells #[.bool false, .int .i64 0, .int .i64 0, .bool false, .bool false, .int .i64 0, .slice none 0 0] 32))); (have RX2 := Lib.hid (Row.made w2 32 #[.bool false, .int .i64 0, .int .i64 0, .bool false, .bool false, .int .i64 0, .slice none 0 0])); clear hb2)
          | (go_at_call 38; (with_reducible refine (rsalive_any _).mono ?_); rintro e w3 ⟨rfl, hb3⟩; (have HB3 := Lib.hid (HB2.out.trans (hb3.mono HB2.out.size))); obtain ⟨c0, c1, c2, c3, c4, c5, c6⟩ := cells_pk (RX2.out.later hb3); clear hb3))
        go_ret
        exact ⟨rfl, HB3.out⟩
      · have hb17 : (er != 16) = false := by simp only [bne, hb16]; rfl
        have hle' := hle rfl
        go_wp2_with (first
          | (go_at_call 39; (with_reducible refine HC1.out.mono ?_); rintro e w2 ⟨rfl, hb2⟩; (have HB2 := Lib.hid (bl_alloc (bl_step HB0.out hb2) (.cells #[.bool false, .int .i64 0, .int .i64 0, .bool false, .bool false, .int .i64 0, .slice none 0 0] 32))); (have RX2 := Lib.hid (Row.made w2 32 #[.bool false, .int .i64 0, .int .i64 0, .bool false, .bool false, .int .i64 0, .slice none 0 0])); clear hb2)
          | (go_at_call 38; (with_reducible refine (rsalive_any _).mono ?_); rintro e w3 ⟨rfl, hb3⟩; (have HB3 := Lib.hid (HB2.out.trans (hb3.mono HB2.out.size))); obtain ⟨c0, c1, c2, c3, c4, c5, c6⟩ := cells_pk (RX2.out.later hb3); clear hb3)
          | (go_at_call 41; (with_reducible refine (HLE.out _).mono ?_); rintro e w11 ⟨rfl, rfl⟩))
        go_ret
        exact ⟨rfl, HB3.out⟩
    · go_wp2_with (go_at_call 38; refine (rsalive_any _).mono ?_; rintro e w2 ⟨rfl, hb2⟩)
      go_ret
      exact ⟨rfl, bl_step HB0.out hb2⟩
  rcases hcase with h | ⟨h, h'⟩
  · exact key _ h (fun h => by cases h)
  · exact key _ h (fun _ => h')
set_option maxRecDepth 100000 in
set_option maxHeartbeats 12800000 in
/-- something goes -/
theorem rfits_go {A : Option Addr} {L : List RowB} (poll part last : Bool) (fi sn off grant wd : Int) (n cap a b : Nat) (w : World) (hL : L.length = n) (hs : RSrc w A L) (hf : faultR part last fi sn off (lens L) a b grant wd = 0)
    (hc : ∀ W, Below w.heap.size w W → Calls Try.prog 39 #[.agg #[.bool poll, .int .i64 fi, .int .i64 sn, .bool part, .bool last, .int .i64 off, .slice A n cap], .int .i64 a, .int .i64 b, .int .i64 grant, .int .i64 wd] W (GoesR fi sn (lens L) (flat L) a b grant wd W)) :
    Calls Try.prog 10 #[.agg #[.bool poll, .int .i64 fi, .int .i64 sn, .bool part, .bool last, .int .i64 off, .slice A n cap], .int .i64 a, .int .i64 b, .int .i64 grant, .int .i64 wd] w fun e w' => e = .returned (.bool true) ∧ Below w.heap.size w w' := by
  obtain ⟨hpa, hne, hg0, hg1, _, hlt, hle⟩ := faultR_ok hf
  subst hpa
  obtain ⟨hwd, hf0, hf3, _, _, hl1, hl24, hok, _⟩ := amdF_pos hne
  have hn24 : n ≤ 24 := by rw [← hL, ← length_lens]; exact hl24
  have hsum := sumTo_bound hok (Nat.le_refl _)
  rw [sumTo_all] at hsum
  have hd4 : (lens L).sum ≤ 96000 := by omega
  have hm : ∀ m ∈ lens L, m ≤ 9223372036854775807 := by
    intro m hm
    obtain ⟨k, hk⟩ := List.getElem?_of_mem hm
    have := okTo_small hok hk
    omega
  have hby : ∀ x ∈ flat L, x < 256 := by
    intro x hx
    unfold flat texts at hx
    rw [List.mem_flatten] at hx
    obtain ⟨l, hl, hx⟩ := hx
    obtain ⟨r, hr, rfl⟩ := List.mem_map.1 hl
    obtain ⟨k, hk⟩ := List.getElem?_of_mem hr
    obtain ⟨ad, _, hc⟩ := hs (by have := (List.getElem?_eq_some_iff.1 hk).1; omega)
    exact (hc k r hk).2.2.2.2 x hx
  have HC := Lib.hid hc
  have HB0 := Lib.hid (bl_alloc (Below.refl w.heap.size w) (.cells #[.bool poll, .int .i64 fi, .int .i64 sn, .bool false, .bool last, .int .i64 off, .slice A n cap] 32))
  have RP0 := Lib.hid (Row.made w 32 #[.bool poll, .int .i64 fi, .int .i64 sn, .bool false, .bool last, .int .i64 off, .slice A n cap])
  have HGR := Lib.hid (great_any n cap (w.alloc (.cells #[.bool poll, .int .i64 fi, .int .i64 sn, .bool false, .bool last, .int .i64 off, .slice A n cap] 32)) hL (by omega) (hs.later HB0.out) hm)
  have HD := Lib.hid (fun W (hb : Below w.heap.size w W) => adata_len (A := A) poll false last fi sn off n cap W hL (by omega) (hs.later hb) (by omega))
  have HDL := Lib.hid (length_flat L)
  have HFB := Lib.hid hby
  have HSX : Hid (∀ (pt lb : Bool) (f2 of2 : Int) (g k : Nat) (M : List RowB) (W W' : World), M.length = k → k ≤ 24 → OwnR w.heap.size W (.slice (some ⟨g, 0, none⟩) k k) M → Below W.heap.size W W' → amdF pt lb f2 sn of2 (lens M) wd ≠ 0 → Calls Try.prog 24 #[.agg #[.bool false, .int .i64 f2, .int .i64 sn, .bool pt, .bool lb, .int .i64 of2, .slice (some ⟨g, 0, none⟩) k k], .int .i64 wd] W' (fun e w' => e = .returned (.int .i64 (amdF pt lb f2 sn of2 (lens M) wd)) ∧ Below W'.heap.size W' w')) := Lib.hid (fun pt lb f2 of2 g k M W W' h1 h2 h3 h4 h5 => by
    obtain ⟨_, _, _, _, _, _, _, hok', _⟩ := amdF_pos h5
    exact asize_any false pt lb f2 sn of2 wd k k W' h1 (by omega) (h3.src.later h4) (fun m hm => by
      obtain ⟨j, hj⟩ := List.getElem?_of_mem hm
      have := okTo_small hok' hj
      omega))
  have HDY : Hid (∀ (pt lb : Bool) (f2 of2 : Int) (g k : Nat) (M : List RowB) (W W' : World), M.length = k → k ≤ 24 → OwnR w.heap.size W (.slice (some ⟨g, 0, none⟩) k k) M → Below W.heap.size W W' → (lens M).sum ≤ 1000000 → Calls Try.prog 30 #[.agg #[.bool false, .int .i64 f2, .int .i64 sn, .bool pt, .bool lb, .int .i64 of2, .slice (some ⟨g, 0, none⟩) k k]] W' (fun e w' => ∃ A' c', e = .returned (.slice A' (lens M).sum c') ∧ OwnY W'.heap.size w' (.slice A' (lens M).sum c') (flat M) ∧ Below W'.heap.size W' w')) := Lib.hid (fun pt lb f2 of2 g k M W W' h1 h2 h3 h4 h5 =>
    adata_len false pt lb f2 sn of2 k k W' h1 (by omega) (h3.src.later h4) h5)
  have hbd : b ≤ (lens L).sum := by omega
  have hls := length_flat L
  generalize lens L = ls at *
  generalize flat L = dd at *
  clear hs hm hok hne hf hlt hle hl1 hl24 hc hwd hf0 hf3 hby
  generalize hdd : ls.sum = d at *
  go_enter Try.func10, Try.ntmps10
  go_wp2_with (go_at_call 19; refine HGR.out.mono ?_; rintro e w1 ⟨⟨b', rfl, hbb⟩, rfl⟩; clear hbb; cases b')
  · skip
    go_wp2_with (first
      | (go_at_call 39; (with_reducible refine (HC.out _ HB0.out).mono ?_); rintro e w2 ⟨pt, lb, f2, of2, g, k, q, M, rfl, hMk, ho2, hb2, hGo⟩
         obtain ⟨q1, q2, q3, q4, q5, q6, q7, q8, q9⟩ := hGo
         obtain ⟨m, rfl⟩ : ∃ m, q = a + m := ⟨q - a, by omega⟩
         rw [Nat.add_sub_cancel_left] at q3
         rw [hMk] at q8 q9
         have hfm : (lens M).sum = m := by
           rw [← length_flat, q3, List.length_take, List.length_drop]
           omega
         have hm6 : m ≤ 96000 := by omega
         have hz : amdF pt lb f2 sn of2 (lens M) wd ≠ 0 := by omega
         have HSX2 := Lib.hid (fun W' hW => HSX.out pt lb f2 of2 g k M w2 W' hMk q9 (ho2.down (bl_alloc (Below.refl w.heap.size w) (.cells #[.bool poll, .int .i64 fi, .int .i64 sn, .bool false, .bool last, .int .i64 off, .slice A n cap] 32)).size) hW hz)
         have HDX := Lib.hid (fun W' hW => HDY.out pt lb f2 of2 g k M w2 W' hMk q9 (ho2.down (bl_alloc (Below.refl w.heap.size w) (.cells #[.bool poll, .int .i64 fi, .int .i64 sn, .bool false, .bool last, .int .i64 off, .slice A n cap] 32)).size) hW (by omega))
         rw [hfm, q3] at HDX
         generalize hnn : amdF pt lb f2 sn of2 (lens M) wd = nn at *
         have hn0 : (nn == 0) = false := by simpa using hz
         (have HBA := Lib.hid (bl_step HB0.out hb2)); (have HB2 := Lib.hid (bl_alloc HBA.out (.cells #[.bool false, .int .i64 f2, .int .i64 sn, .bool pt, .bool lb, .int .i64 of2, .slice (some ⟨g, 0, none⟩) k k] 32))); (have RP2 := Lib.hid ((RP0.out.later hb2).more (.cells #[.bool false, .int .i64 f2, .int .i64 sn, .bool pt, .bool lb, .int .i64 of2, .slice (some ⟨g, 0, none⟩) k k] 32))); (have RX2 := Lib.hid (Row.made w2 32 #[.bool false, .int .i64 f2, .int .i64 sn, .bool pt, .bool lb, .int .i64 of2, .slice (some ⟨g, 0, none⟩) k k])); (have HB22 := Lib.hid (bl_alloc (Below.refl w2.heap.size w2) (.cells #[.bool false, .int .i64 f2, .int .i64 sn, .bool pt, .bool lb, .int .i64 of2, .slice (some ⟨g, 0, none⟩) k k] 32))); obtain ⟨k0, k1, k2, k3, k4, k5, k6⟩ := cells_pk RX2.out; have Q6 := Lib.hid q6; have Q7 := Lib.hid q7; clear hb2 ho2 q3 q4 q6 q7 hnn hz hMk hfm HSX HDY)
      | (go_at_call 24; (with_reducible refine (HSX2.out _ HB22.out).mono ?_); rintro e w4 ⟨rfl, hb4⟩; (have HB4 := Lib.hid (HB2.out.trans (hb4.mono HB2.out.size))); (have HB24 := Lib.hid (HB22.out.trans (hb4.mono HB22.out.size))); (have RP4 := Lib.hid (RP2.out.later hb4)); (have RX4 := Lib.hid (RX2.out.later hb4)); obtain ⟨l0, l1, l2, l3, l4, l5, l6⟩ := cells_pk RP4.out; clear hb4)
      | (go_at_call 30; (with_reducible refine (HD.out _ HB4.out).mono ?_); rintro e w5 ⟨A5, c5, rfl, ho5, hb5⟩; obtain ⟨ad5, rfl, _⟩ := ho5.src (by rw [length_bts, HDL.out]; omega); (have HB5 := Lib.hid (HB4.out.trans (hb5.mono HB4.out.size))); (have HBX5 := Lib.hid (HB24.out.trans (hb5.mono HB24.out.size))); (have RP5 := Lib.hid (RP4.out.later hb5)); (have RX5 := Lib.hid (RX4.out.later hb5)); (have HO5 := Lib.hid ho5); clear hb5 ho5))
    have hg1 : decide (grant < nn) = false := decide_eq_false (by omega)
    have hg2 : decide ((a : Int) + (m : Int) ≤ (a : Int)) = false := decide_eq_false (by omega)
    have hg3 : decide ((b : Int) < (a : Int) + (m : Int)) = false := decide_eq_false (by omega)
    have hg4 : decide ((d : Int) < (a : Int) + (m : Int)) = false := decide_eq_false (by omega)
    have HBY : Hid (∀ x ∈ (dd.drop a).take m, x < 256) := Lib.hid (fun x hx => HFB.out x (List.mem_of_mem_drop (List.mem_of_mem_take hx)))
    have hdc : d ≤ c5 ∧ c5 ≤ 9223372036854775807 := by
      obtain ⟨A', c', e, h1, h2⟩ := HO5.out.form
      injection e with e1 e2 e3
      unfold maxLen at h2
      have := HDL.out
      omega
    obtain ⟨hdc1, hdc2⟩ := hdc
    have HCV := Lib.hid (fun W (hW : Below w5.heap.size w5 W) => conv_src (w := W) (A := some (ad5.add a)) (l := (dd.drop a).take m) m (c5 - a) (by rw [List.length_take, List.length_drop]; omega) (src_take m (src_drop0 a (src_later HO5.out.src hW))) HBY.out)
    have ham : a + m ≤ d := by omega
    generalize hlx : (dd.drop a).take m = lx at *
    refine wp_of_frame [some (.agg #[.bool poll, .int .i64 fi, .int .i64 sn, .bool false, .bool last, .int .i64 off, .slice A n cap]), some (.int .i64 a), some (.int .i64 b), some (.int .i64 grant), some (.int .i64 wd), some (.pointer (some ⟨w.heap.size, 0, none⟩)), none, none, none, none, some (.bool false), some (.pointer (some ⟨w2.heap.size, 0, none⟩)), some (.int .i64 ((a : Int) + (m : Int))), some (.int .i64 0), some (.int .i64 nn), some (.slice (some ad5) d c5), none, none, none, none, none, none, none, none, none, none, none, none, none, none, none, none, none, none, none, none, none, none, none, none, none, none, none, none, none, none, none, none, none, none, none, none, none, none, none, none, none, none, none, none, none, none, none, none, none, none, none, none, none, none, none, none, none, none, none, none, none, none, none, none, none, none, none, none, none, none, none, none, none, none, none, none, none, none, none, none, none, none, none, none, none, none, none, none, none, none, none, none, none, none, none, none, none, none, none, none, none, none, none, none, none, none, none, none, none, none, none, none, none, none, none, none, none, none, none] (by
      simp only [Fr, Holes]
      repeat apply Exists.intro
      rfl) ?_
    intro a' hfr
    simp only [Fr, Holes] at hfr
    repeat (obtain ⟨_, hfr⟩ := hfr)
    refine wp_region_noPanic ?_
    refine wp_region_held_drew (S := fun W => Below w5.heap.size w5 W) (by kernel_rfl) (bl_drew (Below.refl _ _)) (fun hS => ?_)
    refine take_at 0 58 (v := ?v0) (by simp only [List.getElem?_toArray, List.getElem?_cons_zero]; rfl) rfl (by kernel_rfl) (by kernel_rfl) (by kernel_rfl) (fun _ _ _ h => h) (Or.inl ⟨by rfl, ?y0⟩) hS ?_
    case y0 =>
      intro W hSW
      (try dsimp only at hSW)
      go_simp
      first | done | with_reducible rfl
    simp only [Act.put, List.setIfInBounds_toArray, List.set_cons_zero, List.set_cons_succ]
    refine take_at 1 59 (v := ?v1) (by simp only [List.getElem?_toArray, List.getElem?_cons_succ, List.getElem?_cons_zero]; rfl) rfl (by kernel_rfl) (by kernel_rfl) (by kernel_rfl) (fun _ _ _ h => h) (Or.inl ⟨by rfl, ?y1⟩) hS ?_
    case y1 =>
      intro W hSW
      (try dsimp only at hSW)
      go_simp
      first | done | with_reducible rfl
    simp only [Act.put, List.setIfInBounds_toArray, List.set_cons_zero, List.set_cons_succ]
    refine take_at 2 60 (v := ?v2) (by simp only [List.getElem?_toArray, List.getElem?_cons_succ, List.getElem?_cons_zero]; rfl) rfl (by kernel_rfl) (by kernel_rfl) (by kernel_rfl) (fun _ _ _ h => h) (Or.inl ⟨by rfl, ?y2⟩) hS ?_
    case y2 =>
      intro W hSW
      (try dsimp only at hSW)
      go_simp
      first | done | with_reducible rfl
    simp only [Act.put, List.setIfInBounds_toArray, List.set_cons_zero, List.set_cons_succ]
    refine take_at 3 61 (v := ?v3) (by simp only [List.getElem?_toArray, List.getElem?_cons_succ, List.getElem?_cons_zero]; rfl) rfl (by kernel_rfl) (by kernel_rfl) (by kernel_rfl) (fun _ _ _ h => h) (Or.inl ⟨by rfl, ?y3⟩) hS ?_
    case y3 =>
      intro W hSW
      (try dsimp only at hSW)
      go_simp
      first | done | with_reducible rfl
    simp only [Act.put, List.setIfInBounds_toArray, List.set_cons_zero, List.set_cons_succ]
    refine take_at 4 62 (v := ?v4) (by simp only [List.getElem?_toArray, List.getElem?_cons_succ, List.getElem?_cons_zero]; rfl) rfl (by kernel_rfl) (by kernel_rfl) (by kernel_rfl) (fun _ _ _ h => h) (Or.inl ⟨by rfl, ?y4⟩) hS ?_
    case y4 =>
      intro W hSW
      (try dsimp only at hSW)
      go_simp
      first | done | with_reducible rfl
    simp only [Act.put, List.setIfInBounds_toArray, List.set_cons_zero, List.set_cons_succ]
    refine take_at 5 63 (v := ?v5) (by simp only [List.getElem?_toArray, List.getElem?_cons_succ, List.getElem?_cons_zero]; rfl) rfl (by kernel_rfl) (by kernel_rfl) (by kernel_rfl) (fun _ _ _ h => h) (Or.inl ⟨by rfl, ?y5⟩) hS ?_
    case y5 =>
      intro W hSW
      (try dsimp only at hSW)
      go_simp
      first | done | with_reducible rfl
    simp only [Act.put, List.setIfInBounds_toArray, List.set_cons_zero, List.set_cons_succ]
    refine take_at 6 64 (v := ?v6) (by simp only [List.getElem?_toArray, List.getElem?_cons_succ, List.getElem?_cons_zero]; rfl) rfl (by kernel_rfl) (by kernel_rfl) (by kernel_rfl) (fun _ _ _ h => h) (Or.inl ⟨by rfl, ?y6⟩) hS ?_
    case y6 =>
      intro W hSW
      (try dsimp only at hSW)
      go_simp
      first | done | with_reducible rfl
    simp only [Act.put, List.setIfInBounds_toArray, List.set_cons_zero, List.set_cons_succ]
    refine take_at 7 65 (v := ?v7) (by simp only [List.getElem?_toArray, List.getElem?_cons_succ, List.getElem?_cons_zero]; rfl) rfl (by kernel_rfl) (by kernel_rfl) (by kernel_rfl) (fun _ _ _ h => h) (Or.inl ⟨by rfl, ?y7⟩) hS ?_
    case y7 =>
      intro W hSW
      (try dsimp only at hSW)
      go_simp
      first | done | with_reducible rfl
    simp only [Act.put, List.setIfInBounds_toArray, List.set_cons_zero, List.set_cons_succ]
    refine take_at 8 66 (v := ?v8) (by simp only [List.getElem?_toArray, List.getElem?_cons_succ, List.getElem?_cons_zero]; rfl) rfl (by kernel_rfl) (by kernel_rfl) (by kernel_rfl) (fun _ _ _ h => h) (Or.inl ⟨by rfl, ?y8⟩) hS ?_
    case y8 =>
      intro W hSW
      (try dsimp only at hSW)
      go_simp
      first | done | with_reducible rfl
    simp only [Act.put, List.setIfInBounds_toArray, List.set_cons_zero, List.set_cons_succ]
    refine take_at 9 67 (v := ?v9) (by simp only [List.getElem?_toArray, List.getElem?_cons_succ, List.getElem?_cons_zero]; rfl) rfl (by kernel_rfl) (by kernel_rfl) (by kernel_rfl) (fun _ _ _ h => h) (Or.inl ⟨by rfl, ?y9⟩) hS ?_
    case y9 =>
      intro W hSW
      (try dsimp only at hSW)
      go_simp
      first | done | with_reducible rfl
    simp only [Act.put, List.setIfInBounds_toArray, List.set_cons_zero, List.set_cons_succ]
    refine take_at 10 68 (v := ?v10) (by simp only [List.getElem?_toArray, List.getElem?_cons_succ, List.getElem?_cons_zero]; rfl) rfl (by kernel_rfl) (by kernel_rfl) (by kernel_rfl) (fun _ _ _ h => h) (Or.inl ⟨by rfl, ?y10⟩) hS ?_
    case y10 =>
      intro W hSW
      (try dsimp only at hSW)
      go_simp
      first | done | with_reducible rfl
    simp only [Act.put, List.setIfInBounds_toArray, List.set_cons_zero, List.set_cons_succ]
    refine take_at 11 69 (v := ?v11) (by simp only [List.getElem?_toArray, List.getElem?_cons_succ, List.getElem?_cons_zero]; rfl) rfl (by kernel_rfl) (by kernel_rfl) (by kernel_rfl) (fun _ _ _ h => h) (Or.inl ⟨by rfl, ?y11⟩) hS ?_
    case y11 =>
      intro W hSW
      (try dsimp only at hSW)
      go_simp
      first | done | with_reducible rfl
    simp only [Act.put, List.setIfInBounds_toArray, List.set_cons_zero, List.set_cons_succ]
    refine take_at 12 70 (v := ?v12) (by simp only [List.getElem?_toArray, List.getElem?_cons_succ, List.getElem?_cons_zero]; rfl) rfl (by kernel_rfl) (by kernel_rfl) (by kernel_rfl) (fun _ _ _ h => h) (Or.inl ⟨by rfl, ?y12⟩) hS ?_
    case y12 =>
      intro W hSW
      (try dsimp only at hSW)
      go_simp
      first | done | with_reducible rfl
    simp only [Act.put, List.setIfInBounds_toArray, List.set_cons_zero, List.set_cons_succ]
    refine take_at 13 71 (v := ?v13) (by simp only [List.getElem?_toArray, List.getElem?_cons_succ, List.getElem?_cons_zero]; rfl) rfl (by kernel_rfl) (by kernel_rfl) (by kernel_rfl) (fun _ _ _ h => h) (Or.inl ⟨by rfl, ?y13⟩) hS ?_
    case y13 =>
      intro W hSW
      (try dsimp only at hSW)
      go_simp
      first | done | with_reducible rfl
    simp only [Act.put, List.setIfInBounds_toArray, List.set_cons_zero, List.set_cons_succ]
    refine take_at 14 72 (v := ?v14) (by simp only [List.getElem?_toArray, List.getElem?_cons_succ, List.getElem?_cons_zero]; rfl) rfl (by kernel_rfl) (by kernel_rfl) (by kernel_rfl) (fun _ _ _ h => h) (Or.inl ⟨by rfl, ?y14⟩) hS ?_
    case y14 =>
      intro W hSW
      (try dsimp only at hSW)
      go_simp
      first | done | with_reducible rfl
    simp only [Act.put, List.setIfInBounds_toArray, List.set_cons_zero, List.set_cons_succ]
    refine take_at 15 73 (v := ?v15) (by simp only [List.getElem?_toArray, List.getElem?_cons_succ, List.getElem?_cons_zero]; rfl) rfl (by kernel_rfl) (by kernel_rfl) (by kernel_rfl) (fun _ _ _ h => h) (Or.inl ⟨by rfl, ?y15⟩) hS ?_
    case y15 =>
      intro W hSW
      (try dsimp only at hSW)
      go_simp
      first | done | with_reducible rfl
    simp only [Act.put, List.setIfInBounds_toArray, List.set_cons_zero, List.set_cons_succ]
    refine take_at 16 74 (v := ?v16) (by simp only [List.getElem?_toArray, List.getElem?_cons_succ, List.getElem?_cons_zero]; rfl) rfl (by kernel_rfl) (by kernel_rfl) (by kernel_rfl) (fun _ _ _ h => h) (Or.inl ⟨by rfl, ?y16⟩) hS ?_
    case y16 =>
      intro W hSW
      (try dsimp only at hSW)
      go_simp
      first | done | with_reducible rfl
    simp only [Act.put, List.setIfInBounds_toArray, List.set_cons_zero, List.set_cons_succ]
    refine take_at 17 75 (v := ?v17) (by simp only [List.getElem?_toArray, List.getElem?_cons_succ, List.getElem?_cons_zero]; rfl) rfl (by kernel_rfl) (by kernel_rfl) (by kernel_rfl) (fun _ _ _ h => h) (Or.inl ⟨by rfl, ?y17⟩) hS ?_
    case y17 =>
      intro W hSW
      (try dsimp only at hSW)
      go_simp
      first | done | with_reducible rfl
    simp only [Act.put, List.setIfInBounds_toArray, List.set_cons_zero, List.set_cons_succ]
    refine take_at 18 76 (v := ?v18) (by simp only [List.getElem?_toArray, List.getElem?_cons_succ, List.getElem?_cons_zero]; rfl) rfl (by kernel_rfl) (by kernel_rfl) (by kernel_rfl) (fun _ _ _ h => h) (Or.inl ⟨by rfl, ?y18⟩) hS ?_
    case y18 =>
      intro W hSW
      (try dsimp only at hSW)
      go_simp
      first | done | with_reducible rfl
    simp only [Act.put, List.setIfInBounds_toArray, List.set_cons_zero, List.set_cons_succ]
    refine take_at 19 77 (v := ?v19) (by simp only [List.getElem?_toArray, List.getElem?_cons_succ, List.getElem?_cons_zero]; rfl) rfl (by kernel_rfl) (by kernel_rfl) (by kernel_rfl) (fun _ _ _ h => h) (Or.inl ⟨by rfl, ?y19⟩) hS ?_
    case y19 =>
      intro W hSW
      (try dsimp only at hSW)
      go_simp
      first | done | with_reducible rfl
    simp only [Act.put, List.setIfInBounds_toArray, List.set_cons_zero, List.set_cons_succ]
    refine take_at 20 78 (v := ?v20) (by simp only [List.getElem?_toArray, List.getElem?_cons_succ, List.getElem?_cons_zero]; rfl) rfl (by kernel_rfl) (by kernel_rfl) (by kernel_rfl) (fun _ _ _ h => h) (Or.inl ⟨by rfl, ?y20⟩) hS ?_
    case y20 =>
      intro W hSW
      (try dsimp only at hSW)
      go_simp
      first | done | with_reducible rfl
    simp only [Act.put, List.setIfInBounds_toArray, List.set_cons_zero, List.set_cons_succ]
    refine take_at 21 79 (v := ?v21) (by simp only [List.getElem?_toArray, List.getElem?_cons_succ, List.getElem?_cons_zero]; rfl) rfl (by kernel_rfl) (by kernel_rfl) (by kernel_rfl) (fun _ _ _ h => h) (Or.inl ⟨by rfl, ?y21⟩) hS ?_
    case y21 =>
      intro W hSW
      (try dsimp only at hSW)
      go_simp
      first | done | with_reducible rfl
    simp only [Act.put, List.setIfInBounds_toArray, List.set_cons_zero, List.set_cons_succ]
    refine take_at 22 80 (v := ?v22) (by simp only [List.getElem?_toArray, List.getElem?_cons_succ, List.getElem?_cons_zero]; rfl) rfl (by kernel_rfl) (by kernel_rfl) (by kernel_rfl) (fun _ _ _ h => h) (Or.inl ⟨by rfl, ?y22⟩) hS ?_
    case y22 =>
      intro W hSW
      (try dsimp only at hSW)
      go_simp
      first | done | with_reducible rfl
    simp only [Act.put, List.setIfInBounds_toArray, List.set_cons_zero, List.set_cons_succ]
    refine take_at 23 81 (v := ?v23) (by simp only [List.getElem?_toArray, List.getElem?_cons_succ, List.getElem?_cons_zero]; rfl) rfl (by kernel_rfl) (by kernel_rfl) (by kernel_rfl) (fun _ _ _ h => h) (Or.inl ⟨by rfl, ?y23⟩) hS ?_
    case y23 =>
      intro W hSW
      (try dsimp only at hSW)
      go_simp
      first | done | with_reducible rfl
    simp only [Act.put, List.setIfInBounds_toArray, List.set_cons_zero, List.set_cons_succ]
    refine take_at 24 82 (v := ?v24) (by simp only [List.getElem?_toArray, List.getElem?_cons_succ, List.getElem?_cons_zero]; rfl) rfl (by kernel_rfl) (by kernel_rfl) (by kernel_rfl) (fun _ _ _ h => h) (Or.inl ⟨by rfl, ?y24⟩) hS ?_
    case y24 =>
      intro W hSW
      (try dsimp only at hSW)
      obtain ⟨z0, z1, z2, z3, z4, z5, z6⟩ := cells_pk (RX5.out.later hSW)
      go_simp
      first | done | with_reducible rfl
    simp only [Act.put, List.setIfInBounds_toArray, List.set_cons_zero, List.set_cons_succ]
    refine take_at 27 85 (v := ?v27) (by simp only [List.getElem?_toArray, List.getElem?_cons_succ, List.getElem?_cons_zero]; rfl) rfl (by kernel_rfl) (by kernel_rfl) (by kernel_rfl) (fun _ _ _ h => h) (Or.inl ⟨by rfl, ?y27⟩) hS ?_
    case y27 =>
      intro W hSW
      (try dsimp only at hSW)
      go_simp
      first | done | with_reducible rfl
    simp only [Act.put, List.setIfInBounds_toArray, List.set_cons_zero, List.set_cons_succ]
    refine take_at 28 86 (v := ?v28) (by simp only [List.getElem?_toArray, List.getElem?_cons_succ, List.getElem?_cons_zero]; rfl) rfl (by kernel_rfl) (by kernel_rfl) (by kernel_rfl) (fun _ _ _ h => h) (Or.inl ⟨by rfl, ?y28⟩) hS ?_
    case y28 =>
      intro W hSW
      (try dsimp only at hSW)
      go_simp
      first | done | with_reducible rfl
    simp only [Act.put, List.setIfInBounds_toArray, List.set_cons_zero, List.set_cons_succ]
    refine take_at 29 87 (v := ?v29) (by simp only [List.getElem?_toArray, List.getElem?_cons_succ, List.getElem?_cons_zero]; rfl) rfl (by kernel_rfl) (by kernel_rfl) (by kernel_rfl) (fun _ _ _ h => h) (Or.inl ⟨by rfl, ?y29⟩) hS ?_
    case y29 =>
      intro W hSW
      (try dsimp only at hSW)
      go_simp
      first | done | with_reducible rfl
    simp only [Act.put, List.setIfInBounds_toArray, List.set_cons_zero, List.set_cons_succ]
    refine take_at 30 88 (v := .slice (some (ad5.add a)) m (c5 - a)) (by simp only [List.getElem?_toArray, List.getElem?_cons_succ, List.getElem?_cons_zero]; rfl) rfl (by kernel_rfl) (by kernel_rfl) (by kernel_rfl) (fun _ _ _ h => h) (Or.inl ⟨by rfl, ?y30⟩) hS ?_
    case y30 =>
      intro W hSW
      (try dsimp only at hSW)
      have z1 : (0 : Int) ≤ (a : Int) + (m : Int) := by omega
      have z2 : (a : Int) + (m : Int) ≤ (c5 : Int) := by omega
      have z3 : ((a : Int) + (m : Int)).toNat = a + m := by omega
      have z4 : ¬ c5 = a := by omega
      go_simp
      first | done | with_reducible rfl | (rw [if_pos ⟨z1, z2⟩, z3, if_pos (Nat.le_add_right _ _), if_neg z4, Nat.add_sub_cancel_left]) | (simp [z1, z2, z3, z4]; done)
    simp only [Act.put, List.setIfInBounds_toArray, List.set_cons_zero, List.set_cons_succ]
    refine take_at 31 89 (v := ?v31) (by simp only [List.getElem?_toArray, List.getElem?_cons_succ, List.getElem?_cons_zero]; rfl) rfl (by kernel_rfl) (by kernel_rfl) (by kernel_rfl) (fun _ _ _ h => h) (Or.inl ⟨by rfl, ?y31⟩) hS ?_
    case y31 =>
      intro W hSW
      (try dsimp only at hSW)
      have z := HCV.out W hSW
      go_simp
      first | done | with_reducible rfl
    simp only [Act.put, List.setIfInBounds_toArray, List.set_cons_zero, List.set_cons_succ]
    refine wpAnyH_ready (rs := [25]) (by kernel_rfl) (by simp) ?_
    refine AllReadyH.cons rfl (fun K hK => ?_) AllReadyH.nil
    go_simp
    refine (HDX.out _ (bl_step HBX5.out hS)).mono ?_
    rintro e w6 ⟨A6, c6, rfl, ho6, hb6⟩; (have HY6 := Lib.hid ho6); clear ho6
    try go_simp
    refine hK.out _ _ (bl_step hS hb6) (fun hS => ?_)
    clear hK K
    try simp only [Act.put, List.setIfInBounds_toArray, List.set_cons_zero, List.set_cons_succ]
    have hBw6 : Below w5.heap.size w5 w6 := hS
    have hBw6' := hBw6
    refine wpAnyH_more (S' := fun W => Below w6.heap.size w6 W) ?_ (fun _ h => bl_step hBw6 h)
    clear hS
    have hS : (fun W => Below w6.heap.size w6 W) w6 := Below.refl _ _
    refine take_at 26 84 (v := ?v26) (by simp only [List.getElem?_toArray, List.getElem?_cons_succ, List.getElem?_cons_zero]; rfl) rfl (by kernel_rfl) (by kernel_rfl) (by kernel_rfl) (fun _ _ _ h => h) (Or.inl ⟨by rfl, ?y26⟩) hS ?_
    case y26 =>
      intro W hSW
      (try dsimp only at hSW)
      have z := ((HY6.out).later hSW).conv HBY.out
      go_simp
      first | done | with_reducible rfl
    simp only [Act.put, List.setIfInBounds_toArray, List.set_cons_zero, List.set_cons_succ]
    refine take_at 32 90 (v := ?v32) (by simp only [List.getElem?_toArray, List.getElem?_cons_succ, List.getElem?_cons_zero]; rfl) rfl (by kernel_rfl) (by kernel_rfl) (by kernel_rfl) (fun _ _ _ h => h) (Or.inl ⟨by rfl, ?y32⟩) hS ?_
    case y32 =>
      intro W hSW
      (try dsimp only at hSW)
      go_simp
      first | done | with_reducible rfl
    simp only [Act.put, List.setIfInBounds_toArray, List.set_cons_zero, List.set_cons_succ]
    refine take_at 33 91 (v := ?v33) (by simp only [List.getElem?_toArray, List.getElem?_cons_succ, List.getElem?_cons_zero]; rfl) rfl (by kernel_rfl) (by kernel_rfl) (by kernel_rfl) (fun _ _ _ h => h) (Or.inl ⟨by rfl, ?y33⟩) hS ?_
    case y33 =>
      intro W hSW
      (try dsimp only at hSW)
      go_simp
      first | done | with_reducible rfl
    simp only [Act.put, List.setIfInBounds_toArray, List.set_cons_zero, List.set_cons_succ]
    refine wpAnyH_done (by kernel_rfl) ?_ _
    refine NoPanic.normal ?_
    have HB6 := Lib.hid (bl_step HB5.out hBw6)
    have RX6 := Lib.hid (RX5.out.later hBw6)
    have RP6 := Lib.hid (RP5.out.later hBw6)
    have arm : True := trivial
    cases pt
    · obtain ⟨e1, e2, e3⟩ := Q6.out (by first | rfl | trivial)
      have f1 : ((a : Int) == 0) = true := by simp; omega
      have f2' : ((a : Int) + (m : Int) == (d : Int)) = true := by simp; omega
      subst e3
      clear e1 e2
      go_wp2_with (go_at_call 38; (with_reducible refine (rsalive_any _).mono ?_); rintro e w7 ⟨rfl, hb7⟩; (have HB7 := Lib.hid (bl_step HB6.out hb7)); obtain ⟨u0, u1, u2, u3, u4, u5, u6⟩ := cells_pk (RX6.out.later hb7); obtain ⟨v0, v1, v2, v3, v4, v5, v6⟩ := cells_pk (RP6.out.later hb7); clear hb7)
      go_ret
      exact ⟨rfl, HB7.out⟩
    · have f1 : ((a : Int) + (m : Int) == (d : Int)) = lb := by
        rw [Q7.out (by first | rfl | trivial), Bool.eq_iff_iff, beq_iff_eq, decide_eq_true_iff]
        omega
      go_wp2_with (go_at_call 38; (with_reducible refine (rsalive_any _).mono ?_); rintro e w7 ⟨rfl, hb7⟩; (have HB7 := Lib.hid (bl_step HB6.out hb7)); obtain ⟨u0, u1, u2, u3, u4, u5, u6⟩ := cells_pk (RX6.out.later hb7); obtain ⟨v0, v1, v2, v3, v4, v5, v6⟩ := cells_pk (RP6.out.later hb7); clear hb7)
      go_ret
      exact ⟨rfl, HB7.out⟩
  · go_wp2_with (go_at_call 38; refine (rsalive_any _).mono ?_; rintro e w2 ⟨rfl, hb2⟩)
    go_ret
    exact ⟨rfl, bl_step HB0.out hb2⟩
/-- is there no room for a part? -/
def NoRoom (fi sn off : Int) (last : Bool) (ls : List Nat) (a b : Nat) (grant wd : Int) : Prop := ¬ (a = 0 ∧ b = ls.sum ∧ amdF false last fi sn off ls wd ≤ grant) ∧ min grant 4000 - headA true wd < 1
theorem rsc_no {A : Option Addr} {L : List RowB} (poll part last : Bool) (fi sn off : Int) (n cap a b : Nat) (grant wd : Int) (w : World) (hL : L.length = n) (hs : RSrc w A L) (h0 : faultR part last fi sn off (lens L) a b grant wd = 0) (hn : NoRoom fi sn off last (lens L) a b grant wd) :
    Calls Try.prog 39 #[.agg #[.bool poll, .int .i64 fi, .int .i64 sn, .bool part, .bool last, .int .i64 off, .slice A n cap], .int .i64 a, .int .i64 b, .int .i64 grant, .int .i64 wd] w fun e w' => e = .returned (.tuple #[.agg #[.bool false, .int .i64 0, .int .i64 0, .bool false, .bool false, .int .i64 0, .slice none 0 0], .int .i64 0, .int .i64 16]) ∧ Below w.heap.size w w' := by
  obtain ⟨hpa, hne, hg0, hg1, _, hlt, hle⟩ := faultR_ok h0
  subst hpa
  refine (rsc_part poll false last fi sn off n cap a b grant wd w hL hs h0 (by
    by_cases h1 : a = 0
    · by_cases h2 : b = (lens L).sum
      · exact .inr (.inr (by have : ¬ amdF false last fi sn off (lens L) wd ≤ grant := fun h => hn.1 ⟨h1, h2, h⟩; omega))
      · exact .inr (.inl h2)
    · exact .inl h1)).mono ?_
  rintro e w' (⟨_, h2, h3⟩ | ⟨N, g, k, M, h1, h2, _⟩)
  · exact ⟨h2, h3⟩
  · have := (h2.zero_iff (by omega)).2 hn.2
    omega
theorem rsc_yes {A : Option Addr} {L : List RowB} (poll part last : Bool) (fi sn off : Int) (n cap a b : Nat) (grant wd : Int) (w : World) (hL : L.length = n) (hs : RSrc w A L) (h0 : faultR part last fi sn off (lens L) a b grant wd = 0) (hn : ¬ NoRoom fi sn off last (lens L) a b grant wd) :
    Calls Try.prog 39 #[.agg #[.bool poll, .int .i64 fi, .int .i64 sn, .bool part, .bool last, .int .i64 off, .slice A n cap], .int .i64 a, .int .i64 b, .int .i64 grant, .int .i64 wd] w (GoesR fi sn (lens L) (flat L) a b grant wd w) := by
  obtain ⟨hpa, hne, hg0, hg1, _, hlt, hle⟩ := faultR_ok h0
  subst hpa
  by_cases hall : a = 0 ∧ b = (lens L).sum ∧ amdF false last fi sn off (lens L) wd ≤ grant
  · obtain ⟨rfl, rfl, hg⟩ := hall
    refine (rsc_whole poll false last fi sn off n cap (lens L).sum grant wd w hL hs h0 rfl hg).mono ?_
    rintro e w' ⟨g, M, rfl, h1, h2, h3, h4⟩
    have hnn := amdF_nonneg false last fi sn off (lens L) wd
    obtain ⟨_, _, _, _, _, hl1, hl24, _⟩ := amdF_pos hne
    rw [length_lens] at hl1 hl24
    refine ⟨false, last, fi, off, g, n, (lens L).sum, M, rfl, h1, h3, h4, by omega, Nat.le_refl _, ?_, by rw [texts_lens h2]; omega, by rw [texts_lens h2]; exact hg, fun _ => ⟨rfl, rfl, rfl⟩, fun h => by (cases h), by omega, by omega⟩
    unfold flat
    rw [h2, List.drop_zero, Nat.sub_zero, ← length_flat]
    unfold flat
    rw [List.take_length]
  · refine (rsc_part poll false last fi sn off n cap a b grant wd w hL hs h0 (by
      by_cases h1 : a = 0
      · by_cases h2 : b = (lens L).sum
        · exact .inr (.inr (by have : ¬ amdF false last fi sn off (lens L) wd ≤ grant := fun h => hall ⟨h1, h2, h⟩; omega))
        · exact .inr (.inl h2)
      · exact .inl h1)).mono ?_
    rintro e w' (⟨h1, _, _⟩ | ⟨N, g, k, M, h1, h2, h3, h4, h5, h6, h7, h8⟩)
    · exact absurd ⟨hall, h1⟩ hn
    · exact ⟨true, _, _, a, g, k, a + N, M, h3, h4, h7, h8, part_goes hne (by omega) (by omega) h1 h2 h5 h6⟩
theorem rfits_all {A : Option Addr} (poll part last : Bool) (fi sn off a b grant wd : Int) (L : List RowB) (cap : Nat) (w : World) (hcap : L.length ≤ cap) (hcm : cap ≤ 9223372036854775807) (hs : RSrc w A L) (hm : ∀ m ∈ lens L, m ≤ 9223372036854775807) :
    Calls Try.prog 10 #[.agg #[.bool poll, .int .i64 fi, .int .i64 sn, .bool part, .bool last, .int .i64 off, .slice A L.length cap], .int .i64 a, .int .i64 b, .int .i64 grant, .int .i64 wd] w fun e w' => e = .returned (.bool true) ∧ Below w.heap.size w w' := by
  by_cases h0 : faultR part last fi sn off (lens L) a b grant wd = 0
  · obtain ⟨_, hne, hg0, hg1, ha0, hlt, hle⟩ := faultR_ok h0
    obtain ⟨a', rfl⟩ : ∃ a' : Nat, a = a' := ⟨a.toNat, by omega⟩
    obtain ⟨b', rfl⟩ : ∃ b' : Nat, b = b' := ⟨b.toNat, by omega⟩
    by_cases hn : NoRoom fi sn off last (lens L) a' b' grant wd
    · refine rfits_none poll part last fi sn off a' b' grant wd 16 L.length cap w rfl (by omega) hs hm (fun W hW _ _ => rsc_no poll part last fi sn off L.length cap a' b' grant wd W rfl (hs.later hW) h0 hn) (by omega) (fun _ => ?_)
      obtain ⟨hwd, _⟩ := amdF_pos hne
      have h1 := hn.2
      have hh := headA_nonneg true wd
      unfold leastR
      rw [if_neg (by rcases hwd with rfl | rfl <;> decide)]
      omega
    · exact rfits_go poll part last fi sn off grant wd L.length cap a' b' w rfl hs h0 (fun W hW => rsc_yes poll part last fi sn off L.length cap a' b' grant wd W rfl (hs.later hW) h0 hn)
  · have hF : faultR part last fi sn off (lens L) a b grant wd ≠ 16 := by
      unfold faultR
      split
      · omega
      · split
        · omega
        · split <;> omega
    exact rfits_none poll part last fi sn off a b grant wd _ L.length cap w rfl (by omega) hs hm (fun W hW hd _ => rsc_bad poll part last fi sn off L.length cap a b grant wd W rfl (by omega) (hs.later hW) hm (by omega) h0) h0 (fun h => absurd h hF)
end Go.Proofs.Ytolinlnnbdjimaa
namespace Go.Proofs.Ytolinlnnbdjimaa
open Go.ChangeShapes Go.WideShapes Go.ChangeAt Go.RowKit

theorem lawOwn : ownKnob Try.prog.godebug = none := by kernel_rfl
theorem lawLaid : laidOutB Try.prog = true := by kernel_rfl

section
variable {H : Type} {enc : TypeId × Value → H} {P : Program}
/-- what was read in the old world is read in the new one -/
theorem args_stay (hl : laidOutB P = true) {W W' : World} (hb : Below W.heap.size W W') : ∀ (ts : List TypeId) (vs : List Value) (ds : List (DataW H)) (ps : List MemPlace),
    (∀ t ∈ ts, P.readableRec t = true ∧ t < P.types.size) → DataW.TrodAll enc P W 0 (fun _ => true) true ts vs ds ps → (∀ x ∈ ps, x.block < W.heap.size) →
    DataW.TrodAll enc P W' 0 (fun b => decide (b < W.heap.size)) true ts vs ds ps := by
  intro ts
  induction ts with
  | nil =>
    intro vs ds ps _ h _
    obtain ⟨rfl, rfl, rfl⟩ := trodAll_nil h
    exact trodAll_mk0
  | cons t ts ih =>
    intro vs ds ps hr h hlt
    obtain ⟨v, vs', d, ds', p, q, rfl, rfl, rfl, h1, h2⟩ := trodAll_cons h
    have ht := hr t (List.mem_cons_self ..)
    exact trodAll_cons_mk (Below.trod hl ht.1 ht.2 h1 hb fun x hx => hlt x (List.mem_append_left _ hx))
      (ih vs' ds' q (fun u hu => hr u (List.mem_cons_of_mem _ hu)) h2 fun x hx => hlt x (List.mem_append_right _ hx))

theorem law_post {f : Func} {s : ChangeSpec} {W W' : World} {args : Array Value} {ds gs : List (DataW H)} {before : List MemPlace} {B : TypeId}
    (hl : laidOutB P = true) (hr : f.params.toList.all (fun t => P.readableRec t && decide (t < P.types.size)) = true) (hv : s.vars = [])
    (hW : DataW.Whole enc P f.params.toList s.vars false W args.toList ds gs before)
    (hs : s.fn H (ds ++ gs) = { results := [.lit (.bool true)], args := ds }) (ht : f.resultTypes = #[B]) (hB : P.underlying B = some .bool)
    (hb : Below W.heap.size W W') : s.post enc P f false true false false W args (.bool true) W' := by
  have hW' := hW
  obtain ⟨p, q, hA, hV, rfl, _, _⟩ := hW
  rw [hv] at hV
  obtain ⟨rfl, rfl⟩ := trodVars_none hV
  refine ⟨ds, [], p ++ [], [], p, [], hW', ?_, ?_, ?_, hb.frame _, fun h => by cases h⟩
  · rw [hs, ht]
    exact trodAll_mk1 (shut_bool hB true)
  · rw [hs]
    exact args_stay hl hb _ _ _ _ (fun t h => by have := List.all_eq_true.1 hr t h; simpa using this) hA fun x hx => hW'.lt x (List.mem_append_left _ hx)
  · rw [hs, hv]
    exact rfl
end
end Go.Proofs.Ytolinlnnbdjimaa
