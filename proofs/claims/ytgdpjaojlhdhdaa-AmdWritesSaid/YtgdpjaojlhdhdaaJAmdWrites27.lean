/-
  What umd answers to fixed calls. What amd answers to fixed calls. Are fields too much for a statement?. A byte more in the last field: plain numbers. UmdGrows: with a byte more in its last field a packet has a byte more: the law walked. AmdHeads: how many bytes a packet of amd has, and one with a field more: plain numbers; its data. AmdBack: packets go there and back: what its calls answer. AmdBack: packets go there and back, in one way alone; what is read may be: the law walked. AmdBack: a packet that may be: the law walked; the whole law.
-/
import Derived.Test.YtgdpjaojlhdhdaaJAmdWrites09
import Derived.Test.YtgdpjaojlhdhdaaJAmdWrites26
import Derived.Test.YtgdpjaojlhdhdaaJAmdWrites25
import Derived.Test.YtgdpjaojlhdhdaaJAmdWrites07
import Derived.Test.YtgdpjaojlhdhdaaJAmdWrites08
import Derived.Test.YtgdpjaojlhdhdaaJAmdWrites15
import Derived.Deep.RegionHeld3
namespace Go.Proofs.Ytgdpjaojlhdhdaa
open Go.RowKit


theorem row1 (w : World) (o : Obj) (t : TypeId) (cs : Array Value) : Row ((w.alloc o).alloc (.cells cs t)) (w.heap.size + 1) t cs := by
  have h := Row.made (w.alloc o) t cs
  have e : (w.alloc o).heap.size = w.heap.size + 1 := by simp
  rw [e] at h
  exact h
theorem row2 (w : World) (o o' : Obj) (t : TypeId) (cs : Array Value) : Row (((w.alloc o).alloc o').alloc (.cells cs t)) (w.heap.size + 1 + 1) t cs := by
  have h := Row.made ((w.alloc o).alloc o') t cs
  have e : ((w.alloc o).alloc o').heap.size = w.heap.size + 1 + 1 := by simp
  rw [e] at h
  exact h
theorem ok_of_row {w : World} {g : Nat} {l : List Nat} (h : Row w g 5 (bts l).toArray) (hb : ∀ b ∈ l, b < 256) (hl : l.length ≤ 9223372036854775807) : RowB.ok w ⟨some ⟨g, 0, none⟩, l.length, l⟩ := ⟨row_src h, Nat.le_refl _, hl, hb⟩
theorem rsrc_of {w : World} {g : Nat} {L : List RowB} (h : Row w g 30 (L.map RowB.v).toArray) (hok : ∀ r ∈ L, r.ok w) : RSrc w (some ⟨g, 0, none⟩) L := fun _ => ⟨_, rfl, fun k r hr => ⟨by
  rw [add_zero_addr]
  exact h.read (by rw [List.getElem?_toArray, List.getElem?_map, hr]; rfl), hok r (List.mem_of_getElem? hr)⟩⟩
theorem al1 {W : World} {g1 g2 : Nat} (h1 : Row W g1 5 #[.int .u8 65]) (h2 : Row W g2 30 #[.slice (some ⟨g1, 0, none⟩) 1 1]) :
    Calls Try.prog 158 #[.agg #[.int .i64 0, .int .i64 3, .slice (some ⟨g2, 0, none⟩) 1 1], .int .i64 5] W fun e w' => ∃ v', e = .returned (.tuple #[v', .int .i64 0]) ∧ OwnY W.heap.size w' v' [3, 65] ∧ Below W.heap.size W w' := by
  have hs : RSrc W (some ⟨g2, 0, none⟩) [⟨some ⟨g1, 0, none⟩, 1, [65]⟩] := rsrc_of h2 (fun r hr => by
    rw [List.mem_singleton] at hr
    subst hr
    exact ok_of_row (l := [65]) h1 (by decide) (by decide))
  have h := uwrite_ok 0 3 5 1 1 W rfl (by omega) (by omega) hs (by show ∀ m ∈ [1], m ≤ 9223372036854775807; decide) (by show umdF 0 3 [1] 5 ≠ 0; decide +kernel)
  rw [show umdBytes 0 3 [⟨some ⟨g1, 0, none⟩, 1, [65]⟩] 5 = [3, 65] from by
    have e : tailF (lens [⟨some ⟨g1, 0, none⟩, 1, [65]⟩]) 11 = [] := by
      show tailF [1] 11 = _
      decide +kernel
    unfold umdBytes
    rw [e, show pack (headB 0 3 (decide (1 < [(⟨some ⟨g1, 0, none⟩, 1, [65]⟩ : RowB)].length)) 5) = [3] from by
      show pack (headB 0 3 false 5) = _
      decide +kernel]
    rfl] at h
  exact h
theorem al2 {W : World} {g1 g2 g3 : Nat} (h1 : Row W g1 5 #[.int .u8 1, .int .u8 2]) (h2 : Row W g2 5 #[.int .u8 3]) (h3 : Row W g3 30 #[.slice (some ⟨g1, 0, none⟩) 2 2, .slice (some ⟨g2, 0, none⟩) 1 1]) :
    Calls Try.prog 158 #[.agg #[.int .i64 3, .int .i64 700, .slice (some ⟨g3, 0, none⟩) 2 2], .int .i64 10] W fun e w' => ∃ v', e = .returned (.tuple #[v', .int .i64 0]) ∧ OwnY W.heap.size w' v' [30, 188, 0, 32, 1, 2, 3] ∧ Below W.heap.size W w' := by
  have hs : RSrc W (some ⟨g3, 0, none⟩) [⟨some ⟨g1, 0, none⟩, 2, [1, 2]⟩, ⟨some ⟨g2, 0, none⟩, 1, [3]⟩] := rsrc_of h3 (fun r hr => by
    rw [List.mem_cons, List.mem_singleton] at hr
    rcases hr with rfl | rfl
    · exact ok_of_row (l := [1, 2]) h1 (by decide) (by decide)
    · exact ok_of_row (l := [3]) h2 (by decide) (by decide))
  have h := uwrite_ok 3 700 10 2 2 W rfl (by omega) (by omega) hs (by show ∀ m ∈ [2, 1], m ≤ 9223372036854775807; decide) (by show umdF 3 700 [2, 1] 10 ≠ 0; decide +kernel)
  rw [show umdBytes 3 700 [⟨some ⟨g1, 0, none⟩, 2, [1, 2]⟩, ⟨some ⟨g2, 0, none⟩, 1, [3]⟩] 10 = [30, 188, 0, 32, 1, 2, 3] from by
    have e : tailF (lens [⟨some ⟨g1, 0, none⟩, 2, [1, 2]⟩, ⟨some ⟨g2, 0, none⟩, 1, [3]⟩]) 11 = [0, 32] := by
      show tailF [2, 1] 11 = _
      decide +kernel
    unfold umdBytes
    rw [e, show pack (headB 3 700 (decide (1 < [(⟨some ⟨g1, 0, none⟩, 2, [1, 2]⟩ : RowB), ⟨some ⟨g2, 0, none⟩, 1, [3]⟩].length)) 10) = [30, 188] from by
      show pack (headB 3 700 true 10) = _
      decide +kernel]
    rfl] at h
  exact h
theorem al3 {W : World} {A : Option Addr} {c : Nat} (h : OwnY W.heap.size W (.slice A 7 c) [30, 188, 0, 32, 1, 2, 3] ∨ ∃ B, OwnY B W (.slice A 7 c) [30, 188, 0, 32, 1, 2, 3]) :
    Calls Try.prog 25 #[.slice A 7 c, .int .i64 10] W fun e w' => ∃ A' c', e = .returned (.tuple #[.agg #[.int .i64 3, .int .i64 700, .slice A' 2 c'], .int .i64 0]) ∧ Below W.heap.size W w' := by
  obtain ⟨B, hB⟩ : ∃ B, OwnY B W (.slice A 7 c) [30, 188, 0, 32, 1, 2, 3] := by
    rcases h with h | h
    · exact ⟨_, h⟩
    · exact h
  obtain ⟨A2, c2, e, h1, h2⟩ := hB.form
  injection e with e1 e2 e3
  subst e1 e3
  unfold maxLen at h2
  have hx : umdRd [30, 188, 0, 32, 1, 2, 3] 10 = (0, 3, 700, [[1, 2], [3]]) := by decide +kernel
  refine (uread_10 (bs := [30, 188, 0, 32, 1, 2, 3]) 7 c W rfl (by omega) h1 (by omega) hB.src (by decide)).mono ?_
  rintro e w' ⟨h3 | h3, h4⟩
  · rw [hx] at h3
    obtain ⟨_, v, L, h5, rfl, ho⟩ := h3
    have hL : L.length = 2 := by have := congrArg List.length h5; rw [length_texts] at this; exact this.symm
    obtain ⟨Av, cv, rfl, _⟩ := ho.form
    rw [hL]
    exact ⟨Av, cv, rfl, h4⟩
  · rw [hx] at h3
    exact absurd rfl h3.1
theorem al4 {W : World} {g : Nat} (h : Row W g 5 #[.int .u8 3]) :
    Calls Try.prog 25 #[.slice (some ⟨g, 0, none⟩) 1 1, .int .i64 5] W fun e w' => e = .returned (.tuple #[.agg #[.int .i64 0, .int .i64 0, .slice none 0 0], .int .i64 8]) ∧ Below W.heap.size W w' := by
  have hx : umdRd [3] 5 = (8, 0, 0, []) := by decide +kernel
  refine (uread_5 (bs := [3]) 1 1 W rfl (by omega) (by omega) (by omega) (row_src (xs := bts [3]) h) (by decide)).mono ?_
  rintro e w' ⟨h3 | h3, h4⟩
  · rw [hx] at h3
    exact absurd h3.1 (by decide)
  · rw [hx] at h3
    exact ⟨h3.2, h4⟩
theorem al5 {W : World} {g1 g2 : Nat} (h1 : Row W g1 5 #[.int .u8 1]) (h2 : Row W g2 30 #[.slice (some ⟨g1, 0, none⟩) 1 1]) :
    Calls Try.prog 158 #[.agg #[.int .i64 0, .int .i64 32, .slice (some ⟨g2, 0, none⟩) 1 1], .int .i64 5] W fun e w' => e = .returned (.tuple #[.slice none 0 0, .int .i64 3]) ∧ Below W.heap.size W w' := by
  have hs : RSrc W (some ⟨g2, 0, none⟩) [⟨some ⟨g1, 0, none⟩, 1, [1]⟩] := rsrc_of h2 (fun r hr => by
    rw [List.mem_singleton] at hr
    subst hr
    exact ok_of_row (l := [1]) h1 (by decide) (by decide))
  have h := uwrite_bad 0 32 5 1 1 W rfl (by omega) hs (by show ∀ m ∈ [1], m ≤ 9223372036854775807; decide) (by show umdF 0 32 [1] 5 = 0; decide +kernel)
  exact h

end Go.Proofs.Ytgdpjaojlhdhdaa
namespace Go.Proofs.Ytgdpjaojlhdhdaa
open Go.RowKit

theorem aal1 {W : World} {g1 g2 : Nat} (h1 : Row W g1 5 #[.int .u8 65]) (h2 : Row W g2 30 #[.slice (some ⟨g1, 0, none⟩) 1 1]) :
    Calls Try.prog 40 #[.agg #[.bool false, .int .i64 0, .int .i64 5, .bool false, .bool false, .int .i64 0, .slice (some ⟨g2, 0, none⟩) 1 1], .int .i64 10] W fun e w' => ∃ v', e = .returned (.tuple #[v', .int .i64 0]) ∧ OwnY W.heap.size w' v' [128, 5, 65] ∧ Below W.heap.size W w' := by
  have hs : RSrc W (some ⟨g2, 0, none⟩) [⟨some ⟨g1, 0, none⟩, 1, [65]⟩] := rsrc_of h2 (fun r hr => by
    rw [List.mem_singleton] at hr
    subst hr
    exact ok_of_row (l := [65]) h1 (by decide) (by decide))
  have h := awrite_ok false false false 0 5 0 10 1 1 W rfl (by omega) (by omega) hs (by show ∀ m ∈ [1], m ≤ 9223372036854775807; decide) (by show amdF false false 0 5 0 [1] 10 ≠ 0; decide +kernel)
  rw [show amdBytes false false false 0 5 0 [⟨some ⟨g1, 0, none⟩, 1, [65]⟩] 10 = [128, 5, 65] from by
    have e : tailF (lens [⟨some ⟨g1, 0, none⟩, 1, [65]⟩]) (lwNA 10) = [] := by
      show tailF [1] 11 = _
      decide +kernel
    unfold amdBytes
    rw [e, show pack (bitsP (putsA false false false 0 5 0 (decide (1 < [(⟨some ⟨g1, 0, none⟩, 1, [65]⟩ : RowB)].length)) 10)) = [128, 5] from by
      show pack (bitsP (putsA false false false 0 5 0 false 10)) = _
      decide +kernel]
    rfl] at h
  exact h
theorem aal2 {W : World} {g1 g2 g3 : Nat} (h1 : Row W g1 5 #[.int .u8 1, .int .u8 2]) (h2 : Row W g2 5 #[.int .u8 3]) (h3 : Row W g3 30 #[.slice (some ⟨g1, 0, none⟩) 2 2, .slice (some ⟨g2, 0, none⟩) 1 1]) :
    Calls Try.prog 40 #[.agg #[.bool true, .int .i64 1, .int .i64 300, .bool true, .bool true, .int .i64 7, .slice (some ⟨g3, 0, none⟩) 2 2], .int .i64 16] W fun e w' => ∃ v', e = .returned (.tuple #[v', .int .i64 0]) ∧ OwnY W.heap.size w' v' [238, 1, 44, 0, 7, 0, 2, 1, 2, 3] ∧ Below W.heap.size W w' := by
  have hs : RSrc W (some ⟨g3, 0, none⟩) [⟨some ⟨g1, 0, none⟩, 2, [1, 2]⟩, ⟨some ⟨g2, 0, none⟩, 1, [3]⟩] := rsrc_of h3 (fun r hr => by
    rw [List.mem_cons, List.mem_singleton] at hr
    rcases hr with rfl | rfl
    · exact ok_of_row (l := [1, 2]) h1 (by decide) (by decide)
    · exact ok_of_row (l := [3]) h2 (by decide) (by decide))
  have h := awrite_ok true true true 1 300 7 16 2 2 W rfl (by omega) (by omega) hs (by show ∀ m ∈ [2, 1], m ≤ 9223372036854775807; decide) (by show amdF true true 1 300 7 [2, 1] 16 ≠ 0; decide +kernel)
  rw [show amdBytes true true true 1 300 7 [⟨some ⟨g1, 0, none⟩, 2, [1, 2]⟩, ⟨some ⟨g2, 0, none⟩, 1, [3]⟩] 16 = [238, 1, 44, 0, 7, 0, 2, 1, 2, 3] from by
    have e : tailF (lens [⟨some ⟨g1, 0, none⟩, 2, [1, 2]⟩, ⟨some ⟨g2, 0, none⟩, 1, [3]⟩]) (lwNA 16) = [0, 2] := by
      show tailF [2, 1] 15 = _
      decide +kernel
    unfold amdBytes
    rw [e, show pack (bitsP (putsA true true true 1 300 7 (decide (1 < [(⟨some ⟨g1, 0, none⟩, 2, [1, 2]⟩ : RowB), ⟨some ⟨g2, 0, none⟩, 1, [3]⟩].length)) 16)) = [238, 1, 44, 0, 7] from by
      show pack (bitsP (putsA true true true 1 300 7 true 16)) = _
      decide +kernel]
    rfl] at h
  exact h
theorem aal3 {W : World} {A : Option Addr} {c : Nat} (h : ∃ B, OwnY B W (.slice A 10 c) [238, 1, 44, 0, 7, 0, 2, 1, 2, 3]) :
    Calls Try.prog 34 #[.slice A 10 c, .int .i64 16] W fun e w' => ∃ A' c', e = .returned (.tuple #[.agg #[.bool true, .int .i64 1, .int .i64 300, .bool true, .bool true, .int .i64 7, .slice A' 2 c'], .int .i64 0]) ∧ Below W.heap.size W w' := by
  obtain ⟨B, hB⟩ := h
  obtain ⟨A2, c2, e, h1, h2⟩ := hB.form
  injection e with e1 e2 e3
  subst e1 e3
  unfold maxLen at h2
  have hx : amdRd [238, 1, 44, 0, 7, 0, 2, 1, 2, 3] 16 = (0, ⟨true, true, true, 1, 300, 7⟩, [[1, 2], [3]]) := by kernel_rfl
  refine (aread_yes (bs := [238, 1, 44, 0, 7, 0, 2, 1, 2, 3]) 16 10 c W (.inr rfl) rfl (by omega) h1 (by omega) hB.src (by decide)).mono ?_
  rintro e w' ⟨h3 | h3, h4⟩
  · rw [hx] at h3
    obtain ⟨_, v, L, h5, rfl, ho⟩ := h3
    have hL : L.length = 2 := by have := congrArg List.length h5; rw [length_texts] at this; exact this.symm
    obtain ⟨Av, cv, rfl, _⟩ := ho.form
    rw [hL]
    exact ⟨Av, cv, rfl, h4⟩
  · rw [hx] at h3
    exact absurd rfl h3.1
theorem aal4 {W : World} {g : Nat} (h : Row W g 5 #[.int .u8 0]) :
    Calls Try.prog 34 #[.slice (some ⟨g, 0, none⟩) 1 1, .int .i64 10] W fun e w' => e = .returned (.tuple #[.agg #[.bool false, .int .i64 0, .int .i64 0, .bool false, .bool false, .int .i64 0, .slice none 0 0], .int .i64 4]) ∧ Below W.heap.size W w' := by
  have hx : amdRd [0] 10 = (4, hd0, []) := by kernel_rfl
  refine (aread_yes (bs := [0]) 10 1 1 W (.inl rfl) rfl (by omega) (by omega) (by omega) (row_src (xs := bts [0]) h) (by decide)).mono ?_
  rintro e w' ⟨h3 | h3, h4⟩
  · rw [hx] at h3
    exact absurd h3.1 (by decide)
  · rw [hx] at h3
    exact ⟨h3.2, h4⟩
theorem aal5 {W : World} {g1 g2 : Nat} (h1 : Row W g1 5 #[.int .u8 1]) (h2 : Row W g2 30 #[.slice (some ⟨g1, 0, none⟩) 1 1]) :
    Calls Try.prog 40 #[.agg #[.bool false, .int .i64 0, .int .i64 0, .bool false, .bool false, .int .i64 1, .slice (some ⟨g2, 0, none⟩) 1 1], .int .i64 10] W fun e w' => e = .returned (.tuple #[.slice none 0 0, .int .i64 3]) ∧ Below W.heap.size W w' := by
  have hs : RSrc W (some ⟨g2, 0, none⟩) [⟨some ⟨g1, 0, none⟩, 1, [1]⟩] := rsrc_of h2 (fun r hr => by
    rw [List.mem_singleton] at hr
    subst hr
    exact ok_of_row (l := [1]) h1 (by decide) (by decide))
  have h := awrite_bad false false false 0 0 1 10 1 1 W rfl (by omega) hs (by show ∀ m ∈ [1], m ≤ 9223372036854775807; decide) (by show amdF false false 0 0 1 [1] 10 = 0; decide +kernel)
  exact h
set_option maxRecDepth 100000 in
set_option maxHeartbeats 3200000 in
theorem aalive_any (w : World) : Calls Try.prog 33 #[] w fun e w' => e = .returned (.bool true) ∧ Below w.heap.size w w' := by
  go_enter Try.func33, Try.ntmps33
  go_wp2_with (first
    | (go_at_call 40; (with_reducible refine (aal1 (g1 := w.heap.size) ?x1 ?x2).mono ?_); rotate_left 2; rintro e w1 ⟨v1, rfl, ho1, hb1⟩; obtain ⟨A1, c1, hv1, _⟩ := ho1.form; simp only [List.length_cons, List.length_nil, Nat.zero_add, Nat.reduceAdd] at hv1; subst hv1; (have HO1 := Lib.hid ho1; have HB1 := Lib.hid (bl_step (bl_alloc (bl_alloc (Below.refl w.heap.size w) _) _) hb1); clear ho1 hb1))
    | (go_at_call 40; (with_reducible refine (aal2 (g1 := w1.heap.size) (g2 := w1.heap.size + 1) ?y1 ?y2 ?y3).mono ?_); rotate_left 3; rintro e w2 ⟨v2, rfl, ho2, hb2⟩; obtain ⟨A2, c2, hv2, _⟩ := ho2.form; simp only [List.length_cons, List.length_nil, Nat.zero_add, Nat.reduceAdd] at hv2; subst hv2; (have HO2 := Lib.hid ho2; have HBS2 := Lib.hid (bl_step (bl_alloc (bl_alloc (bl_alloc (Below.refl w1.heap.size w1) _) _) _) hb2); clear ho2 hb2))
    | (go_at_call 34; (with_reducible refine (aal3 ⟨_, HO2.out⟩).mono ?_); rintro e w3 ⟨A3, c3, rfl, hb3⟩; have HB3 := Lib.hid hb3; clear hb3)
    | (go_at_call 34; (with_reducible refine (aal4 ?z1).mono ?_); rotate_left 1; rintro e w4 ⟨rfl, hb4⟩; (have HBS4 := Lib.hid (bl_step (bl_alloc (bl_alloc (Below.refl w3.heap.size w3) _) _) hb4); have RP := Lib.hid (((Row.made w3 57 #[.bool true, .int .i64 1, .int .i64 300, .bool true, .bool true, .int .i64 7, .slice A3 2 c3]).more _).later hb4); clear hb4))
    | (go_at_call 40; (with_reducible refine (aal5 (g1 := w4.heap.size + 1) ?u1 ?u2).mono ?_); rotate_left 2; rintro e w5 ⟨rfl, hb5⟩
       have hb59 := bl_step (bl_alloc (bl_alloc (bl_alloc (Below.refl w4.heap.size w4) _) _) _) hb5
       have HB59 := Lib.hid hb59
       have cv1 : (convert 30 9 (.slice A1 3 c1)).run Try.prog w5 = .ok (.string ⟨#[128, 5, 65]⟩) w5 := (((((HO1.out.later HBS2.out).later HB3.out).later HBS4.out).later hb59)).conv (by decide)
       have cv2 : (convert 30 9 (.slice A2 10 c2)).run Try.prog w5 = .ok (.string ⟨#[238, 1, 44, 0, 7, 0, 2, 1, 2, 3]⟩) w5 := (((HO2.out.later HB3.out).later HBS4.out).later hb59).conv (by decide)
       have rp := RP.out.later hb59
       have p0 : w5.cell? ⟨w3.heap.size, 0, none⟩ = some (.bool true) := rp.read rfl
       have p4 : w5.cell? ⟨w3.heap.size, 4, none⟩ = some (.bool true) := rp.read rfl
       have p5 : w5.cell? ⟨w3.heap.size, 5, none⟩ = some (.int .i64 7) := rp.read rfl
       clear hb5 hb59 rp))
  · go_ret
    exact ⟨rfl, bl_step' (bl_step' (bl_step' (bl_step' HB1.out (HBS2.out.mono HB1.out.size)) (HB3.out.mono (Nat.le_trans HB1.out.size HBS2.out.size))) (HBS4.out.mono (Nat.le_trans (Nat.le_trans HB1.out.size HBS2.out.size) HB3.out.size))) (HB59.out.mono (Nat.le_trans (Nat.le_trans (Nat.le_trans HB1.out.size HBS2.out.size) HB3.out.size) HBS4.out.size))⟩
  all_goals first | exact Row.made _ _ _ | exact (Row.made _ _ _).more _ | exact ((Row.made _ _ _).more _).more _ | exact row1 _ _ _ _ | exact (row1 _ _ _ _).more _ | exact row2 _ _ _ _ _
end Go.Proofs.Ytgdpjaojlhdhdaa
namespace Go.Proofs.Ytgdpjaojlhdhdaa
open Go.RowKit


/-- what it answers: at least a bound, where it says no -/
def GreatAns (n q : Nat) (w : World) (e : Ending) (w' : World) : Prop := (∃ b, e = .returned (.bool b) ∧ (b = false → n ≤ 40 ∧ q ≤ 9000)) ∧ w = w'
set_option maxRecDepth 100000 in
set_option maxHeartbeats 1600000 in
theorem great_any {A : Option Addr} {L : List RowB} (n cap : Nat) (w : World) (hL : L.length = n) (hn : n ≤ 9223372036854775807) (hs : RSrc w A L) (hm : ∀ m ∈ lens L, m ≤ 9223372036854775807) :
    Calls Try.prog 38 #[.slice A n cap] w (GreatAns n (lens L).sum w) := by
  have HS := Lib.hid hs
  have HL := Lib.hid hL
  have HM := Lib.hid hm
  clear hs hL hm
  go_enter Try.func38, Try.ntmps38
  go_wp2
  go_loopw [3, 4] (fun s i wr => ∃ k q : Nat, k ≤ n ∧ q ≤ 4200 * 41 ∧ i = .int .i64 k ∧ s = .int .i64 q ∧ Hid (q = sumTo (lens L) k ∧ q ≤ 4200 * k ∧ (0 < k → n ≤ 40)) ∧ w = wr) (fun _ i _ => n - (intOf i).toNat)
  case atStart => exact ⟨0, 0, by omega, by omega, rfl, rfl, Lib.hid ⟨by rw [sumTo_zero], by omega, by omega⟩, rfl⟩
  case round =>
    obtain ⟨k, q, hk, hq, rfl, rfl, HK, rfl⟩ := hrel
    by_cases hlt : k < n
    · obtain ⟨ad, rfl, hc⟩ := HS.out (by rw [HL.out]; omega)
      obtain ⟨r, hr⟩ : ∃ r, L[k]? = some r := ⟨_, List.getElem?_eq_getElem (by rw [HL.out]; exact hlt)⟩
      have hcell : w.cell? (ad.add k) = some (.slice r.A r.bs.length r.cap) := (hc k r hr).1
      have HSU := Lib.hid (sumTo_succ (lens_at hr))
      have hlm := HM.out _ (List.mem_of_getElem? (lens_at hr))
      clear hc hr
      generalize r.bs.length = len at *
      by_cases h40 : 40 < n
      · have h40' : (40 : Int) < n := by omega
        go_wp2
        go_ret
        exact ⟨⟨true, rfl, fun h => by cases h⟩, rfl⟩
      · have h40' : ¬ (40 : Int) < n := by omega
        by_cases h42 : 4200 < len
        · have h42' : (4200 : Int) < len := by omega
          go_wp2
          go_ret
          exact ⟨⟨true, rfl, fun h => by cases h⟩, rfl⟩
        · have h42' : ¬ (4200 : Int) < len := by omega
          have hb : q ≤ 4200 * k := HK.out.2.1
          go_wp2
          go_roundw
          case rel => exact ⟨k + 1, q + len, by omega, by omega, by go_num, by go_num, Lib.hid ⟨by rw [HSU.out, HK.out.1], by omega, fun _ => by omega⟩, trivial⟩
          case measure => simp [intOf]; omega
    · have hkn : k = n := by omega
      go_wp2
      go_ret
      refine ⟨⟨_, rfl, fun h => ?_⟩, rfl⟩
      have h2 : ¬ (9000 : Int) < q := by simpa using h
      have h9 := HK.out.1
      rw [hkn, show n = (lens L).length by rw [length_lens, HL.out], sumTo_all] at h9
      refine ⟨?_, by omega⟩
      rcases Nat.eq_zero_or_pos k with h0 | h0
      · omega
      · exact HK.out.2.2 h0
end Go.Proofs.Ytgdpjaojlhdhdaa
namespace Go.Proofs.Ytgdpjaojlhdhdaa


/-- the last length one greater -/
def grown (ls : List Nat) : List Nat := ls.set (ls.length - 1) (ls.getD (ls.length - 1) 0 + 1)
theorem length_grown (ls : List Nat) : (grown ls).length = ls.length := by simp [grown]
theorem sum_set {ls : List Nat} {k x : Nat} (h : k < ls.length) : (ls.set k x).sum + ls[k] = ls.sum + x := by
  have h1 : ls = ls.take k ++ (ls[k] :: ls.drop (k + 1)) := by simp
  have h2 : ls.set k x = ls.take k ++ (x :: ls.drop (k + 1)) := by rw [List.set_eq_take_append_cons_drop, if_pos h]
  rw [h2]
  have h3 : ls.sum = (ls.take k ++ (ls[k] :: ls.drop (k + 1))).sum := by rw [← h1]
  rw [h3]
  simp only [List.sum_append, List.sum_cons]
  omega
theorem sum_grown {ls : List Nat} (h : 0 < ls.length) : (grown ls).sum = ls.sum + 1 := by
  have h1 : ls.length - 1 < ls.length := by omega
  have h2 := sum_set (x := ls.getD (ls.length - 1) 0 + 1) h1
  unfold grown
  rw [List.getD_eq_getElem?_getD, List.getElem?_eq_getElem h1, Option.getD_some] at *
  omega
theorem ok_grown {ls : List Nat} (h : 0 < ls.length) (hok : okTo ls ls.length = true) (h4 : ls.sum + 1 ≤ 4000) : okTo (grown ls) (grown ls).length = true := by
  have h1 : ls.length - 1 < ls.length := by omega
  rw [length_grown]
  unfold okTo
  rw [List.all_eq_true]
  intro j hj
  rw [List.mem_range] at hj
  rw [length_grown]
  have hjm : ls[j]? = some ls[j] := List.getElem?_eq_getElem hj
  obtain ⟨a1, a2, a3⟩ := okTo_small hok hjm
  have hsum : ls[j] ≤ ls.sum := by
    have e1 := sumTo_succ hjm
    have e2 := sumTo_le ls (j + 1)
    omega
  by_cases e : j = ls.length - 1
  · subst e
    have e2 : (grown ls).getD (ls.length - 1) 0 = ls[ls.length - 1] + 1 := by
      unfold grown
      rw [List.getD_eq_getElem?_getD, List.getElem?_set_self h1, List.getD_eq_getElem?_getD, hjm]
      rfl
    rw [e2]
    unfold okAt
    rw [if_pos (by omega), decide_eq_true (by omega), decide_eq_true (by omega)]
    rfl
  · have e2 : (grown ls).getD j 0 = ls[j] := by
      unfold grown
      rw [List.getD_eq_getElem?_getD, List.getElem?_set_ne (by omega), hjm]
      rfl
    rw [e2]
    unfold okAt
    rw [if_neg (by omega), decide_eq_true (by omega), decide_eq_true (a3 (by omega))]
    rfl
theorem okn_5_10 {sn : Int} (h : okn 5 sn = true) : okn 10 sn = true := by
  have h1 := of_decide_eq_true h
  refine decide_eq_true ⟨h1.1, ?_⟩
  have e5 : sz 5 = 32 := by decide
  have e10 : sz 10 = 1024 := by decide
  rw [e5] at h1
  rw [e10]
  omega
theorem grows_wide (fi sn : Int) (ls : List Nat) : umdF fi sn ls 5 = 0 ∨ (umdF fi sn ls 5 = 4000 ∧ umdF fi sn ls 10 = 0) ∨ umdF fi sn ls 10 = umdF fi sn ls 5 + 1 := by
  rcases Decidable.em (umdF fi sn ls 5 = 0) with h | h
  · exact .inl h
  · right
    obtain ⟨_, h1, h2, h3, h4, h5, h6, h7⟩ := umdF_pos h
    have hb := umdF_big fi sn ls 5
    have e : umdF fi sn ls 10 = fieldsF ls 2 11 := by
      unfold umdF
      rw [if_pos ⟨.inr rfl, h1, h2, okn_5_10 h3⟩]
      rfl
    rw [e]
    unfold fieldsF
    by_cases h8 : 2 + sizeF ((ls.length : Int) - 1) 11 + ls.sum ≤ 4000
    · rw [if_pos ⟨h4, h5, h6, h8⟩]
      right
      rw [h7]
      omega
    · rw [if_neg (fun h => h8 h.2.2.2)]
      left
      rw [h7] at hb ⊢
      omega
theorem grows_more {fi sn : Int} {ls : List Nat} (h0 : 0 < ls.length) : umdF fi sn ls 10 = 0 ∨ umdF fi sn (grown ls) 10 = umdF fi sn ls 10 + 1 ∨ (umdF fi sn ls 10 = 4000 ∧ umdF fi sn (grown ls) 10 = 0) := by
  rcases Decidable.em (umdF fi sn ls 10 = 0) with h | h
  · exact .inl h
  · right
    obtain ⟨_, h1, h2, h3, h4, h5, h6, h7⟩ := umdF_pos h
    have hb := umdF_big fi sn ls 10
    have e : umdF fi sn (grown ls) 10 = fieldsF (grown ls) 2 11 := by
      unfold umdF
      rw [if_pos ⟨.inr rfl, h1, h2, h3⟩]
      rfl
    have hs := sum_grown h0
    rw [e]
    unfold fieldsF
    rw [length_grown, hs]
    have hn := sizeF_nonneg ((ls.length : Int) - 1) 11
    by_cases h8 : 2 + sizeF ((ls.length : Int) - 1) 11 + ((ls.sum + 1 : Nat) : Int) ≤ 4000
    · have hok := ok_grown h0 h6 (by omega)
      rw [length_grown] at hok
      rw [if_pos ⟨h4, h5, hok, h8⟩]
      left
      rw [h7]
      omega
    · rw [if_neg (fun h => h8 h.2.2.2)]
      right
      rw [h7] at hb ⊢
      omega
/-- what the statement asks of three sizes -/
def growsB (n m k : Int) : Bool := ((n == 0) || ((n == 4000) && (m == 0)) || (m == n + 1)) && ((m == 0) || (k == m + 1) || ((m == 4000) && (k == 0)))
theorem grows_true {fi sn : Int} {ls : List Nat} (h0 : 0 < ls.length) : growsB (umdF fi sn ls 5) (umdF fi sn ls 10) (umdF fi sn (grown ls) 10) = true := by
  unfold growsB
  rw [Bool.and_eq_true]
  constructor
  · rcases grows_wide fi sn ls with h | ⟨h, h2⟩ | h
    · simp [h]
    · simp [h, h2]
    · simp [h]
  · rcases grows_more (fi := fi) (sn := sn) h0 with h | h | ⟨h, h2⟩
    · simp [h]
    · simp [h]
    · simp [h, h2]
end Go.Proofs.Ytgdpjaojlhdhdaa
namespace Go.Proofs.Ytgdpjaojlhdhdaa
open Go.RowKit


theorem step_run9 {P : Program} {ops : Array Oper} {o : Oper} {a : Act} {w : World} {K : Act → World → Prop} {Q : Exit → Act → World → Prop} {E : Prop} (hgd : o.guard = none) (s x : Operand) (t : TypeId)
    (ho : o.op = .call { callee := .builtin .append, args := #[s, x], argTypes := #[t, t] }) (v u : Value) (hs : a.eval s = v) (hx : a.eval x = u) {v' : Value} {w' : World}
    (hr : (Builtin.append_ #[t, t] o.type #[v, u]).run P w = .ok v' w') (h : K (a.put o.dst v') w') : if Region.wanted o (yielded ops a.tmps) = true then Oper.wp P o a w K Q else E := by
  have hw : Region.wanted o (yielded ops a.tmps) = true := by simp [Region.wanted, hgd]
  rw [if_pos hw]
  unfold Oper.wp execOp
  simp only [ho, resolve, invoke, builtin, Sem.run_bind, Sem.run_pure, Result.andThen_ok, List.map_toArray, List.map_cons, List.map_nil, hs, hx, hr]
  exact h
theorem grow_row {ad : Addr} {L : List RowB} {B n cap s : Nat} {V V0 : World} (hB : B ≤ s) (hBV : B ≤ V.heap.size) (hE : Row V s 30 #[]) (hL : L.length = n) (hn0 : 0 < n) (hn : n ≤ 40) (hb : Below B V0 V) (hc : ∀ (j : Nat) (r : RowB), L[j]? = some r → V.cell? (ad.add j) = some r.v) :
    ∃ g c W', (Builtin.append_ #[40, 40] 40 #[.slice (some ⟨s, 0, none⟩) 0 0, .slice (some ad) n cap]).run Try.prog V = .ok (.slice (some ⟨g, 0, none⟩) n c) W' ∧ W'.ownsRow B 30 1 (.slice (some ⟨g, 0, none⟩) n c) n (L.map RowB.v) ∧ Below B V0 W' ∧ Only (fun k => k = s) V W' := by
  obtain ⟨i0, hi, hi0, hi1, hi2⟩ := info_parts Try.info30
  obtain ⟨g2, c2, w4, hr4, hown4, hgr4, hat4, hlt4⟩ := run_append_lies (P := Try.prog) V 40 40 B 30 i0 _ 1 24 Try.underlying40 hi hi0 hi1 hi2 rfl (by omega) (.slice (some ⟨s, 0, none⟩) 0 0) 0 [] ⟨by simp, .inr ⟨s, 0, #[], rfl, hB, hE, Nat.le_refl _, by simp [maxLen], rfl, by simp⟩⟩
      ad n cap (L.map RowB.v) (by rw [List.length_map, hL, Nat.mul_one]) (fun j u hu => by
        rw [List.getElem?_map, Option.map_eq_some_iff] at hu
        obtain ⟨r, hr, rfl⟩ := hu
        exact hc j r hr) (fun u hu => by
        rw [List.mem_map] at hu
        obtain ⟨r, _, rfl⟩ := hu
        rfl) hn0 (by unfold maxLen; omega) (by omega) hBV _ rfl
  rw [Nat.zero_add, List.nil_append] at *
  exact ⟨g2, c2, w4, hr4, hown4, hb.grown hgr4 hBV (fun k hk => by simp [Value.ownBlock] at hk; omega), (Only.refl _ V).grown hgr4 (fun k hk => .inl (by simp [Value.ownBlock] at hk; exact hk.symm))⟩
theorem cells_of {w w' : World} {g : Nat} {a b c : Value} (hr : Row w g 42 #[a, b, c]) (hb : Below w.heap.size w w') : w'.cell? ⟨g, 0, none⟩ = some a ∧ w'.cell? ⟨g, 1, none⟩ = some b ∧ w'.cell? ⟨g, 2, none⟩ = some c :=
  ⟨(hr.later hb).read rfl, (hr.later hb).read rfl, (hr.later hb).read rfl⟩
end Go.Proofs.Ytgdpjaojlhdhdaa
namespace Go.Proofs.Ytgdpjaojlhdhdaa
open Go.RowKit

set_option maxRecDepth 100000 in
set_option maxHeartbeats 800000 in
theorem adata_any {A : Option Addr} {L : List RowB} (poll part last : Bool) (fi sn off : Int) (n cap : Nat) (w : World) (hL : L.length = n) (hn : n ≤ 9223372036854775807) (hs : RSrc w A L) (hm : (lens L).sum ≤ 1000000) :
    Calls Try.prog 46 #[.agg #[.bool poll, .int .i64 fi, .int .i64 sn, .bool part, .bool last, .int .i64 off, .slice A n cap]] w fun e w' => ∃ v', e = .returned v' ∧ OwnY w.heap.size w' v' (flat L) ∧ Below w.heap.size w w' := by
  have HJ := Lib.hid (fun W (hb : Below w.heap.size w W) => join_any (A := A) n cap W hL hn (hs.later hb) hm)
  clear hs hL hm
  go_enter Try.func46, Try.ntmps46
  go_wp2_with (go_at_call 188; refine (HJ.out _ (bl_alloc (Below.refl _ _) _)).mono ?_; rintro e w1 ⟨v, rfl, ho, hb⟩)
  go_ret
  exact ⟨v, rfl, OwnY.down ho (by simp), bl_step (bl_alloc (Below.refl _ _) _) hb⟩
theorem lens_append (L : List RowB) (r : RowB) : lens (L ++ [r]) = lens L ++ [r.bs.length] := by simp [lens]
/-- what the numbers of a packet are -/
theorem heads_now {part last : Bool} {fi sn off wd : Int} {ls : List Nat} (h : amdF part last fi sn off ls wd ≠ 0) :
    headA part wd + ls.sum ≤ amdF part last fi sn off ls wd ∧ headA true wd - headA false wd = 2 ∧ (ls.length = 1 → amdF part last fi sn off ls wd = headA part wd + ls.sum) ∧ 1 ≤ ls.length ∧ ls.length ≤ 24 ∧ ls.sum ≤ 4000 := by
  obtain ⟨hw, _, _, _, _, h1, h2, _, h3⟩ := amdF_pos h
  have h4 := sizeF_nonneg ((ls.length : Int) - 1) (lwA wd)
  have h5 := amdF_big part last fi sn off ls wd
  have h6 := headA_nonneg part wd
  refine ⟨by omega, by rcases hw with rfl | rfl <;> decide, fun h => ?_, h1, h2, by omega⟩
  have e : sizeF ((ls.length : Int) - 1) (lwA wd) = 0 := by
    rw [h]
    rcases hw with rfl | rfl <;> decide
  omega
theorem heads_more {part last : Bool} {fi sn off wd : Int} {ls : List Nat} {k : Nat} (h : amdF part last fi sn off ls wd ≠ 0) (h' : amdF part last fi sn off (ls ++ [k]) wd ≠ 0) :
    (k : Int) < amdF part last fi sn off (ls ++ [k]) wd - amdF part last fi sn off ls wd ∧ amdF part last fi sn off (ls ++ [k]) wd - amdF part last fi sn off ls wd ≤ k + 2 := by
  obtain ⟨hw, _, _, _, _, h1, h2, _, h3⟩ := amdF_pos h
  obtain ⟨_, _, _, _, _, g1, g2, _, g3⟩ := amdF_pos h'
  rw [h3, g3]
  have e1 : (ls ++ [k]).length = ls.length + 1 := by simp
  have e2 : (ls ++ [k]).sum = ls.sum + k := by simp
  rw [e1] at g1 g2 ⊢
  rw [e2]
  obtain ⟨q, hq⟩ : ∃ q, ls.length = q + 1 := ⟨ls.length - 1, by omega⟩
  rw [hq] at h1 h2 g2 ⊢
  have hd : 1 ≤ sizeF (((q + 1 + 1 : Nat) : Int) - 1) (lwA wd) - sizeF (((q + 1 : Nat) : Int) - 1) (lwA wd) ∧ sizeF (((q + 1 + 1 : Nat) : Int) - 1) (lwA wd) - sizeF (((q + 1 : Nat) : Int) - 1) (lwA wd) ≤ 2 := by
    have a1 : ((q + 1 + 1 : Nat) : Int) - 1 = q + 1 := by omega
    have a2 : ((q + 1 : Nat) : Int) - 1 = q := by omega
    rw [a1, a2]
    unfold sizeF
    have c1 : (decide ((1 : Int) ≤ (q : Int) + 1) && decide ((q : Int) + 1 ≤ 23)) = true := by simp; omega
    rcases hw with rfl | rfl
    · have e : lwA 10 = 11 := rfl
      have ok : okW 11 = true := rfl
      rw [e, ok, c1]
      simp only [Bool.true_and, if_true, Bool.and_self]
      split
      · omega
      · rename_i h9
        simp at h9
        omega
    · have e : lwA 16 = 15 := rfl
      have ok : okW 15 = true := rfl
      rw [e, ok, c1]
      simp only [Bool.true_and, if_true, Bool.and_self]
      split
      · omega
      · rename_i h9
        simp at h9
        omega
  omega
theorem rows_own {w : World} {B g n c : Nat} {L : List RowB} (h : w.ownsRow B 30 1 (.slice (some ⟨g, 0, none⟩) n c) n (L.map RowB.v)) (hok : ∀ r ∈ L, r.ok w) : RSrc w (some ⟨g, 0, none⟩) L := by
  intro h0
  refine ⟨_, rfl, fun k r hr => ⟨?_, hok r (List.mem_of_getElem? hr)⟩⟩
  exact h.cells (g := g) rfl k _ (by rw [List.getElem?_map, hr]; rfl)
theorem rows_ok {w : World} {A : Option Addr} {L : List RowB} (h : RSrc w A L) : ∀ r ∈ L, r.ok w := by
  intro r hr
  obtain ⟨k, hk⟩ := List.getElem?_of_mem hr
  obtain ⟨ad, _, hc⟩ := h (by have := (List.getElem?_eq_some_iff.1 hk).1; omega)
  exact (hc k r hk).2
end Go.Proofs.Ytgdpjaojlhdhdaa
namespace Go.Proofs.Ytgdpjaojlhdhdaa
open Go.RowKit

/-- what Write answers, whatever the packet is -/
def WrAnsA (poll part last : Bool) (fi sn off wd : Int) (L : List RowB) (w : World) (e : Ending) (w' : World) : Prop :=
  ((amdF part last fi sn off (lens L) wd ≠ 0 ∧ ∃ (a b c d : Nat) (v : Value), fi = a ∧ sn = b ∧ off = c ∧ wd = d ∧ e = .returned (.tuple #[v, .int .i64 0]) ∧ OwnY w.heap.size w' v (amdBytes poll part last a b c L d)) ∨
   (amdF part last fi sn off (lens L) wd = 0 ∧ ∃ er : Int, er ≠ 0 ∧ e = .returned (.tuple #[.slice none 0 0, .int .i64 er]))) ∧ Below w.heap.size w w'
theorem placed_nn {part last : Bool} {off wd : Int} (h : placedA part last off wd = true) : 0 ≤ off := by
  unfold placedA at h
  cases part
  · simp at h; omega
  · simp only [if_true] at h
    exact (of_decide_eq_true h).1
theorem nat_of {part last : Bool} {fi sn off wd : Int} {ls : List Nat} (h : amdF part last fi sn off ls wd ≠ 0) : ∃ a b c d : Nat, fi = a ∧ sn = b ∧ off = c ∧ wd = d := by
  obtain ⟨hw, h0, hf, hs2, hpl, _⟩ := amdF_pos h
  have h1 := (of_decide_eq_true hs2).1
  have h2 := placed_nn hpl
  exact ⟨fi.toNat, sn.toNat, off.toNat, wd.toNat, by omega, by omega, by omega, by omega⟩
theorem awrite_any {A : Option Addr} {L : List RowB} (poll part last : Bool) (fi sn off wd : Int) (n cap : Nat) (w : World) (hL : L.length = n) (hcap : n ≤ cap) (hcm : cap ≤ 9223372036854775807) (hs : RSrc w A L) (hm : ∀ m ∈ lens L, m ≤ 9223372036854775807) :
    Calls Try.prog 40 #[.agg #[.bool poll, .int .i64 fi, .int .i64 sn, .bool part, .bool last, .int .i64 off, .slice A n cap], .int .i64 wd] w (WrAnsA poll part last fi sn off wd L w) := by
  by_cases h : amdF part last fi sn off (lens L) wd = 0
  · refine (awrite_bad poll part last fi sn off wd n cap w hL (by omega) hs hm h).mono ?_
    rintro e w' ⟨rfl, hb⟩
    exact ⟨.inr ⟨h, _, by split <;> decide, rfl⟩, hb⟩
  · obtain ⟨a, b, c, d, rfl, rfl, rfl, rfl⟩ := nat_of h
    refine (awrite_ok poll part last a b c d n cap w hL hcap hcm hs hm h).mono ?_
    rintro e w' ⟨v, rfl, ho, hb⟩
    exact ⟨.inl ⟨h, a, b, c, d, v, rfl, rfl, rfl, rfl, rfl, ho⟩, hb⟩
/-- what Read answers, whatever the bytes are -/
def RdAnyA (bs : List Nat) (wd : Int) (w : World) (e : Ending) (w' : World) : Prop :=
  ((∃ (d : Nat) (h : HdA) (L : List RowB) (A : Option Addr) (c : Nat), wd = d ∧ amdRd bs d = (0, h, texts L) ∧ e = .returned (.tuple #[.agg #[.bool h.poll, .int .i64 h.fi, .int .i64 h.sn, .bool h.part, .bool h.last, .int .i64 h.off, .slice A L.length c], .int .i64 0]) ∧ OwnR w.heap.size w' (.slice A L.length c) L ∧ L.length ≤ c ∧ c ≤ 9223372036854775807) ∨
   ((∀ d : Nat, wd = d → (amdRd bs d).1 ≠ 0) ∧ ∃ er : Int, er ≠ 0 ∧ e = .returned (.tuple #[.agg #[.bool false, .int .i64 0, .int .i64 0, .bool false, .bool false, .int .i64 0, .slice none 0 0], .int .i64 er]))) ∧ Below w.heap.size w w'
theorem aread_any {A : Option Addr} {bs : List Nat} (wd : Int) (n cap : Nat) (w : World) (hn : bs.length = n) (hm : n ≤ 8192) (hc : n ≤ cap) (hcm : cap ≤ 9223372036854775807) (hs : Src w A (bts bs)) (hb : ∀ b ∈ bs, b < 256) :
    Calls Try.prog 34 #[.slice A n cap, .int .i64 wd] w (RdAnyA bs wd w) := by
  have key : ∀ d : Nat, wd = d → ∀ e w', ArdAns w.heap.size w (amdRd bs d) e w' → RdAnyA bs wd w e w' := by
    rintro d rfl e w' ⟨h | h, hbl⟩
    · obtain ⟨h0, v, L, h1, rfl, ho⟩ := h
      obtain ⟨Av, cv, rfl, g1, g2⟩ := ho.form
      refine ⟨.inl ⟨d, (amdRd bs d).2.1, L, Av, cv, rfl, ?_, rfl, ho, g1, g2⟩, hbl⟩
      rw [← h0, ← h1]
    · obtain ⟨h0, rfl⟩ := h
      exact ⟨.inr ⟨fun d' hd => by
        obtain rfl : d = d' := by omega
        exact h0, _, h0, rfl⟩, hbl⟩
  by_cases h5 : wd = 10 ∨ wd = 16
  · obtain ⟨d, rfl⟩ : ∃ d : Nat, wd = d := ⟨wd.toNat, by omega⟩
    exact (aread_yes d n cap w (by omega) hn hm hc hcm hs hb).mono fun e w' h => key d rfl e w' h
  · refine (aread_kind n cap wd w h5).mono ?_
    rintro e w' ⟨rfl, hbl⟩
    refine ⟨.inr ⟨fun d hd => ?_, 9, by decide, rfl⟩, hbl⟩
    rw [amdRd_kind (by omega)]
    decide
end Go.Proofs.Ytgdpjaojlhdhdaa
namespace Go.Proofs.Ytgdpjaojlhdhdaa
open Go.RowKit


theorem keep14 {W V : World} {g h : Nat} {a0 a1 a2 a3 a4 a5 a6 b0 b1 b2 b3 b4 b5 b6 : Value} (h1 : Row W g 57 #[a0, a1, a2, a3, a4, a5, a6]) (h2 : Row W h 57 #[b0, b1, b2, b3, b4, b5, b6]) (hb : Below W.heap.size W V) :
    V.cell? ⟨g, 0, none⟩ = some a0 ∧ V.cell? ⟨g, 1, none⟩ = some a1 ∧ V.cell? ⟨g, 2, none⟩ = some a2 ∧ V.cell? ⟨g, 3, none⟩ = some a3 ∧ V.cell? ⟨g, 4, none⟩ = some a4 ∧ V.cell? ⟨g, 5, none⟩ = some a5 ∧ V.cell? ⟨g, 6, none⟩ = some a6 ∧ V.cell? ⟨h, 0, none⟩ = some b0 ∧ V.cell? ⟨h, 1, none⟩ = some b1 ∧ V.cell? ⟨h, 2, none⟩ = some b2 ∧ V.cell? ⟨h, 3, none⟩ = some b3 ∧ V.cell? ⟨h, 4, none⟩ = some b4 ∧ V.cell? ⟨h, 5, none⟩ = some b5 ∧ V.cell? ⟨h, 6, none⟩ = some b6 :=
  ⟨(h1.later hb).read rfl, (h1.later hb).read rfl, (h1.later hb).read rfl, (h1.later hb).read rfl, (h1.later hb).read rfl, (h1.later hb).read rfl, (h1.later hb).read rfl, (h2.later hb).read rfl, (h2.later hb).read rfl, (h2.later hb).read rfl, (h2.later hb).read rfl, (h2.later hb).read rfl, (h2.later hb).read rfl, (h2.later hb).read rfl⟩
/-- behind the first part of the law: what is left to do -/
structure BackStA (w : World) (B : Option Addr) (nb cb : Nat) (bs : List Nat) (wd : Int) : Prop where
  len : bs.length = nb
  small : nb ≤ 4100
  room : nb ≤ cb
  cap : cb ≤ 9223372036854775807
  src : Src w B (bts bs)
  bytes : ∀ b ∈ bs, b < 256
section
variable {w : World} {B : Option Addr} {nb cb : Nat} {bs : List Nat} {wd : Int}
theorem BackStA.good (h : BackStA w B nb cb bs wd) {d : Nat} {qp qt ql : Bool} {q0 q1 q2 : Nat} {t : List (List Nat)} (hd : wd = d) (hr : amdRd bs d = (0, ⟨qp, qt, ql, q0, q1, q2⟩, t)) (W : World) (hb : Below w.heap.size w W) :
    Calls Try.prog 34 #[.slice B nb cb, .int .i64 wd] W fun e w' => ∃ (L : List RowB) (A : Option Addr) (c : Nat), t = texts L ∧ e = .returned (.tuple #[.agg #[.bool qp, .int .i64 q0, .int .i64 q1, .bool qt, .bool ql, .int .i64 q2, .slice A L.length c], .int .i64 0]) ∧ OwnR W.heap.size w' (.slice A L.length c) L ∧ L.length ≤ c ∧ c ≤ 9223372036854775807 ∧ Below W.heap.size W w' := by
  refine (aread_any wd nb cb W h.len (by have := h.small; omega) h.room h.cap (src_later h.src hb) h.bytes).mono ?_
  rintro e w' ⟨g | g, hbl⟩
  · obtain ⟨d', h', L, A, c, e1, e2, rfl, ho, h1, h2⟩ := g
    obtain rfl : d = d' := by omega
    rw [hr] at e2
    simp only [Prod.mk.injEq, true_and] at e2
    obtain ⟨rfl, e3⟩ := e2
    exact ⟨L, A, c, e3, rfl, ho, h1, h2, hbl⟩
  · have := g.1 d hd
    rw [hr] at this
    exact absurd rfl this
theorem BackStA.bad (h : BackStA w B nb cb bs wd) (hr : ∀ d : Nat, wd = d → (amdRd bs d).1 ≠ 0) (W : World) (hb : Below w.heap.size w W) :
    Calls Try.prog 34 #[.slice B nb cb, .int .i64 wd] W fun e w' => ∃ er : Int, er ≠ 0 ∧ e = .returned (.tuple #[.agg #[.bool false, .int .i64 0, .int .i64 0, .bool false, .bool false, .int .i64 0, .slice none 0 0], .int .i64 er]) ∧ Below W.heap.size W w' := by
  refine (aread_any wd nb cb W h.len (by have := h.small; omega) h.room h.cap (src_later h.src hb) h.bytes).mono ?_
  rintro e w' ⟨g | g, hbl⟩
  · obtain ⟨d', h', L, A, c, e1, e2, rfl, ho, h1, h2⟩ := g
    have := hr d' e1
    rw [e2] at this
    exact absurd rfl this
  · obtain ⟨_, er, h0, rfl⟩ := g
    exact ⟨er, h0, rfl, hbl⟩
end
theorem lens_smallA {W : World} {A : Option Addr} {L : List RowB} (h : RSrc W A L) : ∀ m ∈ lens L, m ≤ 9223372036854775807 := by
  intro m hm
  obtain ⟨k, hk⟩ := List.getElem?_of_mem hm
  simp only [lens, List.getElem?_map, Option.map_eq_some_iff] at hk
  obtain ⟨r, hr, rfl⟩ := hk
  obtain ⟨ad, _, hc⟩ := h (by have := (List.getElem?_eq_some_iff.1 hr).1; omega)
  have h9 := (hc k r hr).2
  have := h9.2.1
  have := h9.2.2.1
  omega
theorem write_backA {W : World} {A : Option Addr} {L : List RowB} {bs : List Nat} {d : Nat} {qp qt ql : Bool} {q0 q1 q2 : Nat} (c : Nat) (hb : ∀ b ∈ bs, b < 256) (hr : amdRd bs d = (0, ⟨qp, qt, ql, q0, q1, q2⟩, texts L)) (hs : RSrc W A L) (hc : L.length ≤ c) (hcm : c ≤ 9223372036854775807) :
    (Calls Try.prog 40 #[.agg #[.bool qp, .int .i64 q0, .int .i64 q1, .bool qt, .bool ql, .int .i64 q2, .slice A L.length c], .int .i64 d] W fun e w' => ∃ v', e = .returned (.tuple #[v', .int .i64 0]) ∧ OwnY W.heap.size w' v' bs ∧ Below W.heap.size W w') ∧
    (Calls Try.prog 42 #[.agg #[.bool qp, .int .i64 q0, .int .i64 q1, .bool qt, .bool ql, .int .i64 q2, .slice A L.length c], .int .i64 d] W fun e w' => e = .returned (.bool true) ∧ Below W.heap.size W w') := by
  obtain ⟨h1, h2⟩ := amd_write hb hr
  have hm := lens_smallA hs
  have h1 : amdF qt ql q0 q1 q2 (lens L) d ≠ 0 := h1
  have h2 : amdBytes qp qt ql q0 q1 q2 L d = bs := h2
  constructor
  · have h3 := awrite_ok qp qt ql q0 q1 q2 d L.length c W rfl hc hcm hs hm h1
    rw [h2] at h3
    exact h3
  · have h3 := aright_any (A := A) qp qt ql q0 q1 q2 d L.length c W rfl (by omega) hs hm
    rw [decide_eq_true (show 0 < amdF qt ql q0 q1 q2 (lens L) d by have := amdF_nonneg qt ql q0 q1 q2 (lens L) d; omega)] at h3
    exact h3
theorem write_noneA (W : World) (wd : Int) : Calls Try.prog 40 #[.agg #[.bool false, .int .i64 0, .int .i64 0, .bool false, .bool false, .int .i64 0, .slice none 0 0], .int .i64 wd] W fun e w' => ∃ er : Int, e = .returned (.tuple #[.slice none 0 0, .int .i64 er]) ∧ Below W.heap.size W w' := by
  refine (awrite_bad (A := none) (L := []) false false false 0 0 0 wd 0 0 W rfl (by omega) (fun h => absurd h (by simp)) (fun m hm => by cases hm) ?_).mono ?_
  · unfold amdF
    split
    · unfold fieldsF
      rw [if_neg (fun h => by have := h.1; simp [lens] at this)]
    · rfl
  · rintro e w' ⟨rfl, hb⟩
    exact ⟨_, rfl, hb⟩

end Go.Proofs.Ytgdpjaojlhdhdaa
namespace Go.Proofs.Ytgdpjaojlhdhdaa
open Go.RowKit


theorem amd_small {W : World} {A : Option Addr} {L : List RowB} (h : RSrc W A L) (poll part last : Bool) (fi sn off wd : Nat) : ∀ b ∈ amdBytes poll part last fi sn off L wd, b < 256 := by
  intro b hb
  unfold amdBytes at hb
  rw [List.mem_append, List.mem_append] at hb
  rcases hb with (hb | hb) | hb
  · exact pack_small _ b hb
  · exact tail_small _ _ b hb
  · unfold flat texts at hb
    rw [List.mem_flatten] at hb
    obtain ⟨l, hl, hb⟩ := hb
    rw [List.mem_map] at hl
    obtain ⟨r, hr, rfl⟩ := hl
    obtain ⟨k, hk⟩ := List.getElem?_of_mem hr
    obtain ⟨ad, _, hc⟩ := h (by have := (List.getElem?_eq_some_iff.1 hk).1; omega)
    exact (hc k r hk).2.2.2.2 b hb

theorem rd_backA {W w : World} {A A1 : Option Addr} {n1 c1 BB a b' off d : Nat} {poll part last : Bool} {L : List RowB} (ho : OwnY BB W (.slice A1 n1 c1) (amdBytes poll part last a b' off L d)) (hn1 : (amdBytes poll part last a b' off L d).length = n1) (hs : RSrc w A L) (hw : amdF part last a b' off (lens L) d ≠ 0) :
    Calls Try.prog 34 #[.slice A1 n1 c1, .int .i64 d] W fun e w' => ∃ (M : List RowB) (A : Option Addr) (c : Nat), texts L = texts M ∧ e = .returned (.tuple #[.agg #[.bool poll, .int .i64 a, .int .i64 b', .bool part, .bool last, .int .i64 off, .slice A M.length c], .int .i64 0]) ∧ OwnR W.heap.size w' (.slice A M.length c) M ∧ M.length ≤ c ∧ c ≤ 9223372036854775807 ∧ Below W.heap.size W w' := by
  obtain ⟨A', c', e, g1, g2⟩ := ho.form
  injection e with e1 e2 e3
  subst e1
  subst e3
  unfold maxLen at g2
  have hlen := amd_len (poll := poll) hw
  have hbig := amdF_big part last a b' off (lens L) d
  have hst : BackStA W A1 n1 c1 (amdBytes poll part last a b' off L d) d := ⟨hn1, by omega, by omega, by omega, ho.src, amd_small hs poll part last a b' off d⟩
  exact hst.good rfl (amd_back hw) W (Below.refl _ _)

end Go.Proofs.Ytgdpjaojlhdhdaa
