/-
  What umd answers to fixed calls. What amd answers to fixed calls. Are fields too much for a statement?. Whether two packets of amd are equal, as the code and the document say. AmdBack: packets go there and back: what its calls answer. AmdBack: packets go there and back, in one way alone; what is read may be: the law walked.
-/
import Derived.Test.YtolinlnnbdjimaaJAmdBack09
import Derived.Test.YtolinlnnbdjimaaJAmdBack17
import Derived.Test.YtolinlnnbdjimaaJAmdBack16
import Derived.Test.YtolinlnnbdjimaaJAmdBack07
namespace Go.Proofs.Ytolinlnnbdjimaa
open Go.RowKit


theorem row1 (w : World) (o : Obj) (t : TypeId) (cs : Array Value) : Row ((w.alloc o).alloc (.cells cs t)) (w.heap.size + 1) t cs := by
  have h := Row.made (w.alloc o) t cs
  have e : (w.alloc o).heap.size = w.heap.size + 1 := by simp
  rw [e] at h
  exact h
theorem row2 (w : World) (o o' : Obj) (t : TypeId) (cs : Array Value) : Row (((w.alloc o).alloc o').alloc (.cells cs t)) (w.heap.size + 1 + 1) t cs := by
  have h := Row.made ((w.alloc o).alloc o') t cs
  have e : ((w.alloc o).alloc o').heap.size = w.heap.size + 1 + 1 := by simp
  rw [e] at h
  exact h
theorem ok_of_row {w : World} {g : Nat} {l : List Nat} (h : Row w g 5 (bts l).toArray) (hb : ∀ b ∈ l, b < 256) (hl : l.length ≤ 9223372036854775807) : RowB.ok w ⟨some ⟨g, 0, none⟩, l.length, l⟩ := ⟨row_src h, Nat.le_refl _, hl, hb⟩
theorem rsrc_of {w : World} {g : Nat} {L : List RowB} (h : Row w g 37 (L.map RowB.v).toArray) (hok : ∀ r ∈ L, r.ok w) : RSrc w (some ⟨g, 0, none⟩) L := fun _ => ⟨_, rfl, fun k r hr => ⟨by
  rw [add_zero_addr]
  exact h.read (by rw [List.getElem?_toArray, List.getElem?_map, hr]; rfl), hok r (List.mem_of_getElem? hr)⟩⟩
theorem al1 {W : World} {g1 g2 : Nat} (h1 : Row W g1 5 #[.int .u8 65]) (h2 : Row W g2 37 #[.slice (some ⟨g1, 0, none⟩) 1 1]) :
    Calls Try.prog 133 #[.agg #[.int .i64 0, .int .i64 3, .slice (some ⟨g2, 0, none⟩) 1 1], .int .i64 5] W fun e w' => ∃ v', e = .returned (.tuple #[v', .int .i64 0]) ∧ OwnY W.heap.size w' v' [3, 65] ∧ Below W.heap.size W w' := by
  have hs : RSrc W (some ⟨g2, 0, none⟩) [⟨some ⟨g1, 0, none⟩, 1, [65]⟩] := rsrc_of h2 (fun r hr => by
    rw [List.mem_singleton] at hr
    subst hr
    exact ok_of_row (l := [65]) h1 (by decide) (by decide))
  have h := uwrite_ok 0 3 5 1 1 W rfl (by omega) (by omega) hs (by show ∀ m ∈ [1], m ≤ 9223372036854775807; decide) (by show umdF 0 3 [1] 5 ≠ 0; decide +kernel)
  rw [show umdBytes 0 3 [⟨some ⟨g1, 0, none⟩, 1, [65]⟩] 5 = [3, 65] from by
    have e : tailF (lens [⟨some ⟨g1, 0, none⟩, 1, [65]⟩]) 11 = [] := by
      show tailF [1] 11 = _
      decide +kernel
    unfold umdBytes
    rw [e, show pack (headB 0 3 (decide (1 < [(⟨some ⟨g1, 0, none⟩, 1, [65]⟩ : RowB)].length)) 5) = [3] from by
      show pack (headB 0 3 false 5) = _
      decide +kernel]
    rfl] at h
  exact h
theorem al2 {W : World} {g1 g2 g3 : Nat} (h1 : Row W g1 5 #[.int .u8 1, .int .u8 2]) (h2 : Row W g2 5 #[.int .u8 3]) (h3 : Row W g3 37 #[.slice (some ⟨g1, 0, none⟩) 2 2, .slice (some ⟨g2, 0, none⟩) 1 1]) :
    Calls Try.prog 133 #[.agg #[.int .i64 3, .int .i64 700, .slice (some ⟨g3, 0, none⟩) 2 2], .int .i64 10] W fun e w' => ∃ v', e = .returned (.tuple #[v', .int .i64 0]) ∧ OwnY W.heap.size w' v' [30, 188, 0, 32, 1, 2, 3] ∧ Below W.heap.size W w' := by
  have hs : RSrc W (some ⟨g3, 0, none⟩) [⟨some ⟨g1, 0, none⟩, 2, [1, 2]⟩, ⟨some ⟨g2, 0, none⟩, 1, [3]⟩] := rsrc_of h3 (fun r hr => by
    rw [List.mem_cons, List.mem_singleton] at hr
    rcases hr with rfl | rfl
    · exact ok_of_row (l := [1, 2]) h1 (by decide) (by decide)
    · exact ok_of_row (l := [3]) h2 (by decide) (by decide))
  have h := uwrite_ok 3 700 10 2 2 W rfl (by omega) (by omega) hs (by show ∀ m ∈ [2, 1], m ≤ 9223372036854775807; decide) (by show umdF 3 700 [2, 1] 10 ≠ 0; decide +kernel)
  rw [show umdBytes 3 700 [⟨some ⟨g1, 0, none⟩, 2, [1, 2]⟩, ⟨some ⟨g2, 0, none⟩, 1, [3]⟩] 10 = [30, 188, 0, 32, 1, 2, 3] from by
    have e : tailF (lens [⟨some ⟨g1, 0, none⟩, 2, [1, 2]⟩, ⟨some ⟨g2, 0, none⟩, 1, [3]⟩]) 11 = [0, 32] := by
      show tailF [2, 1] 11 = _
      decide +kernel
    unfold umdBytes
    rw [e, show pack (headB 3 700 (decide (1 < [(⟨some ⟨g1, 0, none⟩, 2, [1, 2]⟩ : RowB), ⟨some ⟨g2, 0, none⟩, 1, [3]⟩].length)) 10) = [30, 188] from by
      show pack (headB 3 700 true 10) = _
      decide +kernel]
    rfl] at h
  exact h
theorem al3 {W : World} {A : Option Addr} {c : Nat} (h : OwnY W.heap.size W (.slice A 7 c) [30, 188, 0, 32, 1, 2, 3] ∨ ∃ B, OwnY B W (.slice A 7 c) [30, 188, 0, 32, 1, 2, 3]) :
    Calls Try.prog 63 #[.slice A 7 c, .int .i64 10] W fun e w' => ∃ A' c', e = .returned (.tuple #[.agg #[.int .i64 3, .int .i64 700, .slice A' 2 c'], .int .i64 0]) ∧ Below W.heap.size W w' := by
  obtain ⟨B, hB⟩ : ∃ B, OwnY B W (.slice A 7 c) [30, 188, 0, 32, 1, 2, 3] := by
    rcases h with h | h
    · exact ⟨_, h⟩
    · exact h
  obtain ⟨A2, c2, e, h1, h2⟩ := hB.form
  injection e with e1 e2 e3
  subst e1 e3
  unfold maxLen at h2
  have hx : umdRd [30, 188, 0, 32, 1, 2, 3] 10 = (0, 3, 700, [[1, 2], [3]]) := by decide +kernel
  refine (uread_10 (bs := [30, 188, 0, 32, 1, 2, 3]) 7 c W rfl (by omega) h1 (by omega) hB.src (by decide)).mono ?_
  rintro e w' ⟨h3 | h3, h4⟩
  · rw [hx] at h3
    obtain ⟨_, v, L, h5, rfl, ho⟩ := h3
    have hL : L.length = 2 := by have := congrArg List.length h5; rw [length_texts] at this; exact this.symm
    obtain ⟨Av, cv, rfl, _⟩ := ho.form
    rw [hL]
    exact ⟨Av, cv, rfl, h4⟩
  · rw [hx] at h3
    exact absurd rfl h3.1
theorem al4 {W : World} {g : Nat} (h : Row W g 5 #[.int .u8 3]) :
    Calls Try.prog 63 #[.slice (some ⟨g, 0, none⟩) 1 1, .int .i64 5] W fun e w' => e = .returned (.tuple #[.agg #[.int .i64 0, .int .i64 0, .slice none 0 0], .int .i64 8]) ∧ Below W.heap.size W w' := by
  have hx : umdRd [3] 5 = (8, 0, 0, []) := by decide +kernel
  refine (uread_5 (bs := [3]) 1 1 W rfl (by omega) (by omega) (by omega) (row_src (xs := bts [3]) h) (by decide)).mono ?_
  rintro e w' ⟨h3 | h3, h4⟩
  · rw [hx] at h3
    exact absurd h3.1 (by decide)
  · rw [hx] at h3
    exact ⟨h3.2, h4⟩
theorem al5 {W : World} {g1 g2 : Nat} (h1 : Row W g1 5 #[.int .u8 1]) (h2 : Row W g2 37 #[.slice (some ⟨g1, 0, none⟩) 1 1]) :
    Calls Try.prog 133 #[.agg #[.int .i64 0, .int .i64 32, .slice (some ⟨g2, 0, none⟩) 1 1], .int .i64 5] W fun e w' => e = .returned (.tuple #[.slice none 0 0, .int .i64 3]) ∧ Below W.heap.size W w' := by
  have hs : RSrc W (some ⟨g2, 0, none⟩) [⟨some ⟨g1, 0, none⟩, 1, [1]⟩] := rsrc_of h2 (fun r hr => by
    rw [List.mem_singleton] at hr
    subst hr
    exact ok_of_row (l := [1]) h1 (by decide) (by decide))
  have h := uwrite_bad 0 32 5 1 1 W rfl (by omega) hs (by show ∀ m ∈ [1], m ≤ 9223372036854775807; decide) (by show umdF 0 32 [1] 5 = 0; decide +kernel)
  exact h

end Go.Proofs.Ytolinlnnbdjimaa
namespace Go.Proofs.Ytolinlnnbdjimaa
open Go.RowKit

theorem aal1 {W : World} {g1 g2 : Nat} (h1 : Row W g1 5 #[.int .u8 65]) (h2 : Row W g2 37 #[.slice (some ⟨g1, 0, none⟩) 1 1]) :
    Calls Try.prog 23 #[.agg #[.bool false, .int .i64 0, .int .i64 5, .bool false, .bool false, .int .i64 0, .slice (some ⟨g2, 0, none⟩) 1 1], .int .i64 10] W fun e w' => ∃ v', e = .returned (.tuple #[v', .int .i64 0]) ∧ OwnY W.heap.size w' v' [128, 5, 65] ∧ Below W.heap.size W w' := by
  have hs : RSrc W (some ⟨g2, 0, none⟩) [⟨some ⟨g1, 0, none⟩, 1, [65]⟩] := rsrc_of h2 (fun r hr => by
    rw [List.mem_singleton] at hr
    subst hr
    exact ok_of_row (l := [65]) h1 (by decide) (by decide))
  have h := awrite_ok false false false 0 5 0 10 1 1 W rfl (by omega) (by omega) hs (by show ∀ m ∈ [1], m ≤ 9223372036854775807; decide) (by show amdF false false 0 5 0 [1] 10 ≠ 0; decide +kernel)
  rw [show amdBytes false false false 0 5 0 [⟨some ⟨g1, 0, none⟩, 1, [65]⟩] 10 = [128, 5, 65] from by
    have e : tailF (lens [⟨some ⟨g1, 0, none⟩, 1, [65]⟩]) (lwNA 10) = [] := by
      show tailF [1] 11 = _
      decide +kernel
    unfold amdBytes
    rw [e, show pack (bitsP (putsA false false false 0 5 0 (decide (1 < [(⟨some ⟨g1, 0, none⟩, 1, [65]⟩ : RowB)].length)) 10)) = [128, 5] from by
      show pack (bitsP (putsA false false false 0 5 0 false 10)) = _
      decide +kernel]
    rfl] at h
  exact h
theorem aal2 {W : World} {g1 g2 g3 : Nat} (h1 : Row W g1 5 #[.int .u8 1, .int .u8 2]) (h2 : Row W g2 5 #[.int .u8 3]) (h3 : Row W g3 37 #[.slice (some ⟨g1, 0, none⟩) 2 2, .slice (some ⟨g2, 0, none⟩) 1 1]) :
    Calls Try.prog 23 #[.agg #[.bool true, .int .i64 1, .int .i64 300, .bool true, .bool true, .int .i64 7, .slice (some ⟨g3, 0, none⟩) 2 2], .int .i64 16] W fun e w' => ∃ v', e = .returned (.tuple #[v', .int .i64 0]) ∧ OwnY W.heap.size w' v' [238, 1, 44, 0, 7, 0, 2, 1, 2, 3] ∧ Below W.heap.size W w' := by
  have hs : RSrc W (some ⟨g3, 0, none⟩) [⟨some ⟨g1, 0, none⟩, 2, [1, 2]⟩, ⟨some ⟨g2, 0, none⟩, 1, [3]⟩] := rsrc_of h3 (fun r hr => by
    rw [List.mem_cons, List.mem_singleton] at hr
    rcases hr with rfl | rfl
    · exact ok_of_row (l := [1, 2]) h1 (by decide) (by decide)
    · exact ok_of_row (l := [3]) h2 (by decide) (by decide))
  have h := awrite_ok true true true 1 300 7 16 2 2 W rfl (by omega) (by omega) hs (by show ∀ m ∈ [2, 1], m ≤ 9223372036854775807; decide) (by show amdF true true 1 300 7 [2, 1] 16 ≠ 0; decide +kernel)
  rw [show amdBytes true true true 1 300 7 [⟨some ⟨g1, 0, none⟩, 2, [1, 2]⟩, ⟨some ⟨g2, 0, none⟩, 1, [3]⟩] 16 = [238, 1, 44, 0, 7, 0, 2, 1, 2, 3] from by
    have e : tailF (lens [⟨some ⟨g1, 0, none⟩, 2, [1, 2]⟩, ⟨some ⟨g2, 0, none⟩, 1, [3]⟩]) (lwNA 16) = [0, 2] := by
      show tailF [2, 1] 15 = _
      decide +kernel
    unfold amdBytes
    rw [e, show pack (bitsP (putsA true true true 1 300 7 (decide (1 < [(⟨some ⟨g1, 0, none⟩, 2, [1, 2]⟩ : RowB), ⟨some ⟨g2, 0, none⟩, 1, [3]⟩].length)) 16)) = [238, 1, 44, 0, 7] from by
      show pack (bitsP (putsA true true true 1 300 7 true 16)) = _
      decide +kernel]
    rfl] at h
  exact h
theorem aal3 {W : World} {A : Option Addr} {c : Nat} (h : ∃ B, OwnY B W (.slice A 10 c) [238, 1, 44, 0, 7, 0, 2, 1, 2, 3]) :
    Calls Try.prog 33 #[.slice A 10 c, .int .i64 16] W fun e w' => ∃ A' c', e = .returned (.tuple #[.agg #[.bool true, .int .i64 1, .int .i64 300, .bool true, .bool true, .int .i64 7, .slice A' 2 c'], .int .i64 0]) ∧ Below W.heap.size W w' := by
  obtain ⟨B, hB⟩ := h
  obtain ⟨A2, c2, e, h1, h2⟩ := hB.form
  injection e with e1 e2 e3
  subst e1 e3
  unfold maxLen at h2
  have hx : amdRd [238, 1, 44, 0, 7, 0, 2, 1, 2, 3] 16 = (0, ⟨true, true, true, 1, 300, 7⟩, [[1, 2], [3]]) := by kernel_rfl
  refine (aread_yes (bs := [238, 1, 44, 0, 7, 0, 2, 1, 2, 3]) 16 10 c W (.inr rfl) rfl (by omega) h1 (by omega) hB.src (by decide)).mono ?_
  rintro e w' ⟨h3 | h3, h4⟩
  · rw [hx] at h3
    obtain ⟨_, v, L, h5, rfl, ho⟩ := h3
    have hL : L.length = 2 := by have := congrArg List.length h5; rw [length_texts] at this; exact this.symm
    obtain ⟨Av, cv, rfl, _⟩ := ho.form
    rw [hL]
    exact ⟨Av, cv, rfl, h4⟩
  · rw [hx] at h3
    exact absurd rfl h3.1
theorem aal4 {W : World} {g : Nat} (h : Row W g 5 #[.int .u8 0]) :
    Calls Try.prog 33 #[.slice (some ⟨g, 0, none⟩) 1 1, .int .i64 10] W fun e w' => e = .returned (.tuple #[.agg #[.bool false, .int .i64 0, .int .i64 0, .bool false, .bool false, .int .i64 0, .slice none 0 0], .int .i64 4]) ∧ Below W.heap.size W w' := by
  have hx : amdRd [0] 10 = (4, hd0, []) := by kernel_rfl
  refine (aread_yes (bs := [0]) 10 1 1 W (.inl rfl) rfl (by omega) (by omega) (by omega) (row_src (xs := bts [0]) h) (by decide)).mono ?_
  rintro e w' ⟨h3 | h3, h4⟩
  · rw [hx] at h3
    exact absurd h3.1 (by decide)
  · rw [hx] at h3
    exact ⟨h3.2, h4⟩
theorem aal5 {W : World} {g1 g2 : Nat} (h1 : Row W g1 5 #[.int .u8 1]) (h2 : Row W g2 37 #[.slice (some ⟨g1, 0, none⟩) 1 1]) :
    Calls Try.prog 23 #[.agg #[.bool false, .int .i64 0, .int .i64 0, .bool false, .bool false, .int .i64 1, .slice (some ⟨g2, 0, none⟩) 1 1], .int .i64 10] W fun e w' => e = .returned (.tuple #[.slice none 0 0, .int .i64 3]) ∧ Below W.heap.size W w' := by
  have hs : RSrc W (some ⟨g2, 0, none⟩) [⟨some ⟨g1, 0, none⟩, 1, [1]⟩] := rsrc_of h2 (fun r hr => by
    rw [List.mem_singleton] at hr
    subst hr
    exact ok_of_row (l := [1]) h1 (by decide) (by decide))
  have h := awrite_bad false false false 0 0 1 10 1 1 W rfl (by omega) hs (by show ∀ m ∈ [1], m ≤ 9223372036854775807; decide) (by show amdF false false 0 0 1 [1] 10 = 0; decide +kernel)
  exact h
set_option maxRecDepth 100000 in
set_option maxHeartbeats 3200000 in
theorem aalive_any (w : World) : Calls Try.prog 20 #[] w fun e w' => e = .returned (.bool true) ∧ Below w.heap.size w w' := by
  go_enter Try.func20, Try.ntmps20
  go_wp2_with (first
    | (go_at_call 23; (with_reducible refine (aal1 (g1 := w.heap.size) ?x1 ?x2).mono ?_); rotate_left 2; rintro e w1 ⟨v1, rfl, ho1, hb1⟩; obtain ⟨A1, c1, hv1, _⟩ := ho1.form; simp only [List.length_cons, List.length_nil, Nat.zero_add, Nat.reduceAdd] at hv1; subst hv1; (have HO1 := Lib.hid ho1; have HB1 := Lib.hid (bl_step (bl_alloc (bl_alloc (Below.refl w.heap.size w) _) _) hb1); clear ho1 hb1))
    | (go_at_call 23; (with_reducible refine (aal2 (g1 := w1.heap.size) (g2 := w1.heap.size + 1) ?y1 ?y2 ?y3).mono ?_); rotate_left 3; rintro e w2 ⟨v2, rfl, ho2, hb2⟩; obtain ⟨A2, c2, hv2, _⟩ := ho2.form; simp only [List.length_cons, List.length_nil, Nat.zero_add, Nat.reduceAdd] at hv2; subst hv2; (have HO2 := Lib.hid ho2; have HBS2 := Lib.hid (bl_step (bl_alloc (bl_alloc (bl_alloc (Below.refl w1.heap.size w1) _) _) _) hb2); clear ho2 hb2))
    | (go_at_call 33; (with_reducible refine (aal3 ⟨_, HO2.out⟩).mono ?_); rintro e w3 ⟨A3, c3, rfl, hb3⟩; have HB3 := Lib.hid hb3; clear hb3)
    | (go_at_call 33; (with_reducible refine (aal4 ?z1).mono ?_); rotate_left 1; rintro e w4 ⟨rfl, hb4⟩; (have HBS4 := Lib.hid (bl_step (bl_alloc (bl_alloc (Below.refl w3.heap.size w3) _) _) hb4); have RP := Lib.hid (((Row.made w3 32 #[.bool true, .int .i64 1, .int .i64 300, .bool true, .bool true, .int .i64 7, .slice A3 2 c3]).more _).later hb4); clear hb4))
    | (go_at_call 23; (with_reducible refine (aal5 (g1 := w4.heap.size + 1) ?u1 ?u2).mono ?_); rotate_left 2; rintro e w5 ⟨rfl, hb5⟩
       have hb59 := bl_step (bl_alloc (bl_alloc (bl_alloc (Below.refl w4.heap.size w4) _) _) _) hb5
       have HB59 := Lib.hid hb59
       have cv1 : (convert 37 9 (.slice A1 3 c1)).run Try.prog w5 = .ok (.string ⟨#[128, 5, 65]⟩) w5 := (((((HO1.out.later HBS2.out).later HB3.out).later HBS4.out).later hb59)).conv (by decide)
       have cv2 : (convert 37 9 (.slice A2 10 c2)).run Try.prog w5 = .ok (.string ⟨#[238, 1, 44, 0, 7, 0, 2, 1, 2, 3]⟩) w5 := (((HO2.out.later HB3.out).later HBS4.out).later hb59).conv (by decide)
       have rp := RP.out.later hb59
       have p0 : w5.cell? ⟨w3.heap.size, 0, none⟩ = some (.bool true) := rp.read rfl
       have p4 : w5.cell? ⟨w3.heap.size, 4, none⟩ = some (.bool true) := rp.read rfl
       have p5 : w5.cell? ⟨w3.heap.size, 5, none⟩ = some (.int .i64 7) := rp.read rfl
       clear hb5 hb59 rp))
  · go_ret
    exact ⟨rfl, bl_step' (bl_step' (bl_step' (bl_step' HB1.out (HBS2.out.mono HB1.out.size)) (HB3.out.mono (Nat.le_trans HB1.out.size HBS2.out.size))) (HBS4.out.mono (Nat.le_trans (Nat.le_trans HB1.out.size HBS2.out.size) HB3.out.size))) (HB59.out.mono (Nat.le_trans (Nat.le_trans (Nat.le_trans HB1.out.size HBS2.out.size) HB3.out.size) HBS4.out.size))⟩
  all_goals first | exact Row.made _ _ _ | exact (Row.made _ _ _).more _ | exact ((Row.made _ _ _).more _).more _ | exact row1 _ _ _ _ | exact (row1 _ _ _ _).more _ | exact row2 _ _ _ _ _
end Go.Proofs.Ytolinlnnbdjimaa
namespace Go.Proofs.Ytolinlnnbdjimaa
open Go.RowKit


/-- what it answers: at least a bound, where it says no -/
def GreatAns (n q : Nat) (w : World) (e : Ending) (w' : World) : Prop := (∃ b, e = .returned (.bool b) ∧ (b = false → n ≤ 40 ∧ q ≤ 9000)) ∧ w = w'
set_option maxRecDepth 100000 in
set_option maxHeartbeats 1600000 in
theorem great_any {A : Option Addr} {L : List RowB} (n cap : Nat) (w : World) (hL : L.length = n) (hn : n ≤ 9223372036854775807) (hs : RSrc w A L) (hm : ∀ m ∈ lens L, m ≤ 9223372036854775807) :
    Calls Try.prog 19 #[.slice A n cap] w (GreatAns n (lens L).sum w) := by
  have HS := Lib.hid hs
  have HL := Lib.hid hL
  have HM := Lib.hid hm
  clear hs hL hm
  go_enter Try.func19, Try.ntmps19
  go_wp2
  go_loopw [3, 4] (fun s i wr => ∃ k q : Nat, k ≤ n ∧ q ≤ 4200 * 41 ∧ i = .int .i64 k ∧ s = .int .i64 q ∧ Hid (q = sumTo (lens L) k ∧ q ≤ 4200 * k ∧ (0 < k → n ≤ 40)) ∧ w = wr) (fun _ i _ => n - (intOf i).toNat)
  case atStart => exact ⟨0, 0, by omega, by omega, rfl, rfl, Lib.hid ⟨by rw [sumTo_zero], by omega, by omega⟩, rfl⟩
  case round =>
    obtain ⟨k, q, hk, hq, rfl, rfl, HK, rfl⟩ := hrel
    by_cases hlt : k < n
    · obtain ⟨ad, rfl, hc⟩ := HS.out (by rw [HL.out]; omega)
      obtain ⟨r, hr⟩ : ∃ r, L[k]? = some r := ⟨_, List.getElem?_eq_getElem (by rw [HL.out]; exact hlt)⟩
      have hcell : w.cell? (ad.add k) = some (.slice r.A r.bs.length r.cap) := (hc k r hr).1
      have HSU := Lib.hid (sumTo_succ (lens_at hr))
      have hlm := HM.out _ (List.mem_of_getElem? (lens_at hr))
      clear hc hr
      generalize r.bs.length = len at *
      by_cases h40 : 40 < n
      · have h40' : (40 : Int) < n := by omega
        go_wp2
        go_ret
        exact ⟨⟨true, rfl, fun h => by cases h⟩, rfl⟩
      · have h40' : ¬ (40 : Int) < n := by omega
        by_cases h42 : 4200 < len
        · have h42' : (4200 : Int) < len := by omega
          go_wp2
          go_ret
          exact ⟨⟨true, rfl, fun h => by cases h⟩, rfl⟩
        · have h42' : ¬ (4200 : Int) < len := by omega
          have hb : q ≤ 4200 * k := HK.out.2.1
          go_wp2
          go_roundw
          case rel => exact ⟨k + 1, q + len, by omega, by omega, by go_num, by go_num, Lib.hid ⟨by rw [HSU.out, HK.out.1], by omega, fun _ => by omega⟩, trivial⟩
          case measure => simp [intOf]; omega
    · have hkn : k = n := by omega
      go_wp2
      go_ret
      refine ⟨⟨_, rfl, fun h => ?_⟩, rfl⟩
      have h2 : ¬ (9000 : Int) < q := by simpa using h
      have h9 := HK.out.1
      rw [hkn, show n = (lens L).length by rw [length_lens, HL.out], sumTo_all] at h9
      refine ⟨?_, by omega⟩
      rcases Nat.eq_zero_or_pos k with h0 | h0
      · omega
      · exact HK.out.2.2 h0
end Go.Proofs.Ytolinlnnbdjimaa
namespace Go.Proofs.Ytolinlnnbdjimaa
open Go.RowKit

theorem Try.inforef10 : (Try.prog.info? 35).map (·.size) = some 7 := by kernel_rfl
theorem Try.underref10 : (Try.prog.underlying 35).map (fun d => match d with | .struct _ => true | _ => false) = some true := by kernel_rfl
theorem underref10_parts : ∃ fs, Try.prog.underlying 35 = some (.struct fs) := by
  obtain ⟨d, hd, h⟩ := Option.map_eq_some_iff.1 Try.underref10
  cases d with
  | struct fs => exact ⟨fs, hd⟩
  | _ => simp at h
set_option maxRecDepth 100000 in
set_option maxHeartbeats 1600000 in
theorem aas_any (poll part last : Bool) (fi sn off : Int) (A : Option Addr) (n cap : Nat) (w : World) :
    Calls Try.prog 22 #[.agg #[.bool poll, .int .i64 fi, .int .i64 sn, .bool part, .bool last, .int .i64 off, .slice A n cap]] w fun e w' => e = .returned (.agg #[.bool poll, .int .i64 fi, .int .i64 sn, .bool part, .bool last, .int .i64 off, .slice A n cap]) ∧ Below w.heap.size w w' := by
  go_enter Try.func22, Try.ntmps22
  go_wp2
  refine bodyPost_ret (v := .agg #[.bool poll, .int .i64 fi, .int .i64 sn, .bool part, .bool last, .int .i64 off, .slice A n cap]) (by simp [results, Try.results22, go_sem]) rfl ⟨rfl, ?_⟩
  exact bl_alloc (bl_alloc (Below.refl _ _) _) _
/-- all fields equal -/
def eqA (poll part last : Bool) (fi sn off : Int) (poll' part' last' : Bool) (fi' sn' off' : Int) (t t' : List (List Nat)) : Bool := (poll == poll') && (fi == fi') && (sn == sn') && (part == part') && (last == last') && (off == off') && decide (t = t')
theorem eqA_self (poll part last : Bool) (fi sn off : Int) (t : List (List Nat)) : eqA poll part last fi sn off poll part last fi sn off t t = true := by simp [eqA]
set_option maxRecDepth 100000 in
set_option maxHeartbeats 1600000 in
theorem rasame_any {A B : Option Addr} {L M : List RowB} (poll part last : Bool) (fi sn off : Int) (poll' part' last' : Bool) (fi' sn' off' : Int) (n m cap capb : Nat) (w : World) (hL : L.length = n) (hM : M.length = m) (hn : n ≤ 9223372036854775807) (hs : RSrc w A L) (hs' : RSrc w B M) :
    Calls Try.prog 27 #[.agg #[.bool poll, .int .i64 fi, .int .i64 sn, .bool part, .bool last, .int .i64 off, .slice A n cap], .agg #[.bool poll', .int .i64 fi', .int .i64 sn', .bool part', .bool last', .int .i64 off', .slice B m capb]] w (SameAns (eqA poll part last fi sn off poll' part' last' fi' sn' off' (texts L) (texts M)) w) := by
  have HF := Lib.hid (fun W (hb : Below w.heap.size w W) => samef_any (A := A) (B := B) n m cap capb W hL hM hn (hs.later hb) (hs'.later hb))
  have HE := Lib.hid (show eqA poll part last fi sn off poll' part' last' fi' sn' off' (texts L) (texts M) = ((poll == poll') && (fi == fi') && (sn == sn') && (part == part') && (last == last') && (off == off') && decide (texts L = texts M)) from rfl)
  generalize eqA poll part last fi sn off poll' part' last' fi' sn' off' (texts L) (texts M) = q at *
  generalize decide (texts L = texts M) = q2 at *
  clear hL hM hs hs'
  cases h1 : (poll == poll')
  · have HQ := Lib.hid (show q = false by rw [HE.out, h1]; simp)
    go_enter Try.func27, Try.ntmps27
    go_wp2
    go_ret
    exact ⟨by rw [HQ.out]; rfl, bl_alloc (bl_alloc (Below.refl _ _) _) _⟩
  · skip
    cases h2 : (fi == fi')
    · have HQ := Lib.hid (show q = false by rw [HE.out, h1, h2]; simp)
      go_enter Try.func27, Try.ntmps27
      go_wp2
      go_ret
      exact ⟨by rw [HQ.out]; rfl, bl_alloc (bl_alloc (Below.refl _ _) _) _⟩
    · skip
      cases h3 : (sn == sn')
      · have HQ := Lib.hid (show q = false by rw [HE.out, h1, h2, h3]; simp)
        go_enter Try.func27, Try.ntmps27
        go_wp2
        go_ret
        exact ⟨by rw [HQ.out]; rfl, bl_alloc (bl_alloc (Below.refl _ _) _) _⟩
      · skip
        cases h4 : (part == part')
        · have HQ := Lib.hid (show q = false by rw [HE.out, h1, h2, h3, h4]; simp)
          go_enter Try.func27, Try.ntmps27
          go_wp2
          go_ret
          exact ⟨by rw [HQ.out]; rfl, bl_alloc (bl_alloc (Below.refl _ _) _) _⟩
        · skip
          cases h5 : (last == last')
          · have HQ := Lib.hid (show q = false by rw [HE.out, h1, h2, h3, h4, h5]; simp)
            go_enter Try.func27, Try.ntmps27
            go_wp2
            go_ret
            exact ⟨by rw [HQ.out]; rfl, bl_alloc (bl_alloc (Below.refl _ _) _) _⟩
          · skip
            cases h6 : (off == off')
            · have HQ := Lib.hid (show q = false by rw [HE.out, h1, h2, h3, h4, h5, h6]; simp)
              go_enter Try.func27, Try.ntmps27
              go_wp2
              go_ret
              exact ⟨by rw [HQ.out]; rfl, bl_alloc (bl_alloc (Below.refl _ _) _) _⟩
            · skip
              have HQ := Lib.hid (show q = q2 by rw [HE.out, h1, h2, h3, h4, h5, h6]; cases q2 <;> rfl)
              go_enter Try.func27, Try.ntmps27
              go_wp2_with (go_at_call 82; refine (HF.out _ (bl_alloc (bl_alloc (Below.refl _ _) _) _)).mono ?_; rintro e w1 ⟨rfl, hb1⟩)
              go_ret
              exact ⟨by rw [HQ.out]; rfl, bl_step (bl_alloc (bl_alloc (Below.refl _ _) _) _) hb1⟩
set_option maxRecDepth 100000 in
set_option maxHeartbeats 1600000 in
theorem asame_any {A B : Option Addr} {L M : List RowB} (poll part last : Bool) (fi sn off : Int) (poll' part' last' : Bool) (fi' sn' off' : Int) (n m cap capb : Nat) (w : World) (hL : L.length = n) (hM : M.length = m) (hn : n ≤ 9223372036854775807) (hs : RSrc w A L) (hs' : RSrc w B M) :
    Calls Try.prog 26 #[.agg #[.bool poll, .int .i64 fi, .int .i64 sn, .bool part, .bool last, .int .i64 off, .slice A n cap], .agg #[.bool poll', .int .i64 fi', .int .i64 sn', .bool part', .bool last', .int .i64 off', .slice B m capb]] w (SameAns (eqA poll part last fi sn off poll' part' last' fi' sn' off' (texts L) (texts M)) w) := by
  have HF := Lib.hid (fun W (hb : Below w.heap.size w W) => fsame_any (A := A) (B := B) n m cap capb W hL hM hn (hs.later hb) (hs'.later hb))
  have HE := Lib.hid (show eqA poll part last fi sn off poll' part' last' fi' sn' off' (texts L) (texts M) = ((poll == poll') && (fi == fi') && (sn == sn') && (part == part') && (last == last') && (off == off') && decide (texts L = texts M)) from rfl)
  generalize eqA poll part last fi sn off poll' part' last' fi' sn' off' (texts L) (texts M) = q at *
  generalize decide (texts L = texts M) = q2 at *
  clear hL hM hs hs'
  cases h1 : (poll == poll')
  · have HQ := Lib.hid (show q = false by rw [HE.out, h1]; simp)
    go_enter Try.func26, Try.ntmps26
    go_wp2
    go_ret
    exact ⟨by rw [HQ.out]; rfl, bl_alloc (bl_alloc (Below.refl _ _) _) _⟩
  · skip
    cases h2 : (fi == fi')
    · have HQ := Lib.hid (show q = false by rw [HE.out, h1, h2]; simp)
      go_enter Try.func26, Try.ntmps26
      go_wp2
      go_ret
      exact ⟨by rw [HQ.out]; rfl, bl_alloc (bl_alloc (Below.refl _ _) _) _⟩
    · skip
      cases h3 : (sn == sn')
      · have HQ := Lib.hid (show q = false by rw [HE.out, h1, h2, h3]; simp)
        go_enter Try.func26, Try.ntmps26
        go_wp2
        go_ret
        exact ⟨by rw [HQ.out]; rfl, bl_alloc (bl_alloc (Below.refl _ _) _) _⟩
      · skip
        cases h4 : (part == part')
        · have HQ := Lib.hid (show q = false by rw [HE.out, h1, h2, h3, h4]; simp)
          go_enter Try.func26, Try.ntmps26
          go_wp2
          go_ret
          exact ⟨by rw [HQ.out]; rfl, bl_alloc (bl_alloc (Below.refl _ _) _) _⟩
        · skip
          cases h5 : (last == last')
          · have HQ := Lib.hid (show q = false by rw [HE.out, h1, h2, h3, h4, h5]; simp)
            go_enter Try.func26, Try.ntmps26
            go_wp2
            go_ret
            exact ⟨by rw [HQ.out]; rfl, bl_alloc (bl_alloc (Below.refl _ _) _) _⟩
          · skip
            cases h6 : (off == off')
            · have HQ := Lib.hid (show q = false by rw [HE.out, h1, h2, h3, h4, h5, h6]; simp)
              go_enter Try.func26, Try.ntmps26
              go_wp2
              go_ret
              exact ⟨by rw [HQ.out]; rfl, bl_alloc (bl_alloc (Below.refl _ _) _) _⟩
            · skip
              have HQ := Lib.hid (show q = q2 by rw [HE.out, h1, h2, h3, h4, h5, h6]; cases q2 <;> rfl)
              go_enter Try.func26, Try.ntmps26
              go_wp2_with (go_at_call 81; refine (HF.out _ (bl_alloc (bl_alloc (Below.refl _ _) _) _)).mono ?_; rintro e w1 ⟨rfl, hb1⟩)
              go_ret
              exact ⟨by rw [HQ.out]; rfl, bl_step (bl_alloc (bl_alloc (Below.refl _ _) _) _) hb1⟩
end Go.Proofs.Ytolinlnnbdjimaa
namespace Go.Proofs.Ytolinlnnbdjimaa
open Go.RowKit

/-- what Write answers, whatever the packet is -/
def WrAnsA (poll part last : Bool) (fi sn off wd : Int) (L : List RowB) (w : World) (e : Ending) (w' : World) : Prop :=
  ((amdF part last fi sn off (lens L) wd ≠ 0 ∧ ∃ (a b c d : Nat) (v : Value), fi = a ∧ sn = b ∧ off = c ∧ wd = d ∧ e = .returned (.tuple #[v, .int .i64 0]) ∧ OwnY w.heap.size w' v (amdBytes poll part last a b c L d)) ∨
   (amdF part last fi sn off (lens L) wd = 0 ∧ ∃ er : Int, er ≠ 0 ∧ e = .returned (.tuple #[.slice none 0 0, .int .i64 er]))) ∧ Below w.heap.size w w'
theorem placed_nn {part last : Bool} {off wd : Int} (h : placedA part last off wd = true) : 0 ≤ off := by
  unfold placedA at h
  cases part
  · simp at h; omega
  · simp only [if_true] at h
    exact (of_decide_eq_true h).1
theorem nat_of {part last : Bool} {fi sn off wd : Int} {ls : List Nat} (h : amdF part last fi sn off ls wd ≠ 0) : ∃ a b c d : Nat, fi = a ∧ sn = b ∧ off = c ∧ wd = d := by
  obtain ⟨hw, h0, hf, hs2, hpl, _⟩ := amdF_pos h
  have h1 := (of_decide_eq_true hs2).1
  have h2 := placed_nn hpl
  exact ⟨fi.toNat, sn.toNat, off.toNat, wd.toNat, by omega, by omega, by omega, by omega⟩
theorem awrite_any {A : Option Addr} {L : List RowB} (poll part last : Bool) (fi sn off wd : Int) (n cap : Nat) (w : World) (hL : L.length = n) (hcap : n ≤ cap) (hcm : cap ≤ 9223372036854775807) (hs : RSrc w A L) (hm : ∀ m ∈ lens L, m ≤ 9223372036854775807) :
    Calls Try.prog 23 #[.agg #[.bool poll, .int .i64 fi, .int .i64 sn, .bool part, .bool last, .int .i64 off, .slice A n cap], .int .i64 wd] w (WrAnsA poll part last fi sn off wd L w) := by
  by_cases h : amdF part last fi sn off (lens L) wd = 0
  · refine (awrite_bad poll part last fi sn off wd n cap w hL (by omega) hs hm h).mono ?_
    rintro e w' ⟨rfl, hb⟩
    exact ⟨.inr ⟨h, _, by split <;> decide, rfl⟩, hb⟩
  · obtain ⟨a, b, c, d, rfl, rfl, rfl, rfl⟩ := nat_of h
    refine (awrite_ok poll part last a b c d n cap w hL hcap hcm hs hm h).mono ?_
    rintro e w' ⟨v, rfl, ho, hb⟩
    exact ⟨.inl ⟨h, a, b, c, d, v, rfl, rfl, rfl, rfl, rfl, ho⟩, hb⟩
/-- what Read answers, whatever the bytes are -/
def RdAnyA (bs : List Nat) (wd : Int) (w : World) (e : Ending) (w' : World) : Prop :=
  ((∃ (d : Nat) (h : HdA) (L : List RowB) (A : Option Addr) (c : Nat), wd = d ∧ amdRd bs d = (0, h, texts L) ∧ e = .returned (.tuple #[.agg #[.bool h.poll, .int .i64 h.fi, .int .i64 h.sn, .bool h.part, .bool h.last, .int .i64 h.off, .slice A L.length c], .int .i64 0]) ∧ OwnR w.heap.size w' (.slice A L.length c) L ∧ L.length ≤ c ∧ c ≤ 9223372036854775807) ∨
   ((∀ d : Nat, wd = d → (amdRd bs d).1 ≠ 0) ∧ ∃ er : Int, er ≠ 0 ∧ e = .returned (.tuple #[.agg #[.bool false, .int .i64 0, .int .i64 0, .bool false, .bool false, .int .i64 0, .slice none 0 0], .int .i64 er]))) ∧ Below w.heap.size w w'
theorem aread_any {A : Option Addr} {bs : List Nat} (wd : Int) (n cap : Nat) (w : World) (hn : bs.length = n) (hm : n ≤ 8192) (hc : n ≤ cap) (hcm : cap ≤ 9223372036854775807) (hs : Src w A (bts bs)) (hb : ∀ b ∈ bs, b < 256) :
    Calls Try.prog 33 #[.slice A n cap, .int .i64 wd] w (RdAnyA bs wd w) := by
  have key : ∀ d : Nat, wd = d → ∀ e w', ArdAns w.heap.size w (amdRd bs d) e w' → RdAnyA bs wd w e w' := by
    rintro d rfl e w' ⟨h | h, hbl⟩
    · obtain ⟨h0, v, L, h1, rfl, ho⟩ := h
      obtain ⟨Av, cv, rfl, g1, g2⟩ := ho.form
      refine ⟨.inl ⟨d, (amdRd bs d).2.1, L, Av, cv, rfl, ?_, rfl, ho, g1, g2⟩, hbl⟩
      rw [← h0, ← h1]
    · obtain ⟨h0, rfl⟩ := h
      exact ⟨.inr ⟨fun d' hd => by
        obtain rfl : d = d' := by omega
        exact h0, _, h0, rfl⟩, hbl⟩
  by_cases h5 : wd = 10 ∨ wd = 16
  · obtain ⟨d, rfl⟩ : ∃ d : Nat, wd = d := ⟨wd.toNat, by omega⟩
    exact (aread_yes d n cap w (by omega) hn hm hc hcm hs hb).mono fun e w' h => key d rfl e w' h
  · refine (aread_kind n cap wd w h5).mono ?_
    rintro e w' ⟨rfl, hbl⟩
    refine ⟨.inr ⟨fun d hd => ?_, 9, by decide, rfl⟩, hbl⟩
    rw [amdRd_kind (by omega)]
    decide
end Go.Proofs.Ytolinlnnbdjimaa
namespace Go.Proofs.Ytolinlnnbdjimaa
open Go.RowKit


theorem keep14 {W V : World} {g h : Nat} {a0 a1 a2 a3 a4 a5 a6 b0 b1 b2 b3 b4 b5 b6 : Value} (h1 : Row W g 32 #[a0, a1, a2, a3, a4, a5, a6]) (h2 : Row W h 32 #[b0, b1, b2, b3, b4, b5, b6]) (hb : Below W.heap.size W V) :
    V.cell? ⟨g, 0, none⟩ = some a0 ∧ V.cell? ⟨g, 1, none⟩ = some a1 ∧ V.cell? ⟨g, 2, none⟩ = some a2 ∧ V.cell? ⟨g, 3, none⟩ = some a3 ∧ V.cell? ⟨g, 4, none⟩ = some a4 ∧ V.cell? ⟨g, 5, none⟩ = some a5 ∧ V.cell? ⟨g, 6, none⟩ = some a6 ∧ V.cell? ⟨h, 0, none⟩ = some b0 ∧ V.cell? ⟨h, 1, none⟩ = some b1 ∧ V.cell? ⟨h, 2, none⟩ = some b2 ∧ V.cell? ⟨h, 3, none⟩ = some b3 ∧ V.cell? ⟨h, 4, none⟩ = some b4 ∧ V.cell? ⟨h, 5, none⟩ = some b5 ∧ V.cell? ⟨h, 6, none⟩ = some b6 :=
  ⟨(h1.later hb).read rfl, (h1.later hb).read rfl, (h1.later hb).read rfl, (h1.later hb).read rfl, (h1.later hb).read rfl, (h1.later hb).read rfl, (h1.later hb).read rfl, (h2.later hb).read rfl, (h2.later hb).read rfl, (h2.later hb).read rfl, (h2.later hb).read rfl, (h2.later hb).read rfl, (h2.later hb).read rfl, (h2.later hb).read rfl⟩
/-- behind the first part of the law: what is left to do -/
structure BackStA (w : World) (B : Option Addr) (nb cb : Nat) (bs : List Nat) (wd : Int) : Prop where
  len : bs.length = nb
  small : nb ≤ 4100
  room : nb ≤ cb
  cap : cb ≤ 9223372036854775807
  src : Src w B (bts bs)
  bytes : ∀ b ∈ bs, b < 256
section
variable {w : World} {B : Option Addr} {nb cb : Nat} {bs : List Nat} {wd : Int}
theorem BackStA.good (h : BackStA w B nb cb bs wd) {d : Nat} {qp qt ql : Bool} {q0 q1 q2 : Nat} {t : List (List Nat)} (hd : wd = d) (hr : amdRd bs d = (0, ⟨qp, qt, ql, q0, q1, q2⟩, t)) (W : World) (hb : Below w.heap.size w W) :
    Calls Try.prog 33 #[.slice B nb cb, .int .i64 wd] W fun e w' => ∃ (L : List RowB) (A : Option Addr) (c : Nat), t = texts L ∧ e = .returned (.tuple #[.agg #[.bool qp, .int .i64 q0, .int .i64 q1, .bool qt, .bool ql, .int .i64 q2, .slice A L.length c], .int .i64 0]) ∧ OwnR W.heap.size w' (.slice A L.length c) L ∧ L.length ≤ c ∧ c ≤ 9223372036854775807 ∧ Below W.heap.size W w' := by
  refine (aread_any wd nb cb W h.len (by have := h.small; omega) h.room h.cap (src_later h.src hb) h.bytes).mono ?_
  rintro e w' ⟨g | g, hbl⟩
  · obtain ⟨d', h', L, A, c, e1, e2, rfl, ho, h1, h2⟩ := g
    obtain rfl : d = d' := by omega
    rw [hr] at e2
    simp only [Prod.mk.injEq, true_and] at e2
    obtain ⟨rfl, e3⟩ := e2
    exact ⟨L, A, c, e3, rfl, ho, h1, h2, hbl⟩
  · have := g.1 d hd
    rw [hr] at this
    exact absurd rfl this
theorem BackStA.bad (h : BackStA w B nb cb bs wd) (hr : ∀ d : Nat, wd = d → (amdRd bs d).1 ≠ 0) (W : World) (hb : Below w.heap.size w W) :
    Calls Try.prog 33 #[.slice B nb cb, .int .i64 wd] W fun e w' => ∃ er : Int, er ≠ 0 ∧ e = .returned (.tuple #[.agg #[.bool false, .int .i64 0, .int .i64 0, .bool false, .bool false, .int .i64 0, .slice none 0 0], .int .i64 er]) ∧ Below W.heap.size W w' := by
  refine (aread_any wd nb cb W h.len (by have := h.small; omega) h.room h.cap (src_later h.src hb) h.bytes).mono ?_
  rintro e w' ⟨g | g, hbl⟩
  · obtain ⟨d', h', L, A, c, e1, e2, rfl, ho, h1, h2⟩ := g
    have := hr d' e1
    rw [e2] at this
    exact absurd rfl this
  · obtain ⟨_, er, h0, rfl⟩ := g
    exact ⟨er, h0, rfl, hbl⟩
end
theorem lens_smallA {W : World} {A : Option Addr} {L : List RowB} (h : RSrc W A L) : ∀ m ∈ lens L, m ≤ 9223372036854775807 := by
  intro m hm
  obtain ⟨k, hk⟩ := List.getElem?_of_mem hm
  simp only [lens, List.getElem?_map, Option.map_eq_some_iff] at hk
  obtain ⟨r, hr, rfl⟩ := hk
  obtain ⟨ad, _, hc⟩ := h (by have := (List.getElem?_eq_some_iff.1 hr).1; omega)
  have h9 := (hc k r hr).2
  have := h9.2.1
  have := h9.2.2.1
  omega
theorem write_backA {W : World} {A : Option Addr} {L : List RowB} {bs : List Nat} {d : Nat} {qp qt ql : Bool} {q0 q1 q2 : Nat} (c : Nat) (hb : ∀ b ∈ bs, b < 256) (hr : amdRd bs d = (0, ⟨qp, qt, ql, q0, q1, q2⟩, texts L)) (hs : RSrc W A L) (hc : L.length ≤ c) (hcm : c ≤ 9223372036854775807) :
    (Calls Try.prog 23 #[.agg #[.bool qp, .int .i64 q0, .int .i64 q1, .bool qt, .bool ql, .int .i64 q2, .slice A L.length c], .int .i64 d] W fun e w' => ∃ v', e = .returned (.tuple #[v', .int .i64 0]) ∧ OwnY W.heap.size w' v' bs ∧ Below W.heap.size W w') ∧
    (Calls Try.prog 25 #[.agg #[.bool qp, .int .i64 q0, .int .i64 q1, .bool qt, .bool ql, .int .i64 q2, .slice A L.length c], .int .i64 d] W fun e w' => e = .returned (.bool true) ∧ Below W.heap.size W w') := by
  obtain ⟨h1, h2⟩ := amd_write hb hr
  have hm := lens_smallA hs
  have h1 : amdF qt ql q0 q1 q2 (lens L) d ≠ 0 := h1
  have h2 : amdBytes qp qt ql q0 q1 q2 L d = bs := h2
  constructor
  · have h3 := awrite_ok qp qt ql q0 q1 q2 d L.length c W rfl hc hcm hs hm h1
    rw [h2] at h3
    exact h3
  · have h3 := aright_any (A := A) qp qt ql q0 q1 q2 d L.length c W rfl (by omega) hs hm
    rw [decide_eq_true (show 0 < amdF qt ql q0 q1 q2 (lens L) d by have := amdF_nonneg qt ql q0 q1 q2 (lens L) d; omega)] at h3
    exact h3
theorem write_noneA (W : World) (wd : Int) : Calls Try.prog 23 #[.agg #[.bool false, .int .i64 0, .int .i64 0, .bool false, .bool false, .int .i64 0, .slice none 0 0], .int .i64 wd] W fun e w' => ∃ er : Int, e = .returned (.tuple #[.slice none 0 0, .int .i64 er]) ∧ Below W.heap.size W w' := by
  refine (awrite_bad (A := none) (L := []) false false false 0 0 0 wd 0 0 W rfl (by omega) (fun h => absurd h (by simp)) (fun m hm => by cases hm) ?_).mono ?_
  · unfold amdF
    split
    · unfold fieldsF
      rw [if_neg (fun h => by have := h.1; simp [lens] at this)]
    · rfl
  · rintro e w' ⟨rfl, hb⟩
    exact ⟨_, rfl, hb⟩

set_option maxRecDepth 100000 in
set_option maxHeartbeats 6400000 in
theorem aback_bad {A B : Option Addr} {L : List RowB} {bs : List Nat} (poll part last : Bool) (fi sn off wd : Int) (n cap nb cb : Nat) (w : World) (hL : L.length = n) (hcap : n ≤ cap) (hcm : cap ≤ 9223372036854775807) (hs : RSrc w A L) (hm : ∀ m ∈ lens L, m ≤ 9223372036854775807) (hB : BackStA w B nb cb bs wd)
    (hw : amdF part last fi sn off (lens L) wd = 0) :
    Calls Try.prog 6 #[.agg #[.bool poll, .int .i64 fi, .int .i64 sn, .bool part, .bool last, .int .i64 off, .slice A n cap], .slice B nb cb, .int .i64 wd] w fun e w' => e = .returned (.bool true) ∧ Below w.heap.size w w' := by
  have HGR := Lib.hid (great_any n cap (w.alloc (.cells #[.bool poll, .int .i64 fi, .int .i64 sn, .bool part, .bool last, .int .i64 off, .slice A n cap] 32)) hL (by omega) (hs.later (bl_alloc (Below.refl _ _) _)) hm)
  have hb41 : ¬ (4100 : Int) < nb := by have := hB.small; omega
  have HWP := Lib.hid (fun W (hb : Below w.heap.size w W) => (show Calls Try.prog 23 #[.agg #[.bool poll, .int .i64 fi, .int .i64 sn, .bool part, .bool last, .int .i64 off, .slice A n cap], .int .i64 wd] W fun e w' => ∃ er : Int, er ≠ 0 ∧ e = .returned (.tuple #[.slice none 0 0, .int .i64 er]) ∧ Below W.heap.size W w' from (awrite_any poll part last fi sn off wd n cap W hL hcap hcm (hs.later hb) hm).mono fun e w' h => by
    obtain ⟨h | h, hbl⟩ := h
    · exact absurd hw h.1
    · obtain ⟨_, er, h0, rfl⟩ := h
      exact ⟨er, h0, rfl, hbl⟩))
  have HBS := Lib.hid hB
  clear hs hL hm hw hB
  by_cases hg : ∃ (d : Nat) (qp qt ql : Bool) (q0 q1 q2 : Nat) (t : List (List Nat)), wd = d ∧ amdRd bs d = (0, ⟨qp, qt, ql, q0, q1, q2⟩, t)
  · obtain ⟨d, qp, qt, ql, q0, q1, q2, t, rfl, hr⟩ := hg
    have HRB := Lib.hid (fun W hb => HBS.out.good rfl hr W hb)
    have HR := Lib.hid hr
    clear hr
    have HWB := Lib.hid (fun W A L c (ht : t = texts L) (hs : RSrc W A L) (hc : L.length ≤ c) (hcm : c ≤ 9223372036854775807) => (write_backA (W := W) c HBS.out.bytes (by rw [← ht]; exact HR.out) hs hc hcm).1)
    have HRT := Lib.hid (fun W A L c (ht : t = texts L) (hs : RSrc W A L) (hc : L.length ≤ c) (hcm : c ≤ 9223372036854775807) => (write_backA (W := W) c HBS.out.bytes (by rw [← ht]; exact HR.out) hs hc hcm).2)
    go_enter Try.func6, Try.ntmps6
    go_wp2_with (go_at_call 19; refine HGR.out.mono ?_; rintro e w1 ⟨⟨b, rfl, hbb⟩, rfl⟩; cases b)
    · clear hbb
      go_wp2_with (first
        | (go_at_call 23; (with_reducible refine (HWP.out _ (bl_alloc (Below.refl _ _) _)).mono ?_); rintro e w1 ⟨er, he0, rfl, hb1⟩; (have her : (er == 0) = false := by simpa using he0); (have HB1 := Lib.hid (bl_step (bl_alloc (Below.refl w.heap.size w) _) hb1); clear hb1 he0))
        | (go_at_call 33; (with_reducible refine (HRB.out w1 HB1.out).mono ?_); rintro e w7 ⟨L7, A7, c7, ht7, rfl, ho7, hl7, hc7, hb7⟩; (have HT7 := Lib.hid ht7; have HO7 := Lib.hid ho7; have HB7 := Lib.hid (HB1.out.trans (hb7.mono HB1.out.size)); have HW7 := Lib.hid (HWB.out (w7.alloc (.cells #[.bool qp, .int .i64 q0, .int .i64 q1, .bool qt, .bool ql, .int .i64 q2, .slice A7 L7.length c7] 32)) A7 L7 c7 ht7 ((ho7.later (bl_alloc (Below.refl _ _) _)).src) hl7 hc7); clear hb7 ho7 ht7))
        | (go_at_call 23; (with_reducible refine HW7.out.mono ?_); rintro e w8 ⟨y8, rfl, hy8, hb8⟩; obtain ⟨Ay, cy, hyv, _⟩ := hy8.form; rw [HBS.out.len] at hyv; subst hyv; (have HY8 := Lib.hid hy8; have HB78 := Lib.hid (bl_step (bl_alloc (Below.refl w7.heap.size w7) _) hb8); have HB8 := Lib.hid (HB7.out.trans (HB78.out.mono HB7.out.size)); have ROW8 := Lib.hid ((Row.made w7 32 #[.bool qp, .int .i64 q0, .int .i64 q1, .bool qt, .bool ql, .int .i64 q2, .slice A7 L7.length c7]).later hb8); clear hb8 hy8))
        | (go_at_call 20; (with_reducible refine (aalive_any _).mono ?_); rintro e w9 ⟨rfl, hb9⟩; (have HB9 := Lib.hid (HB8.out.trans (hb9.mono HB8.out.size)); have r9 := ROW8.out.later hb9; have r90 := r9.read (i := 0) rfl; have r91 := r9.read (i := 1) rfl; have r92 := r9.read (i := 2) rfl; have r93 := r9.read (i := 3) rfl; have r94 := r9.read (i := 4) rfl; have r95 := r9.read (i := 5) rfl; have r96 := r9.read (i := 6) rfl; have HY9 := Lib.hid (HY8.out.later hb9); have HRI := Lib.hid (HRT.out w9 A7 L7 c7 HT7.out (((HO7.out.later HB78.out).later hb9).src) hl7 hc7); clear hb9 r9))
        | (go_at_call 25; (with_reducible refine HRI.out.mono ?_); rintro e w10 ⟨rfl, hb10⟩; (have HB10 := Lib.hid (HB9.out.trans (hb10.mono HB9.out.size)); have cv1 := (HY9.out.later hb10).conv HBS.out.bytes; have cv2 := conv_src nb cb HBS.out.len (src_later HBS.out.src HB10.out) HBS.out.bytes; clear hb10)))
      go_ret
      exact ⟨rfl, HB10.out⟩
    · go_wp2_with (go_at_call 20; refine (aalive_any _).mono ?_; rintro e w2 ⟨rfl, hb2⟩)
      go_ret
      exact ⟨rfl, bl_step (bl_alloc (Below.refl _ _) _) hb2⟩
  · have hr : ∀ d : Nat, wd = d → (amdRd bs d).1 ≠ 0 := fun d hd h0 => hg ⟨d, (amdRd bs d).2.1.poll, (amdRd bs d).2.1.part, (amdRd bs d).2.1.last, (amdRd bs d).2.1.fi, (amdRd bs d).2.1.sn, (amdRd bs d).2.1.off, (amdRd bs d).2.2, hd, by rw [← h0]⟩
    have HRB := Lib.hid (fun W hb => HBS.out.bad hr W hb)
    clear hr hg
    go_enter Try.func6, Try.ntmps6
    go_wp2_with (go_at_call 19; refine HGR.out.mono ?_; rintro e w1 ⟨⟨b, rfl, hbb⟩, rfl⟩; cases b)
    · clear hbb
      go_wp2_with (first
        | (go_at_call 23; (with_reducible refine (HWP.out _ (bl_alloc (Below.refl _ _) _)).mono ?_); rintro e w1 ⟨er, he0, rfl, hb1⟩; (have her : (er == 0) = false := by simpa using he0); (have HB1 := Lib.hid (bl_step (bl_alloc (Below.refl w.heap.size w) _) hb1); clear hb1 he0))
        | (go_at_call 33; (with_reducible refine (HRB.out w1 HB1.out).mono ?_); rintro e w7 ⟨er7, he7, rfl, hb7⟩; (have her7 : (er7 != 0) = true := by simpa using he7); (have HB7 := Lib.hid (HB1.out.trans (hb7.mono HB1.out.size)); clear hb7 he7))
        | (go_at_call 23; (with_reducible refine (write_noneA _ wd).mono ?_); rintro e w8 ⟨er8, rfl, hb8⟩; (have HB8 := Lib.hid (HB7.out.trans ((bl_step (bl_alloc (Below.refl w7.heap.size w7) _) hb8).mono HB7.out.size)); clear hb8))
        | (go_at_call 20; (with_reducible refine (aalive_any _).mono ?_); rintro e w9 ⟨rfl, hb9⟩; (have HB9 := Lib.hid (HB8.out.trans (hb9.mono HB8.out.size)); clear hb9)))
      go_ret
      exact ⟨rfl, HB9.out⟩
    · go_wp2_with (go_at_call 20; refine (aalive_any _).mono ?_; rintro e w2 ⟨rfl, hb2⟩)
      go_ret
      exact ⟨rfl, bl_step (bl_alloc (Below.refl _ _) _) hb2⟩
end Go.Proofs.Ytolinlnnbdjimaa
