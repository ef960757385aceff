/-
  What umd answers to fixed calls.
-/
import Derived.Test.YtdklddpkklodnaaUmdWrite
import Derived.Test.YtdklddpkklodnaaUmdRead5
import Derived.Test.YtdklddpkklodnaaUmdRead10
namespace Go.Proofs.Ytdklddpkklodnaa
open Go.RowKit


theorem row1 (w : World) (o : Obj) (t : TypeId) (cs : Array Value) : Row ((w.alloc o).alloc (.cells cs t)) (w.heap.size + 1) t cs := by
  have h := Row.made (w.alloc o) t cs
  have e : (w.alloc o).heap.size = w.heap.size + 1 := by simp
  rw [e] at h
  exact h
theorem row2 (w : World) (o o' : Obj) (t : TypeId) (cs : Array Value) : Row (((w.alloc o).alloc o').alloc (.cells cs t)) (w.heap.size + 1 + 1) t cs := by
  have h := Row.made ((w.alloc o).alloc o') t cs
  have e : ((w.alloc o).alloc o').heap.size = w.heap.size + 1 + 1 := by simp
  rw [e] at h
  exact h
theorem ok_of_row {w : World} {g : Nat} {l : List Nat} (h : Row w g 5 (bts l).toArray) (hb : ∀ b ∈ l, b < 256) (hl : l.length ≤ 9223372036854775807) : RowB.ok w ⟨some ⟨g, 0, none⟩, l.length, l⟩ := ⟨row_src h, Nat.le_refl _, hl, hb⟩
theorem rsrc_of {w : World} {g : Nat} {L : List RowB} (h : Row w g 30 (L.map RowB.v).toArray) (hok : ∀ r ∈ L, r.ok w) : RSrc w (some ⟨g, 0, none⟩) L := fun _ => ⟨_, rfl, fun k r hr => ⟨by
  rw [add_zero_addr]
  exact h.read (by rw [List.getElem?_toArray, List.getElem?_map, hr]; rfl), hok r (List.mem_of_getElem? hr)⟩⟩
theorem al1 {W : World} {g1 g2 : Nat} (h1 : Row W g1 5 #[.int .u8 65]) (h2 : Row W g2 30 #[.slice (some ⟨g1, 0, none⟩) 1 1]) :
    Calls Try.prog 15 #[.agg #[.int .i64 0, .int .i64 3, .slice (some ⟨g2, 0, none⟩) 1 1], .int .i64 5] W fun e w' => ∃ v', e = .returned (.tuple #[v', .int .i64 0]) ∧ OwnY W.heap.size w' v' [3, 65] ∧ Below W.heap.size W w' := by
  have hs : RSrc W (some ⟨g2, 0, none⟩) [⟨some ⟨g1, 0, none⟩, 1, [65]⟩] := rsrc_of h2 (fun r hr => by
    rw [List.mem_singleton] at hr
    subst hr
    exact ok_of_row (l := [65]) h1 (by decide) (by decide))
  have h := uwrite_ok 0 3 5 1 1 W rfl (by omega) (by omega) hs (by show ∀ m ∈ [1], m ≤ 9223372036854775807; decide) (by show umdF 0 3 [1] 5 ≠ 0; decide +kernel)
  rw [show umdBytes 0 3 [⟨some ⟨g1, 0, none⟩, 1, [65]⟩] 5 = [3, 65] from by
    have e : tailF (lens [⟨some ⟨g1, 0, none⟩, 1, [65]⟩]) 11 = [] := by
      show tailF [1] 11 = _
      decide +kernel
    unfold umdBytes
    rw [e, show pack (headB 0 3 (decide (1 < [(⟨some ⟨g1, 0, none⟩, 1, [65]⟩ : RowB)].length)) 5) = [3] from by
      show pack (headB 0 3 false 5) = _
      decide +kernel]
    rfl] at h
  exact h
theorem al2 {W : World} {g1 g2 g3 : Nat} (h1 : Row W g1 5 #[.int .u8 1, .int .u8 2]) (h2 : Row W g2 5 #[.int .u8 3]) (h3 : Row W g3 30 #[.slice (some ⟨g1, 0, none⟩) 2 2, .slice (some ⟨g2, 0, none⟩) 1 1]) :
    Calls Try.prog 15 #[.agg #[.int .i64 3, .int .i64 700, .slice (some ⟨g3, 0, none⟩) 2 2], .int .i64 10] W fun e w' => ∃ v', e = .returned (.tuple #[v', .int .i64 0]) ∧ OwnY W.heap.size w' v' [30, 188, 0, 32, 1, 2, 3] ∧ Below W.heap.size W w' := by
  have hs : RSrc W (some ⟨g3, 0, none⟩) [⟨some ⟨g1, 0, none⟩, 2, [1, 2]⟩, ⟨some ⟨g2, 0, none⟩, 1, [3]⟩] := rsrc_of h3 (fun r hr => by
    rw [List.mem_cons, List.mem_singleton] at hr
    rcases hr with rfl | rfl
    · exact ok_of_row (l := [1, 2]) h1 (by decide) (by decide)
    · exact ok_of_row (l := [3]) h2 (by decide) (by decide))
  have h := uwrite_ok 3 700 10 2 2 W rfl (by omega) (by omega) hs (by show ∀ m ∈ [2, 1], m ≤ 9223372036854775807; decide) (by show umdF 3 700 [2, 1] 10 ≠ 0; decide +kernel)
  rw [show umdBytes 3 700 [⟨some ⟨g1, 0, none⟩, 2, [1, 2]⟩, ⟨some ⟨g2, 0, none⟩, 1, [3]⟩] 10 = [30, 188, 0, 32, 1, 2, 3] from by
    have e : tailF (lens [⟨some ⟨g1, 0, none⟩, 2, [1, 2]⟩, ⟨some ⟨g2, 0, none⟩, 1, [3]⟩]) 11 = [0, 32] := by
      show tailF [2, 1] 11 = _
      decide +kernel
    unfold umdBytes
    rw [e, show pack (headB 3 700 (decide (1 < [(⟨some ⟨g1, 0, none⟩, 2, [1, 2]⟩ : RowB), ⟨some ⟨g2, 0, none⟩, 1, [3]⟩].length)) 10) = [30, 188] from by
      show pack (headB 3 700 true 10) = _
      decide +kernel]
    rfl] at h
  exact h
theorem al3 {W : World} {A : Option Addr} {c : Nat} (h : OwnY W.heap.size W (.slice A 7 c) [30, 188, 0, 32, 1, 2, 3] ∨ ∃ B, OwnY B W (.slice A 7 c) [30, 188, 0, 32, 1, 2, 3]) :
    Calls Try.prog 21 #[.slice A 7 c, .int .i64 10] W fun e w' => ∃ A' c', e = .returned (.tuple #[.agg #[.int .i64 3, .int .i64 700, .slice A' 2 c'], .int .i64 0]) ∧ Below W.heap.size W w' := by
  obtain ⟨B, hB⟩ : ∃ B, OwnY B W (.slice A 7 c) [30, 188, 0, 32, 1, 2, 3] := by
    rcases h with h | h
    · exact ⟨_, h⟩
    · exact h
  obtain ⟨A2, c2, e, h1, h2⟩ := hB.form
  injection e with e1 e2 e3
  subst e1 e3
  unfold maxLen at h2
  have hx : umdRd [30, 188, 0, 32, 1, 2, 3] 10 = (0, 3, 700, [[1, 2], [3]]) := by decide +kernel
  refine (uread_10 (bs := [30, 188, 0, 32, 1, 2, 3]) 7 c W rfl (by omega) h1 (by omega) hB.src (by decide)).mono ?_
  rintro e w' ⟨h3 | h3, h4⟩
  · rw [hx] at h3
    obtain ⟨_, v, L, h5, rfl, ho⟩ := h3
    have hL : L.length = 2 := by have := congrArg List.length h5; rw [length_texts] at this; exact this.symm
    obtain ⟨Av, cv, rfl, _⟩ := ho.form
    rw [hL]
    exact ⟨Av, cv, rfl, h4⟩
  · rw [hx] at h3
    exact absurd rfl h3.1
theorem al4 {W : World} {g : Nat} (h : Row W g 5 #[.int .u8 3]) :
    Calls Try.prog 21 #[.slice (some ⟨g, 0, none⟩) 1 1, .int .i64 5] W fun e w' => e = .returned (.tuple #[.agg #[.int .i64 0, .int .i64 0, .slice none 0 0], .int .i64 8]) ∧ Below W.heap.size W w' := by
  have hx : umdRd [3] 5 = (8, 0, 0, []) := by decide +kernel
  refine (uread_5 (bs := [3]) 1 1 W rfl (by omega) (by omega) (by omega) (row_src (xs := bts [3]) h) (by decide)).mono ?_
  rintro e w' ⟨h3 | h3, h4⟩
  · rw [hx] at h3
    exact absurd h3.1 (by decide)
  · rw [hx] at h3
    exact ⟨h3.2, h4⟩
theorem al5 {W : World} {g1 g2 : Nat} (h1 : Row W g1 5 #[.int .u8 1]) (h2 : Row W g2 30 #[.slice (some ⟨g1, 0, none⟩) 1 1]) :
    Calls Try.prog 15 #[.agg #[.int .i64 0, .int .i64 32, .slice (some ⟨g2, 0, none⟩) 1 1], .int .i64 5] W fun e w' => e = .returned (.tuple #[.slice none 0 0, .int .i64 3]) ∧ Below W.heap.size W w' := by
  have hs : RSrc W (some ⟨g2, 0, none⟩) [⟨some ⟨g1, 0, none⟩, 1, [1]⟩] := rsrc_of h2 (fun r hr => by
    rw [List.mem_singleton] at hr
    subst hr
    exact ok_of_row (l := [1]) h1 (by decide) (by decide))
  have h := uwrite_bad 0 32 5 1 1 W rfl (by omega) hs (by show ∀ m ∈ [1], m ≤ 9223372036854775807; decide) (by show umdF 0 32 [1] 5 = 0; decide +kernel)
  exact h

set_option maxRecDepth 100000 in
set_option maxHeartbeats 3200000 in
theorem ualive_any (w : World) : Calls Try.prog 12 #[] w fun e w' => e = .returned (.bool true) ∧ Below w.heap.size w w' := by
  go_enter Try.func12, Try.ntmps12
  go_wp2_with (first
    | (go_at_call 15; (with_reducible refine (al1 (g1 := w.heap.size) ?x1 ?x2).mono ?_); rotate_left 2; rintro e w1 ⟨v1, rfl, ho1, hb1⟩; obtain ⟨A1, c1, hv1, _⟩ := ho1.form; simp only [List.length_cons, List.length_nil, Nat.zero_add, Nat.reduceAdd] at hv1; subst hv1; (have HO1 := Lib.hid ho1; have HB1 := Lib.hid (bl_step (bl_alloc (bl_alloc (Below.refl w.heap.size w) _) _) hb1); clear ho1 hb1))
    | (go_at_call 15; (with_reducible refine (al2 (g1 := w1.heap.size) (g2 := w1.heap.size + 1) ?y1 ?y2 ?y3).mono ?_); rotate_left 3; rintro e w2 ⟨v2, rfl, ho2, hb2⟩; obtain ⟨A2, c2, hv2, _⟩ := ho2.form; simp only [List.length_cons, List.length_nil, Nat.zero_add, Nat.reduceAdd] at hv2; subst hv2; (have HO2 := Lib.hid ho2; have HBS2 := Lib.hid (bl_step (bl_alloc (bl_alloc (bl_alloc (Below.refl w1.heap.size w1) _) _) _) hb2); clear ho2 hb2))
    | (go_at_call 21; (with_reducible refine (al3 (.inr ⟨_, HO2.out⟩)).mono ?_); rintro e w3 ⟨A3, c3, rfl, hb3⟩; have HB3 := Lib.hid hb3; clear hb3)
    | (go_at_call 21; (with_reducible refine (al4 ?z1).mono ?_); rotate_left 1; rintro e w4 ⟨rfl, hb4⟩; (have HBS4 := Lib.hid (bl_step (bl_alloc (bl_alloc (Below.refl w3.heap.size w3) _) _) hb4); have RP := Lib.hid (((Row.made w3 24 #[.int .i64 3, .int .i64 700, .slice A3 2 c3]).more _).later hb4); clear hb4))
    | (go_at_call 15; (with_reducible refine (al5 (g1 := w4.heap.size + 1) ?u1 ?u2).mono ?_); rotate_left 2; rintro e w5 ⟨rfl, hb5⟩
       have hb59 := bl_step (bl_alloc (bl_alloc (bl_alloc (Below.refl w4.heap.size w4) _) _) _) hb5
       have HB59 := Lib.hid hb59
       have cv1 : (convert 30 9 (.slice A1 2 c1)).run Try.prog w5 = .ok (.string ⟨#[3, 65]⟩) w5 := (((((HO1.out.later HBS2.out).later HB3.out).later HBS4.out).later hb59)).conv (by decide)
       have cv2 : (convert 30 9 (.slice A2 7 c2)).run Try.prog w5 = .ok (.string ⟨#[30, 188, 0, 32, 1, 2, 3]⟩) w5 := (((HO2.out.later HB3.out).later HBS4.out).later hb59).conv (by decide)
       have rp := RP.out.later hb59
       have p0 : w5.cell? ⟨w3.heap.size, 0, none⟩ = some (.int .i64 3) := rp.read rfl
       have p1 : w5.cell? ⟨w3.heap.size, 1, none⟩ = some (.int .i64 700) := rp.read rfl
       have p2 : w5.cell? ⟨w3.heap.size, 2, none⟩ = some (.slice A3 2 c3) := rp.read rfl
       clear hb5 hb59 rp))
  · go_ret
    exact ⟨rfl, bl_step' (bl_step' (bl_step' (bl_step' HB1.out (HBS2.out.mono HB1.out.size)) (HB3.out.mono (Nat.le_trans HB1.out.size HBS2.out.size))) (HBS4.out.mono (Nat.le_trans (Nat.le_trans HB1.out.size HBS2.out.size) HB3.out.size))) (HB59.out.mono (Nat.le_trans (Nat.le_trans (Nat.le_trans HB1.out.size HBS2.out.size) HB3.out.size) HBS4.out.size))⟩
  all_goals first | exact Row.made _ _ _ | exact (Row.made _ _ _).more _ | exact ((Row.made _ _ _).more _).more _ | exact row1 _ _ _ _ | exact (row1 _ _ _ _).more _ | exact row2 _ _ _ _ _
end Go.Proofs.Ytdklddpkklodnaa
