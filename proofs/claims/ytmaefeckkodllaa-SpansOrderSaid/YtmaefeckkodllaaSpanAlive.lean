/-
  A set made of spans; the fixed calls at the end of each statement of spans come out as they should.
-/
import Derived.Test.YtmaefeckkodllaaSpanAdd
import Derived.Test.YtmaefeckkodllaaSpanGaps
import Derived.LoopN
namespace Go.Proofs.Ytmaefeckkodllaa
open Go.RowKit

set_option maxHeartbeats 400000 in
theorem new_none {B : Nat} (w : World) (hB : B ≤ w.heap.size) :
    Calls Try.prog 11 #[.slice none 0 0] w fun e w' => e = .returned (.tuple #[.pointer (some ⟨w.heap.size, 0, none⟩), .int .i64 0]) ∧ SRep B w' w.heap.size (.slice none 0 0) [] ∧ Below w.heap.size w w' := by
  go_enter Try.func11, Try.ntmps11
  go_wp2
  refine wp_loop_rounds 1 ?_
  rw [rounds_succ]
  go_wp2
  go_ret2
  exact ⟨rfl, ⟨hB, Row.made _ _ _, World.ownsRow_nil _ _ _ _⟩, bl_alloc (Below.refl _ _) _⟩

set_option maxHeartbeats 800000 in
theorem new_two {B g : Nat} (x y : Int × Int) (w : World) (hB : B ≤ w.heap.size) (hx : rightB x = true) (hy : rightB y = true) (hc : Row w g 24 (spc [x, y]).toArray) :
    Calls Try.prog 11 #[.slice (some ⟨g, 0, none⟩) 2 2] w fun e w' => e = .returned (.tuple #[.pointer (some ⟨w.heap.size, 0, none⟩), .int .i64 0]) ∧ (∃ sv, SRep B w' w.heap.size sv (addF y [x])) ∧ Below w.heap.size w w' := by
  obtain ⟨a, b⟩ := x
  obtain ⟨c, d⟩ := y
  have hx' := rightB_iff.1 hx
  have hy' := rightB_iff.1 hy
  have hgl := hc.inside
  have c0 := (hc.more (.cells #[.slice none 0 0] 88)).read (i := 0) (x := .int .i64 a) rfl
  have c1 := (hc.more (.cells #[.slice none 0 0] 88)).read (i := 1) (x := .int .i64 b) rfl
  have HC := Lib.hid (((hc.more (.cells #[.slice none 0 0] 88)).more (.cells #[.int .i64 a, .int .i64 b] 24)))
  have h0 : SRep B ((w.alloc (.cells #[.slice none 0 0] 88)).alloc (.cells #[.int .i64 a, .int .i64 b] 24)) w.heap.size (.slice none 0 0) [] := ⟨hB, (Row.made _ _ _).more _, World.ownsRow_nil _ _ _ _⟩
  have HA := Lib.hid (add_any (a, b) hx h0 trivial (by simp) (by simp; omega))
  have HN := Lib.hid (show Norm 0 [(a, b)] from ⟨hx'.1, hx'.2.2, hx'.2.1, trivial⟩)
  have HY := Lib.hid hy
  have HBW := Lib.hid (bl_alloc (bl_alloc (Below.refl w.heap.size w) (.cells #[.slice none 0 0] 88)) (.cells #[.int .i64 a, .int .i64 b] 24))
  clear hc hx hy hx' hy' h0
  go_enter Try.func11, Try.ntmps11
  go_wp2
  refine wp_loop_rounds 3 ?_
  rw [rounds_succ]
  go_wp2_with fail
  refine (HA.out).mono ?_
  rintro e w1 ⟨rfl, ⟨sv1, h1⟩, ho1⟩
  have h1' : SRep B w1 w.heap.size sv1 [(a, b)] := h1
  have hc1 := HC.out.only ho1 (by omega)
  have c2 := hc1.read (i := 2) (x := .int .i64 c) rfl
  have c3 := hc1.read (i := 3) (x := .int .i64 d) rfl
  have hsz := ho1.size
  simp at hsz
  have HA2 := Lib.hid (add_any (c, d) HY.out (h1'.later (bl_alloc (Below.refl _ _) (.cells #[.int .i64 c, .int .i64 d] 24))) HN.out (by simp) (by simp; omega))
  have HO1 := Lib.hid ho1
  clear h1 h1' hc1 ho1 c0 c1
  go_wp2_with fail
  rw [rounds_succ]
  go_wp2_with fail
  refine (HA2.out).mono ?_
  rintro e w2 ⟨rfl, h2, ho2⟩
  have H2 := Lib.hid h2
  have HO2 := Lib.hid ho2
  clear h2 ho2 c2 c3
  go_wp2_with fail
  rw [rounds_succ]
  go_wp2
  go_ret2
  refine ⟨rfl, H2.out, ?_⟩
  have k1 := bl_only HBW.out HO1.out (fun k hk hh => by omega) (by simp; omega)
  exact bl_only (bl_alloc k1 _) HO2.out (fun k hk hh => by omega) (by simp; omega)

set_option maxHeartbeats 800000 in
theorem new_bad {g : Nat} (x : Int × Int) (w : World) (hx : rightB x = false) (hc : Row w g 24 (spc [x]).toArray) :
    Calls Try.prog 11 #[.slice (some ⟨g, 0, none⟩) 1 1] w fun e w' => e = .returned (.tuple #[.pointer none, .int .i64 1]) ∧ Below w.heap.size w w' := by
  obtain ⟨a, b⟩ := x
  have c0 := hc.read (i := 0) (x := .int .i64 a) rfl
  have c1 := hc.read (i := 1) (x := .int .i64 b) rfl
  have HX := Lib.hid hx
  have d0 := (hc.more (.cells #[.slice none 0 0] 88)).read (i := 0) (x := .int .i64 a) rfl
  have d1 := (hc.more (.cells #[.slice none 0 0] 88)).read (i := 1) (x := .int .i64 b) rfl
  clear hx hc
  go_enter Try.func11, Try.ntmps11
  go_wp2
  refine wp_loop_rounds 1 ?_
  rw [rounds_succ]
  go_wp2_with (go_at_call 14; refine (add_arg w.heap.size (a, b) _ HX.out).mono ?_; rintro e w1 ⟨rfl, hb⟩)
  go_ret2
  exact ⟨rfl, bl_step (bl_alloc (bl_alloc (Below.refl _ _) _) _) hb⟩

set_option maxRecDepth 100000 in
set_option maxHeartbeats 1600000 in
theorem alive3_any (w : World) :
    Calls Try.prog 12 #[] w fun e w' => e = .returned (.bool true) ∧ Below w.heap.size w w' := by
  have q1 : addF (5, 9) [(2, 5)] = [(2, 9)] := by decide
  have q2 : takeF (4, 6) [(2, 9)] = [(2, 4), (6, 9)] := by decide
  have q3 : (hasF (6, 9) [(2, 4), (6, 9)] && rightB (6, 9)) = true := by decide
  have q4 : (hasF (3, 5) [(2, 4), (6, 9)] && rightB (3, 5)) = false := by decide
  have q5 : countF [(2, 4), (6, 9)] = 5 := by decide
  have q6 : Norm 0 [(2, 9)] := by simp [Norm]
  have q7 : Norm 0 [(2, 4), (6, 9)] := by simp [Norm]
  have Q1 := Lib.hid q1
  have Q2 := Lib.hid q2
  have Q3 := Lib.hid q3
  have Q4 := Lib.hid q4
  have Q5 := Lib.hid q5
  have Q6 := Lib.hid q6
  have Q7 := Lib.hid q7
  clear q1 q2 q3 q4 q5 q6 q7
  go_enter Try.func12, Try.ntmps12
  go_wp2_with fail
  refine (new_two (B := w.heap.size) (2, 5) (5, 9) _ (by simp) (by decide) (by decide) (Row.made _ _ _)).mono ?_
  rintro e w1 ⟨rfl, ⟨sv1, h1⟩, hb1⟩
  rw [Q1.out, show (w.alloc (.cells (spc [(2, 5), (5, 9)]).toArray 24)).heap.size = w.heap.size + 1 by simp] at h1
  have H1 := Lib.hid h1
  have HB1 := Lib.hid (bl_step (bl_alloc (Below.refl _ _) _) hb1)
  clear h1 hb1
  go_wp2_with fail
  refine (new_bad (2, 2) _ (by decide) (Row.made _ _ _)).mono ?_
  rintro e w2 ⟨rfl, hb2⟩
  have H2 := Lib.hid ((H1.out.later (bl_alloc (Below.refl _ _) _)).later hb2)
  have HB2 := Lib.hid (bl_step (bl_step HB1.out (bl_alloc (Below.refl _ _) _)) hb2)
  clear hb2
  go_wp2_with fail
  refine (spans_any H2.out (by simp)).mono ?_
  rintro e w3 ⟨rfl, hrow3, hb3⟩
  have H3 := Lib.hid (H2.out.later hb3)
  have HR3 := Lib.hid hrow3
  have HB3 := Lib.hid (bl_step HB2.out hb3)
  have hs3 := HB3.out.size
  have hs2 := HB2.out.size
  have hlt3 := hrow3.inside
  clear hrow3 hb3
  go_wp2_with fail
  refine (take_any (4, 6) (by decide) H3.out Q6.out (by simp) hs3).mono ?_
  rintro e w4 ⟨rfl, ⟨sv4, h4⟩, ho4⟩
  rw [Q2.out] at h4
  have H4 := Lib.hid h4
  have hne : w2.heap.size ≠ w.heap.size + 1 := fun e => by
    have := H2.out.2.1.inside
    omega
  have hr4 := HR3.out.only ho4 hne
  have HB4 := Lib.hid (bl_only HB3.out ho4 (fun k hk hh => by omega) hs3)
  have c0 := hr4.read (i := 0) (x := .int .i64 2) rfl
  have c1 := hr4.read (i := 1) (x := .int .i64 9) rfl
  clear h4 ho4 hr4
  go_wp2_with (first
    | (go_at_call 21; refine (spans_any H4.out (by simp)).mono ?_; rintro e w5 ⟨rfl, _, hb5⟩; have HB5 := Lib.hid hb5; clear hb5)
    | (go_at_call 16; refine (count_any (H4.out.later HB5.out) Q7.out (by simp)).mono ?_; rintro e w6 ⟨rfl, hb6⟩; rw [Q5.out]; have HB6 := Lib.hid (bl_step HB5.out hb6); clear hb6))
  refine (has_any (6, 9) (H4.out.later HB6.out) true Q3.out).mono ?_
  rintro e w7 ⟨rfl, hb7⟩
  have HB7 := Lib.hid (bl_step HB6.out hb7)
  clear hb7
  go_wp2_with fail
  refine (has_any (3, 5) (H4.out.later HB7.out) false Q4.out).mono ?_
  rintro e w8 ⟨rfl, hb8⟩
  have HB8 := Lib.hid (bl_step HB7.out hb8)
  clear hb8
  go_wp2
  go_ret
  exact ⟨rfl, bl_step HB4.out HB8.out⟩
end Go.Proofs.Ytmaefeckkodllaa
