/-
  SpansOrdered: in whatever order spans are put in, the same places are there.
-/
import Derived.Test.YtmaefeckkodllaaSits
import Derived.Test.YtmaefeckkodllaaArgs
import Derived.Deep.RegionHeld3
namespace Go.Proofs.Ytmaefeckkodllaa
open Go.RowKit

def addsO (l : List (Bool × (Int × Int))) : List (Int × Int) := l.foldl (fun L o => addO o.2 L) []
theorem addsO_ok (l : List (Bool × (Int × Int))) : Norm 0 (addsO l) ∧ (addsO l).length ≤ l.length ∧ ∀ p, Ins p (addsO l) ↔ ∃ o ∈ l, rightB o.2 = true ∧ o.2.1 ≤ p ∧ p < o.2.2 := by
  have g : ∀ (l : List (Bool × (Int × Int))) (L : List (Int × Int)), Norm 0 L → Norm 0 (l.foldl (fun L o => addO o.2 L) L) ∧ (l.foldl (fun L o => addO o.2 L) L).length ≤ L.length + l.length ∧ ∀ p, Ins p (l.foldl (fun L o => addO o.2 L) L) ↔ Ins p L ∨ ∃ o ∈ l, rightB o.2 = true ∧ o.2.1 ≤ p ∧ p < o.2.2 := by
    intro l
    induction l with
    | nil => intro L h; exact ⟨h, by simp, by simp⟩
    | cons o r ih =>
      intro L h
      have h1 := ih (addO o.2 L) (addO_norm h)
      have h2 := addO_len (x := o.2) h
      rw [List.foldl_cons]
      refine ⟨h1.1, by have := h1.2.1; simp; omega, fun p => ?_⟩
      rw [h1.2.2 p, addO_ins h p]
      simp only [List.mem_cons, exists_eq_or_imp, or_assoc]
  have := g l [] trivial
  simp only [List.length_nil, Nat.zero_add, ins_nil, false_or] at this
  exact this
theorem addsO_snoc (l : List (Bool × (Int × Int))) (o : Bool × (Int × Int)) : addsO (l ++ [o]) = addO o.2 (addsO l) := by
  unfold addsO
  rw [List.foldl_append]
  rfl
theorem addsO_reverse (l : List (Bool × (Int × Int))) : addsO l.reverse = addsO l :=
  norm_unique (addsO_ok _).1 (addsO_ok _).1 fun p => by rw [(addsO_ok _).2.2, (addsO_ok _).2.2]; simp

set_option maxHeartbeats 800000 in
theorem ordered_guard (A : Option Addr) (N c : Nat) (w : World) (h : 60 < N) (hN : N ≤ 9223372036854775807) :
    Calls Try.prog 6 #[.slice A N c] w fun e w' => e = .returned (.bool true) ∧ Below w.heap.size w w' := by
  go_enter Try.func6, Try.ntmps6
  go_wp2_with fail
  refine (new_sits _).mono ?_
  rintro e w1 ⟨rfl, h1, hb1⟩
  have HB1 := Lib.hid hb1
  clear h1 hb1
  go_wp2_with fail
  refine (new_sits _).mono ?_
  rintro e w2 ⟨rfl, h2, hb2⟩
  have HB2 := Lib.hid (bl_step HB1.out hb2)
  clear h2 hb2
  go_wp2_with (go_at_call 12; refine (alive3_any _).mono ?_; rintro e w3 ⟨rfl, hb3⟩)
  go_ret
  exact ⟨rfl, bl_step HB2.out hb3⟩

set_option maxRecDepth 100000 in
set_option maxHeartbeats 3200000 in
theorem ordered_walk (A : Option Addr) (l : List (Bool × (Int × Int))) (cap : Nat) (w : World) (hn : l.length ≤ 60) (hs : OSrc w A l) :
    Calls Try.prog 6 #[.slice A l.length cap] w fun e w' => e = .returned (.bool true) ∧ Below w.heap.size w w' := by
  have HS := Lib.hid hs
  clear hs
  go_enter Try.func6, Try.ntmps6
  go_wp2_with fail
  refine (new_sits _).mono ?_
  rintro e w1 ⟨rfl, h1, hb1⟩
  have HB1 := Lib.hid hb1
  have H1 := Lib.hid h1
  have hlt1 : w.heap.size < w1.heap.size := by obtain ⟨sv, hr⟩ := h1.row; exact hr.inside
  clear h1 hb1
  go_wp2_with fail
  refine (new_sits _).mono ?_
  rintro e w2 ⟨rfl, h2, hb2⟩
  have HI := Lib.hid (And.intro (H1.out.later hb2) (h2.down (by omega : w.heap.size ≤ w1.heap.size)))
  have HB2 := Lib.hid (bl_step HB1.out hb2)
  clear h2 hb2 H1 HB1
  go_wp2_with fail
  go_loopw [7] (fun i wr => ∃ k : Nat, k ≤ l.length ∧ i = .int .i64 k ∧ Sits w.heap.size w.heap.size (addsO (l.take k)) wr ∧ Sits w.heap.size w1.heap.size (addsO (l.reverse.take k)) wr ∧ Below w.heap.size w wr) (fun i _ => l.length - (intOf i).toNat)
  case atStart => exact ⟨0, by omega, rfl, HI.out.1, HI.out.2, HB2.out⟩
  case round =>
    obtain ⟨k, hk, rfl, hs1, hs2, hbr⟩ := hrel
    have HS1 := Lib.hid hs1
    have HS2 := Lib.hid hs2
    have HBR := Lib.hid hbr
    clear hs1 hs2 hbr HI HB2
    by_cases hlt : k < l.length
    · obtain ⟨b, off, rfl, hc⟩ := HS.out (by omega)
      obtain ⟨o, ho⟩ : ∃ o, l[k]? = some o := ⟨_, List.getElem?_eq_getElem hlt⟩
      obtain ⟨o', ho'⟩ : ∃ o', l[l.length - 1 - k]? = some o' := ⟨_, List.getElem?_eq_getElem (by omega)⟩
      have hrev : l.reverse[k]? = some o' := by rw [List.getElem?_reverse hlt]; exact ho'
      have HT1 := Lib.hid (show addsO (l.take (k + 1)) = addO o.2 (addsO (l.take k)) by rw [take_snoc ho, addsO_snoc])
      have HT2 := Lib.hid (show addsO (l.reverse.take (k + 1)) = addO o'.2 (addsO (l.reverse.take k)) by rw [take_snoc hrev, addsO_snoc])
      have hl1 : (addsO (l.take k)).length ≤ 2047 := by have := (addsO_ok (l.take k)).2.1; simp at this; omega
      have hl2 : (addsO (l.reverse.take k)).length ≤ 2047 := by have := (addsO_ok (l.reverse.take k)).2.1; simp at this; omega
      have HL1 := Lib.hid hl1
      have HL2 := Lib.hid hl2
      obtain ⟨_, c1, c2⟩ := hc k o ho
      obtain ⟨_, c3, c4⟩ := hc _ o' ho'
      have hbb : b < w.heap.size := by
        rcases Nat.lt_or_ge b w.heap.size with h | h
        · exact h
        · exfalso
          simp [World.cell?, Array.getElem?_eq_none h] at c1
      have d1 := kept_box HBR.out c1
      have d2 := kept_box HBR.out c2
      have d3 := kept_box HBR.out c3
      have d4 := kept_box HBR.out c4
      clear hc hrev ho ho' c1 c2 c3 c4 hl1 hl2
      obtain ⟨t, x⟩ := o
      obtain ⟨t', y⟩ := o'
      obtain ⟨a, b1⟩ := x
      obtain ⟨a', b1'⟩ := y
      simp only at HT1 HT2 d1 d2 d3 d4
      have hi0 : (0 : Int) ≤ (k : Int) := by omega
      have hi1 : (k : Int) < (l.length : Int) := by omega
      go_wp2_with fail
      refine (sit_add (a, b1) HS1.out HL1.out).mono ?_
      rintro e w3 ⟨rfl, h3, ho3⟩
      have e3 := cell_only d3 ho3 (by omega)
      have e4 := cell_only d4 ho3 (by omega)
      have H3 := Lib.hid (And.intro h3 (HS2.out.two HS1.out (by omega) ho3))
      have HB3 := Lib.hid (bl_only HBR.out ho3 (fun k hk hh => by omega) HBR.out.size)
      clear h3 ho3 d1 d2 d3 d4 HS1 HS2 HBR
      go_wp2_with fail
      refine (sit_add (a', b1') H3.out.2 HL2.out).mono ?_
      rintro e w4 ⟨rfl, h4, ho4⟩
      have H4 := Lib.hid (And.intro (H3.out.1.two H3.out.2 (by omega) ho4) h4)
      have HB4 := Lib.hid (bl_only HB3.out ho4 (fun k hk hh => by omega) HB3.out.size)
      clear h4 ho4 e3 e4
      go_wp2
      go_roundw
      case rel => exact ⟨k + 1, by omega, by go_num, by rw [HT1.out]; exact H4.out.1, by rw [HT2.out]; exact H4.out.2, HB4.out⟩
      case measure => simp [intOf]; omega
    · obtain rfl : k = l.length := by omega
      have HT1 := Lib.hid (show addsO (l.take l.length) = addsO l by rw [List.take_length])
      have HT2 := Lib.hid (show addsO (l.reverse.take l.length) = addsO l by rw [show l.reverse.take l.length = l.reverse from List.take_of_length_le (by simp), addsO_reverse])
      rw [HT1.out] at HS1
      rw [HT2.out] at HS2
      have hL := (addsO_ok l).2.1
      have HNL := Lib.hid (addsO_ok l).1
      generalize addsO l = L at *
      clear HT1 HT2
      go_wp2_with fail
      refine (sit_spans HS1.out (by omega)).mono ?_
      rintro e w3 ⟨rfl, r3, hb3⟩
      have HR3 := Lib.hid r3
      have HI3 := Lib.hid (And.intro (HS1.out.later hb3) (HS2.out.later hb3))
      have HB3 := Lib.hid (bl_step HBR.out hb3)
      clear r3 hb3 HS1 HS2 HBR
      go_wp2_with fail
      refine (sit_spans HI3.out.2 (by omega)).mono ?_
      rintro e w4 ⟨rfl, r4, hb4⟩
      have HR4 := Lib.hid (And.intro (HR3.out.later hb4) r4)
      have HI4 := Lib.hid (And.intro (HI3.out.1.later hb4) (HI3.out.2.later hb4))
      have HB4 := Lib.hid (bl_step HB3.out hb4)
      clear r4 hb4 HI3 HB3 HR3
      generalize wr.heap.size = ga at *
      generalize w3.heap.size = gb at *
      go_wp2_with fail
      refine (sit_count HI4.out.1 (by omega)).mono ?_
      rintro e w5 ⟨rfl, hb5⟩
      have HR5 := Lib.hid (And.intro (HR4.out.1.later hb5) (HR4.out.2.later hb5))
      have HI5 := Lib.hid (HI4.out.2.later hb5)
      have HB5 := Lib.hid (bl_step HB4.out hb5)
      clear hb5 HI4 HB4 HR4
      generalize hcc : countF L = cc at *
      have HCC := Lib.hid hcc
      clear hcc
      go_wp2_with fail
      refine (sit_count HI5.out (by omega)).mono ?_
      rintro e w6 ⟨rfl, hb6⟩
      rw [HCC.out]
      have HR6 := Lib.hid (And.intro (HR5.out.1.later hb6) (HR5.out.2.later hb6))
      have HI6 := Lib.hid (HI5.out.later hb6)
      have HB6 := Lib.hid (bl_step HB5.out hb6)
      clear hb6 HI5 HB5 HR5
      go_wp2_with fail
      go_loopw [10] (fun i wq => ∃ k : Nat, k ≤ L.length ∧ i = .int .i64 k ∧ Row wq ga 24 (spc L).toArray ∧ Row wq gb 24 (spc L).toArray ∧ Sits w.heap.size w1.heap.size L wq ∧ Below w.heap.size w wq) (fun i _ => L.length - (intOf i).toNat)
      case atStart => exact ⟨0, by omega, rfl, HR6.out.1, HR6.out.2, HI6.out, HB6.out⟩
      case round =>
        obtain ⟨k, hk, rfl, hra, hrb, hst, hbl⟩ := hrel
        clear HR6 HI6 HB6
        have HRA := Lib.hid hra
        have HRB := Lib.hid hrb
        have HST := Lib.hid hst
        have HBL := Lib.hid hbl
        by_cases hlt : k < L.length
        · obtain ⟨y, hy⟩ : ∃ y, L[k]? = some y := ⟨_, List.getElem?_eq_getElem hlt⟩
          have c0 := hra.read (i := k * 2) (x := .int .i64 y.1) (by simpa using spc_at0 hy)
          have c1 := hra.read (i := k * 2 + 1) (x := .int .i64 y.2) (by simpa using spc_at1 hy)
          have c2 := hrb.read (i := k * 2) (x := .int .i64 y.1) (by simpa using spc_at0 hy)
          have c3 := hrb.read (i := k * 2 + 1) (x := .int .i64 y.2) (by simpa using spc_at1 hy)
          have hm := List.mem_of_getElem? hy
          have hyn := HNL.out.mem hm
          have HH := Lib.hid (show (hasF y L && rightB y) = true by
            rw [Bool.and_eq_true]
            exact ⟨(hasF_iff HNL.out hyn.2.1).2 fun p h1 h2 => ⟨y, hm, h1, h2⟩, rightB_iff.2 ⟨hyn.1, hyn.2.2, hyn.2.1⟩⟩)
          clear hra hrb hst hbl hm hyn hy
          obtain ⟨a, b⟩ := y
          simp only at c0 c1 c2 c3
          have hi0 : (0 : Int) ≤ (k : Int) := by omega
          have hi1 : (k : Int) < (L.length : Int) := by omega
          go_wp2
          go_region_held3 (fun w' => w'.cell? ⟨ga, k * 2, none⟩ = some (.int .i64 a) ∧ w'.cell? ⟨ga, k * 2 + 1, none⟩ = some (.int .i64 b) ∧ w'.cell? ⟨gb, k * 2, none⟩ = some (.int .i64 a) ∧ w'.cell? ⟨gb, k * 2 + 1, none⟩ = some (.int .i64 b)) (first | go_keep | (exact ⟨kept_box (by assumption) (by assumption), kept_box (by assumption) (by assumption), kept_box (by assumption) (by assumption), kept_box (by assumption) (by assumption)⟩)) (first
            | (go_at_call 25; refine (sit_has (a, b) (HST.out.later (bl_drew (Below.refl _ _))) true HH.out).mono ?_; rintro e w7 ⟨rfl, hb7⟩))
          have HF := Lib.hid (And.intro (HRA.out.drawn.later hb7) (And.intro (HRB.out.drawn.later hb7) (And.intro ((HST.out.later (bl_drew (Below.refl _ _))).later hb7) (bl_step HBL.out (bl_step (bl_drew (Below.refl _ _)) hb7)))))
          clear hb7 c0 c1 c2 c3
          go_wp2
          go_roundw
          case rel => exact ⟨k + 1, by omega, by go_num, HF.out.1, HF.out.2.1, HF.out.2.2.1, HF.out.2.2.2⟩
          case measure => simp [intOf]; omega
        · obtain rfl : k = L.length := by omega
          clear hra hrb hst hbl
          go_wp2_with (go_at_call 12; refine (alive3_any _).mono ?_; rintro e w7 ⟨rfl, hb7⟩)
          go_ret
          exact ⟨rfl, bl_step HBL.out hb7⟩
end Go.Proofs.Ytmaefeckkodllaa
