/-
  The fixed calls at the end of each statement of queue come out as they should. QueueLives: the walk. A law's row follows from its walk: the call returns true, and below the heap's old size the world is as it was; then every argument reads as it did. How the packets and bytes that a statement draws read.
-/
import Derived.Test.YtbcjfdhphpckfaaJQueueLives04
import Derived.Laws.BytesString
import Derived.Lib.SlBytesConst
import Derived.Test.YtbcjfdhphpckfaaJQueueLives06
import Derived.Test.YtbcjfdhphpckfaaJQueueLives25
import Derived.Deep.DeepCutAuto
import Derived.Deep.CutBlock
import Derived.Test.YtbcjfdhphpckfaaRows
import Derived.WalkKit
import Derived.ProofKit
import Derived.OpenShut
import Derived.Test.YtbcjfdhphpckfaaJQueueLives10
import Derived.SizedLaws
import Derived.Deep.Matrix
import Derived.Lib.SmallJoins
namespace Go.Proofs.Ytbcjfdhphpckfaa
open Go.RowKit

/-- bytes as a text -/

theorem qconv_src {w : World} {A : Option Addr} {c : Nat} {l : List Nat} (h : QSrcB w A (qbts l)) (hb : ∀ b ∈ l, b < 256) (h0 : 0 < l.length) :
    (convert 34 9 (.slice A l.length c)).run Try.prog w = .ok (.string (strOf l)) w := by
  obtain ⟨g, off, rfl, hc⟩ := h (by rw [qlength_bts]; exact h0)
  have hx := run_convert_bytes_back (P := Try.prog) w 34 9 5 ⟨g, off, none⟩ c (l.map UInt8.ofNat) Try.underlying34 Try.underlying5 Try.underlying9 (fun j hj => by
    have hj' : j < l.length := by simpa using hj
    have e : (⟨g, off, none⟩ : Addr).add j = ⟨g, off + j, none⟩ := by
      unfold Addr.add
      split
      · rename_i h; rw [h]; rfl
      · rfl
    rw [e]
    have h1 : (qbts l)[j]? = some (.int .u8 (l[j] : Nat)) := qbts_at (List.getElem?_eq_getElem hj')
    have h2 := hc j _ h1
    rw [h2, List.getElem_map]
    have h3 : (UInt8.ofNat l[j]).toNat = l[j] := UInt8.toNat_ofNat_of_lt' (hb _ (List.getElem_mem hj'))
    rw [h3])
  rw [List.length_map] at hx
  exact hx
theorem QBytes.src {w : World} {g : Nat} {l : List Nat} (h : QBytes w g l) : QSrcB w (some ⟨g, 0, none⟩) (qbts l) := by
  obtain ⟨cs, h4, h5⟩ := h
  intro _
  refine ⟨_, _, rfl, fun j u hu => ?_⟩
  have hj : j < l.length := by have := (List.getElem?_eq_some_iff.1 hu).1; rw [qlength_bts] at this; exact this
  have hb := qbts_at (List.getElem?_eq_getElem hj)
  rw [hu] at hb
  injection hb with hb
  rw [hb, Nat.zero_add]
  exact h4.read (h5 j _ (List.getElem?_eq_getElem hj))
theorem qrow_bytes {w : World} {g : Nat} {l : List Nat} (h : Row w g 5 (qbts l).toArray) : QBytes w g l := ⟨_, h, fun j b hb => by simpa using qbts_at hb⟩

def qzero8 (n : Nat) : List Nat := List.replicate n 0
theorem qmake_zero8 (n : Nat) (h : n ≤ 1000000) (w : World) :
    (Instr.makeSlice 34 (.int .i64 (n : Int)) (.int .i64 (n : Int))).run Try.prog w = .ok (.slice (some ⟨w.heap.size, 0, none⟩) n n) (w.alloc (.cells (qbts (qzero8 n)).toArray 5)) := by
  obtain ⟨i, hi, hz, hs, hb⟩ := qinfo5_parts
  have h := run_make (P := Try.prog) w 34 5 i _ Try.underlying34 hi hz .i64 .i64 n n (by omega) (Int.le_refl _) (by rw [hb]; omega) (by omega)
  rw [h, hs, Nat.mul_one, Int.toNat_natCast]
  have e : madeCells #[.int .u8 0] n = (qbts (qzero8 n)).toArray := by
    apply Array.toList_inj.1
    rw [toList_madeCells_one]
    simp [qbts, qzero8]
  rw [← e]
  rfl

theorem qsrc_mark {B : Nat} (w1 : World) (l : List Nat) (fr : Nat × Nat) (W : World) (h : QOnly B (w1.alloc (.cells (qbts l).toArray 5 fr)) W) : QSrcB W (some ⟨w1.heap.size, 0, none⟩) (qbts l) := by
  intro _
  have hnew : (w1.alloc (.cells (qbts l).toArray 5 fr)).heap[w1.heap.size]? = some (.cells (qbts l).toArray 5 fr) := heap_alloc_new w1 _
  have hW : W.heap[w1.heap.size]? = some (.cells (qbts l).toArray 5 fr) := by
    rw [Only.same h w1.heap.size (by simp) (fun ⟨_, t, cs, hr, ht⟩ => ?_)]
    · exact hnew
    · unfold Row at hr
      rw [hnew] at hr
      injection hr with hr
      injection hr with _ hr
      subst hr
      rcases ht with ht | ht
      · exact absurd ht (by decide)
      · exact absurd ht (by decide)
  refine ⟨_, _, rfl, fun j u hu => ?_⟩
  rw [Nat.zero_add, cell_of_row W w1.heap.size j _ 5 fr hW]
  simpa using hu

set_option maxRecDepth 100000 in
set_option maxHeartbeats 3200000 in
theorem alive4_any (w : World) :
    Calls Try.prog 14 #[] w fun e w' => e = .returned (.bool true) ∧ Below w.heap.size w w' := by
  go_enter Try.func14, Try.ntmps14
  go_wp2_with fail
  refine (qnew_any w.heap.size 10 w (Nat.le_refl _) (by omega) (by omega)).mono ?_
  rintro e w1 ⟨rfl, hq1, hb1⟩
  have HQ1 := Lib.hid hq1
  have HB1 := Lib.hid hb1
  have hs1 := hb1.size
  clear hq1 hb1
  have kc := Lib.run_convert_bytes_const (P := Try.prog) w1 34 5 #[.int .u8 97, .int .u8 98] 2 2 Try.underlying34 Try.underlying5
  go_wp2_with fail
  refine (push_ok (some ⟨w1.heap.size, 0, none⟩) [97, 98] 2 (HQ1.out.later (bl_alloc (Below.refl _ _) _)) (by omega) (by omega) (by simp) (by simp) (by simp) (by simp [bytesF]) (by omega) (fun W hW => qsrc_mark w1 [97, 98] _ W hW)).mono ?_
  rintro e w2 ⟨rfl, ⟨t, ht1, ht2, ht3, hq2⟩, ho2⟩
  have hs2 := ho2.size
  simp at hs2
  have HQ2 := Lib.hid (show QRep w.heap.size w2 w.heap.size 10 1 [t] from hq2)
  have HO2 := Lib.hid (HB1.out.trans (((QOnly.of_below (B := w.heap.size) (bl_alloc (Below.refl _ _) _)).trans ho2).below hs1))
  have HT := Lib.hid (And.intro ht1 (And.intro ht2 ht3))
  clear hq2 ho2 ht1 ht2 ht3 kc
  go_wp2_with fail
  refine (take_ok 1 HQ2.out (by omega) (by omega) (by rw [HT.out.2.1]; simp) (by rw [HT.out.2.1]; simp) (by simp)).mono ?_
  rintro e w3 ⟨g3, rfl, hg3, hby3, ho3, t3, h31, h32, h33, hq3⟩
  rw [if_neg (by rw [HT.out.2.1]; simp)] at hq3
  rw [HT.out.2.1] at hby3 h32 ⊢
  have hs3 := ho3.size
  have HQ3 := Lib.hid hq3
  have HBY3 := Lib.hid (show QBytes w3 g3 [97] from hby3)
  have HO3 := Lib.hid (HO2.out.trans (ho3.below (by omega)))
  have HT3 := Lib.hid (And.intro (h31.trans HT.out.1) (And.intro (show t3.bs = [98] from h32) h33))
  clear hq3 hby3 ho3 h31 h32 h33 hg3
  go_wp2_with fail
  refine (front_ok HQ3.out (by omega) (by rw [HT3.out.2.1]; simp) (by rw [HT3.out.2.1]; simp)).mono ?_
  rintro e w4 ⟨g4, rfl, hg4, hby4, hb4⟩
  rw [HT3.out.2.2]
  have HQ4 := Lib.hid (HQ3.out.later hb4)
  have HBY4 := Lib.hid (HBY3.out.later hb4)
  have HO4 := Lib.hid (bl_step HO3.out hb4)
  have hs4 := hb4.size
  clear hby4 hb4 hg4
  go_wp2_with fail
  refine (discard_any 1 HQ4.out (by omega) (by simp)).mono ?_
  rintro e w5 ⟨rfl, hq5, ho5⟩
  have hpl : placeF 1 [t3] = 0 := by unfold placeF; rw [List.findIdx_cons, HT3.out.1]; rfl
  have hE : discE 1 [t3] = 7 := by unfold discE; rw [hpl]; simp [HT3.out.2.2]
  have hF : discF 1 [t3] = [t3] := by unfold discF; rw [hpl]; simp [HT3.out.2.2]
  rw [hE]
  rw [hF] at hq5
  have hs5 := ho5.size
  have HQ5 := Lib.hid hq5
  have HBY5 := Lib.hid (HBY4.out.q ho5)
  have HO5 := Lib.hid (HO4.out.trans (ho5.below (by omega)))
  clear hq5 ho5 hE hF hpl
  go_wp2_with fail
  refine (take_ok 1 HQ5.out (by omega) (by omega) (by rw [HT3.out.2.1]; simp) (by rw [HT3.out.2.1]; simp) (by simp)).mono ?_
  rintro e w6 ⟨g6, rfl, hg6, hby6, ho6, t6, h61, h62, h63, hq6⟩
  rw [if_pos (by rw [HT3.out.2.1]; rfl)] at hq6
  rw [HT3.out.2.1] at hby6 h62 ⊢
  have hs6 := ho6.size
  have HQ6 := Lib.hid hq6
  have HBY6 := Lib.hid (And.intro (HBY5.out.q ho6) (show QBytes w6 g6 [98] from hby6))
  have HO6 := Lib.hid (HO5.out.trans (ho6.below (by omega)))
  clear hq6 hby6 ho6 h61 h62 h63 hg6
  have hmk : (Instr.makeSlice 34 (.int .i64 11) (.int .i64 11)).run Try.prog w6 = .ok (.slice (some ⟨w6.heap.size, 0, none⟩) 11 11) (w6.alloc (.cells (qbts (qzero8 11)).toArray 5)) := qmake_zero8 11 (by omega) w6
  go_wp2_with fail
  refine (push_full (some ⟨w6.heap.size, 0, none⟩) 11 11 (HQ6.out.later (bl_alloc (Below.refl _ _) _)) (by omega) (by omega) (by simp [bytesF]) (by omega) (by omega) (by simp) (.inr (by simp [bytesF]))).mono ?_
  rintro e w7 ⟨rfl, hb7⟩
  have hb7' := bl_step (bl_alloc (Below.refl w6.heap.size w6) _) hb7
  have hv1 := qconv_src (c := 1) (HBY6.out.1.later hb7').src (by decide) (by simp)
  have hv2 := qconv_src (c := 1) (HBY6.out.2.later hb7').src (by decide) (by simp)
  have HQ7 := Lib.hid (HQ6.out.later hb7')
  have HO7 := Lib.hid (bl_step HO6.out hb7')
  have hst1 : strOf [97] = ⟨#[97]⟩ := rfl
  have hst2 : strOf [98] = ⟨#[98]⟩ := rfl
  simp only [List.length_singleton] at hv1 hv2
  clear hb7 hb7' hmk
  go_wp2_with fail
  refine (qbytes_any HQ7.out (by omega) (by simp [bytesF])).mono ?_
  rintro e w8 ⟨rfl, hb8⟩
  have HB8 := Lib.hid hb8
  clear hb8
  go_wp2
  go_ret
  exact ⟨rfl, bl_step HO7.out HB8.out⟩
end Go.Proofs.Ytbcjfdhphpckfaa
namespace Go.Proofs.Ytbcjfdhphpckfaa
open Go.RowKit Go.Maps

section
variable {w v : World} {p y B : Nat} {room : Int} {ts r : List Txt} {t : Txt} {E : List Ent} {e : Ent}
theorem not_xq_op : ¬ XQ 36 := by unfold XQ; decide
theorem not_xq_5 : ¬ XQ 5 := by unfold XQ; decide
theorem QBytes.kr {g : Nat} {l : List Nat} (h : QBytes w g l) (hk : KR XQ B w v) : QBytes v g l := by
  obtain ⟨cs, h1, h2⟩ := h
  exact ⟨cs, hk.other h1 not_xq_5, h2⟩
theorem op_cells3 {g : Nat} {kd nn : Int} {x : Value} (h : Row w g 36 #[.int .i64 kd, .int .i64 nn, x]) : w.cell? ⟨g, 0, none⟩ = some (.int .i64 kd) ∧ w.cell? ⟨g, 1, none⟩ = some (.int .i64 nn) ∧ w.cell? ⟨g, 2, none⟩ = some x := ⟨h.read rfl, h.read rfl, h.read rfl⟩
set_option maxRecDepth 100000 in
set_option maxHeartbeats 1600000 in
theorem qlives_bad (A0 : Option Addr) (n0 c0 : Nat) (room : Int) (W : World) (h : room < 1 ∨ 20000 < room) : Calls Try.prog 3 #[.int .i64 room, .slice A0 n0 c0] W fun e w' => e = .returned (.bool true) ∧ Below W.heap.size W w' := by
  have HN := Lib.hid (qnew_arg room W h)
  have HA := Lib.hid alive4_any
  by_cases h1 : room < 1
  · clear h
    go_enter Try.func3, Try.ntmps3
    go_wp2_with (first
      | (go_at_call 13; (with_reducible refine HN.out.mono ?_); rintro e w1 ⟨rfl, rfl⟩)
      | (go_at_call 14; (with_reducible refine (HA.out _).mono ?_); rintro e w3 ⟨rfl, hb⟩; (have HB2 := Lib.hid hb; clear hb)))
    go_ret
    exact ⟨rfl, HB2.out⟩
  · have h2 : 20000 < room := by omega
    clear h
    go_enter Try.func3, Try.ntmps3
    go_wp2_with (first
      | (go_at_call 13; (with_reducible refine HN.out.mono ?_); rintro e w1 ⟨rfl, rfl⟩)
      | (go_at_call 14; (with_reducible refine (HA.out _).mono ?_); rintro e w3 ⟨rfl, hb⟩; (have HB2 := Lib.hid hb; clear hb)))
    go_ret
    exact ⟨rfl, HB2.out⟩
set_option maxRecDepth 100000 in
set_option maxHeartbeats 25600000 in
theorem qlives_ok (A0 : Option Addr) (n0 c0 : Nat) (room : Int) (l0 : List OpB) (W : World) (hl0 : l0.length = n0) (hm0 : n0 ≤ 9223372036854775807) (hs0 : BSrc04 W A0 l0) (h1 : 1 ≤ room) (h2 : room ≤ 20000) :
    Calls Try.prog 3 #[.int .i64 room, .slice A0 n0 c0] W fun e w' => e = .returned (.bool true) ∧ Below W.heap.size W w' := by
  have HN := Lib.hid (qnew_any W.heap.size room W (Nat.le_refl _) h1 h2)
  have HA := Lib.hid alive4_any
  have HS0 := Lib.hid hs0
  have HL0 := Lib.hid hl0
  clear hs0 hl0
  have hr1 : ¬ room < 1 := by omega
  have hr2 : ¬ 20000 < room := by omega
  go_enter Try.func3, Try.ntmps3
  go_wp2_with (go_at_call 13; (with_reducible refine HN.out.mono ?_); rintro e w1 ⟨rfl, hq, hb⟩; (have HBO := Lib.hid (both_qnew hq h1 h2 hb.size); have HBY := Lib.hid (bl_alloc hb (.cells #[.int .i64 room, .slice none 0 0, .slice none 0 0, .slice none 0 0] 33)); clear hq hb))
  generalize hY : w1.heap.size = y at *
  clear hY
  go_loopw [8] (fun s8 wr => ∃ (i : Nat) (ts : List Txt) (E : List Ent), i ≤ 100 ∧ i ≤ n0 ∧ s8 = .int .i64 i ∧ Hid (QB wr W.heap.size y W.heap.size room ts E) ∧ Hid (E.length ≤ i) ∧ Hid (Below W.heap.size W wr)) (fun s8 _ => 100 - (intOf s8).toNat)
  case atStart => exact ⟨0, [], [], by omega, by omega, rfl, HBO, Lib.hid (by simp), HBY⟩
  case round =>
    obtain ⟨i, ts, E, hi, hin, rfl, HBr, HEi, HWr⟩ := hrel
    by_cases hlt : i < n0 ∧ i < 100
    · obtain ⟨hlt1, hlt2⟩ := hlt
      have hi1 : (i : Int) < n0 := by omega
      have hi2 : (i : Int) < 100 := by omega
      have hi0 : (0 : Int) ≤ i := by omega
      have HI := Lib.hid (And.intro hlt1 hlt2)
      obtain ⟨o, ho⟩ : ∃ o, l0[i]? = some o := ⟨_, List.getElem?_eq_getElem (by rw [HL0.out]; exact hlt1)⟩
      obtain ⟨bq, off, rfl, hq⟩ := HS0.out (by rw [HL0.out]; omega)
      obtain ⟨q0, q1, q2, q3⟩ := hq i o ho
      have z0 := kept_box HWr.out q0
      have z1 := kept_box HWr.out q1
      have z2 := kept_box HWr.out q2
      obtain ⟨kd, nn, rb⟩ := o
      obtain ⟨A3, c3, l3⟩ := rb
      simp only [RowB.v] at z0 z1 z2 q3
      have HR3 := Lib.hid q3
      obtain ⟨n3, hn3⟩ : ∃ n3, l3.length = n3 := ⟨_, rfl⟩
      rw [hn3] at z2
      have HN3 := Lib.hid hn3
      have HOB := Lib.hid (Row.made wr 36 #[.int .i64 kd, .int .i64 nn, .slice A3 n3 c3])
      have HXo := Lib.hid (HBr.out.later (bl_alloc (Below.refl _ _) (.cells #[.int .i64 kd, .int .i64 nn, .slice A3 n3 c3] 36)))
      have HWo := Lib.hid (bl_alloc HWr.out (.cells #[.int .i64 kd, .int .i64 nn, .slice A3 n3 c3] 36))
      clear ho hq q0 q1 q2 q3 hlt1 hlt2 hi hin hn3
      go_upto_region 11 with fail
      generalize hQ : (wr.alloc (.cells #[.int .i64 kd, .int .i64 nn, .slice A3 n3 c3] 36)) = wq at *
      clear hQ
      generalize hOO : wr.heap.size = oo at *
      clear hOO z0 z1 z2
      obtain ⟨d0, d1, d2⟩ := op_cells3 HOB.out
      by_cases hlong : 1100 < n3
      · have hl1 : (1100 : Int) < n3 := by omega
        go_wp2_with (go_at_call 14; (with_reducible refine (HA.out _).mono ?_); rintro e w3 ⟨rfl, hb⟩; (have HB2 := Lib.hid hb; clear hb))
        go_ret
        exact ⟨rfl, bl_step HWo.out HB2.out⟩
      · have hl1 : ¬ (1100 : Int) < n3 := by omega
        clear hlong
        go_upto_block 2 with fail
        go_cut [10] (fun s10 wx => ∃ (wy : World) (ts' : List Txt) (E' : List Ent), wy = wx ∧ s10 = .bool true ∧ Hid (QB wy W.heap.size y W.heap.size room ts' E') ∧ Hid (E'.length ≤ i + 1) ∧ Hid (Below W.heap.size W wy))
        case first =>
          rcases Classical.em (kd = 0) with hk0 | hk0
          · subst hk0
            obtain ⟨nid, er, hcc⟩ := both_push A3 l3 c3 HXo.out (by have := HEi.out; have := HI.out.2; omega) (Nat.le_trans HR3.out.2.1 HR3.out.2.2.1) HR3.out.2.2.2 (fun W' hk => (src_qsrc HR3.out.1).later (HWo.out.trans hk.below))
            rw [HN3.out] at hcc
            have HN1 := Lib.hid hcc
            clear hcc
            go_wp2_with (first
              | (go_at_call 15; (with_reducible refine HN1.out.mono ?_); rintro e w3 ⟨rfl, hk3, hc3⟩; (have HK3 := Lib.hid hk3; have HN2 := Lib.hid hc3; have HO3 := Lib.hid (hk3.other HOB.out not_xq_op); clear hk3 hc3 d0 d1 d2; obtain ⟨d0, d1, d2⟩ := op_cells3 HO3.out))
              | (go_at_call 16; (with_reducible refine HN2.out.mono ?_); rintro e w4 ⟨rfl, hk4, ts4, E4, hq4, hl4⟩; (have HK4 := Lib.hid hk4; have HQ4 := Lib.hid hq4; have HL4 := Lib.hid hl4; clear hk4 hq4 hl4 d0 d1 d2)))
            go_meet
            exact ⟨_, ts4, E4, rfl, by simp, HQ4, Lib.hid (by have := HL4.out; have := HEi.out; omega), Lib.hid ((HWo.out.trans HK3.out.below).trans HK4.out.below)⟩
          · have e0 : (kd == 0) = false := by simpa using hk0
            rcases Classical.em (kd = 1) with hk1 | hk1
            · subst hk1
              cases ts with
              | nil =>
                have HN1 := Lib.hid (both_take_none nn HXo.out)
                have kc := conv_src (w := wq) (A := none) (l := []) 0 0 rfl (fun h0 => absurd h0 (by simp [bts])) (by simp)
                go_wp2_with (first
                  | (go_at_call 17; (with_reducible refine HN1.out.mono ?_); rintro e _ ⟨rfl, rfl, hc3⟩; (have HN2 := Lib.hid hc3; clear hc3))
                  | (go_at_call 18; (with_reducible refine HN2.out.mono ?_); rintro e _ ⟨rfl, rfl⟩))
                go_meet
                exact ⟨_, [], E, rfl, by simp, HXo, Lib.hid (by have := HEi.out; omega), HWo⟩
              | cons t r =>
                by_cases hn : nn < 1 ∨ (t.bs.length : Int) < nn
                · have HN1 := Lib.hid (both_take_bad nn HXo.out hn)
                  clear hn
                  go_wp2_with (first
                    | (go_at_call 17; (with_reducible refine HN1.out.mono ?_); rintro e _ ⟨rfl, rfl, hc3⟩; (have HN2 := Lib.hid hc3; clear hc3))
                    | (go_at_call 18; (with_reducible refine HN2.out.mono ?_); rintro e w4 ⟨rfl, hk4, hq4⟩; (have HK4 := Lib.hid hk4; have HQ4 := Lib.hid hq4; have kc := conv_src (w := w4) (A := none) (l := []) 0 0 rfl (fun h0 => absurd h0 (by simp [bts])) (by simp); clear hk4 hq4)))
                  go_meet
                  exact ⟨_, t :: r, E, rfl, by simp, HQ4, Lib.hid (by have := HEi.out; omega), Lib.hid (HWo.out.trans HK4.out.below)⟩
                · obtain ⟨n, rfl⟩ : ∃ n : Nat, nn = (n : Int) := ⟨nn.toNat, by omega⟩
                  obtain ⟨e, hm, hd, hcc⟩ := both_take n HXo.out (by omega) (by omega)
                  have HN1 := Lib.hid hcc
                  have HB8 := Lib.hid (HXo.out.b8 e hm)
                  have HDE := Lib.hid hd
                  have HNL := Lib.hid (show n ≤ t.bs.length by omega)
                  clear hcc hm hd hn
                  go_wp2_with (first
                    | (go_at_call 17; (with_reducible refine HN1.out.mono ?_); rintro e w3 ⟨⟨g, rfl, _, hqb⟩, hk3, hc3⟩; (have HK3 := Lib.hid hk3; have HN2 := Lib.hid hc3; have HO3 := Lib.hid (hk3.other HOB.out not_xq_op); have HQB := Lib.hid hqb; clear hk3 hc3 hqb d0 d1 d2; obtain ⟨d0, d1, d2⟩ := op_cells3 HO3.out))
                    | (go_at_call 18; (with_reducible refine HN2.out.mono ?_); rintro e' w4 ⟨⟨c, rfl⟩, hk4, ⟨ts4, E4, hq4, hl4⟩, hok4⟩; (
                        have kc1 := qb_conv n n (by rw [List.length_take]; have := HNL.out; omega) (HQB.out.kr hk4) (fun b hb => HB8.out b (by have h9 := List.mem_of_mem_take hb; rw [HDE.out] at h9; exact List.mem_of_mem_drop h9))
                        have kc2 := Ent.conv hok4 HB8.out n c (by have h9 := HNL.out; rw [HDE.out, List.length_drop] at h9; have := hok4.2.2.1; omega)
                        rw [← HDE.out] at kc2
                        have HK4 := Lib.hid hk4; have HQ4 := Lib.hid hq4; have HL4 := Lib.hid hl4; clear hk4 hq4 hl4 hok4 d0 d1 d2)))
                  go_meet
                  exact ⟨_, ts4, E4, rfl, by simp, HQ4, Lib.hid (by have := HL4.out; have := HEi.out; omega), Lib.hid ((HWo.out.trans HK3.out.below).trans HK4.out.below)⟩
            · have e1 : (kd == 1) = false := by simpa using hk1
              rcases Classical.em (kd = 2) with hk2 | hk2
              · subst hk2
                by_cases hneg : nn < 0
                · go_wp2
                  go_quiet (fail)
                  go_wp2
                  go_meet
                  exact ⟨_, ts, E, rfl, by simp, Lib.hid (HXo.out.later (below_drewN (Below.refl _ _) _)), Lib.hid (by have := HEi.out; omega), Lib.hid (below_drewN HWo.out _)⟩
                · have hd : decide (nn < 0) = false := by simpa using hneg
                  obtain ⟨n, hwn, hn64⟩ : ∃ n : Nat, IntKind.u64.wrap nn = (n : Int) ∧ n < 18446744073709551616 := ⟨(IntKind.u64.wrap nn).toNat, by rw [IntKind.wrap_u64]; omega, by rw [IntKind.wrap_u64]; omega⟩
                  obtain ⟨er, hcc⟩ := both_disc (HXo.out.later (bl_drew (Below.refl _ _))) n hn64
                  rw [← hwn] at hcc
                  clear hwn hn64
                  have HN1 := Lib.hid hcc
                  have k0 : wq.drew.cell? ⟨oo, 1, none⟩ = some (.int .i64 nn) := HOB.out.drawn.read rfl
                  have HXd := Lib.hid (HXo.out.later (bl_drew (Below.refl _ _)))
                  have HWd := Lib.hid (bl_drew HWo.out)
                  clear hcc
                  go_wp2
                  go_region_held3 (fun w' => w'.cell? ⟨oo, 1, none⟩ = some (.int .i64 nn)) (first | with_reducible exact k0 | exact HO3.out.read rfl | exact HO4.out.read rfl | go_keep)
                    (first
                      | (go_at_call 19; (with_reducible refine HN1.out.mono ?_); rintro e w3 ⟨rfl, hk3, hc3⟩; (have HK3 := Lib.hid hk3; have HN2 := Lib.hid hc3; have HO3 := Lib.hid (hk3.other HOB.out.drawn not_xq_op); clear hk3 hc3))
                      | (go_at_call 20; (with_reducible refine HN2.out.mono ?_); rintro e w4 ⟨rfl, hk4, ts4, E4, hq4, hl4⟩; (have HK4 := Lib.hid hk4; have HQ4 := Lib.hid hq4; have HL4 := Lib.hid hl4; have HO4 := Lib.hid (hk4.other HO3.out not_xq_op); clear hk4 hq4 hl4)))
                  go_wp2
                  go_meet
                  exact ⟨_, ts4, E4, rfl, by simp, HQ4, Lib.hid (by have := HL4.out; have := HEi.out; omega), Lib.hid ((HWd.out.trans HK3.out.below).trans HK4.out.below)⟩
              · have e2 : (kd == 2) = false := by simpa using hk2
                rcases Classical.em (kd = 3) with hk3 | hk3
                · subst hk3
                  have HN1 := Lib.hid (both_clear HXo.out)
                  have HTL := Lib.hid HXo.out.ln
                  have hidv := idv_u64 ts
                  go_wp2_with (first
                    | (go_at_call 22; (with_reducible refine HN1.out.mono ?_); rintro e w3 ⟨g, rfl, hg, hrow, hk3, hc3⟩; (have HK3 := Lib.hid hk3; have HN2 := Lib.hid hc3; have HS3 := Lib.hid (row_slat (Nat.zero_le g) hrow); have HG := Lib.hid hrow; clear hg hk3 hc3 hrow))
                    | (go_at_call 23; (with_reducible refine HN2.out.mono ?_); rintro e w4 ⟨A4, c4, rfl, hs4, hk4, hq4, hl4⟩; (have HK4 := Lib.hid hk4; have HQ4 := Lib.hid hq4; have HL4 := Lib.hid hl4; have HS4 := Lib.hid hs4; have HS3b := Lib.hid (row_slat (Nat.zero_le g) (hk4.other HG.out (by unfold XQ; decide))); clear hk4 hq4 hl4 hs4; rw [hidv] at HS4 HS3b))
                    | (go_at_call 21; (with_reducible refine (qsame_any _ _ (ts.map Txt.id) _ (by simp) (by have := HTL.out; omega) HS3b.out HS4.out).mono ?_); rintro e w5 ⟨rfl, hb5⟩; (have HB5 := Lib.hid hb5; clear hb5)))
                  go_meet
                  exact ⟨_, [], _, rfl, by simp, Lib.hid (HQ4.out.later HB5.out), Lib.hid (by have := HL4.out; have := HEi.out; omega), Lib.hid (bl_step ((HWo.out.trans HK3.out.below).trans HK4.out.below) HB5.out)⟩
                · have e3 : (kd == 3) = false := by simpa using hk3
                  go_wp2
                  go_meet
                  exact ⟨_, ts, E, rfl, rfl, HXo, Lib.hid (by have := HEi.out; omega), HWo⟩
        case rest =>
          obtain ⟨wy, ts', E', hwy, rfl, HXy, HEy, HWy⟩ := hcut
          subst hwy
          clear HXo HWo HBr HWr HOB d0 d1 d2
          have HTL := Lib.hid HXy.out.ln
          cases ts' with
          | nil =>
            have HN1 := Lib.hid (both_front_none HXy.out)
            have HBT := Lib.hid (both_bytes HXy.out)
            have kc := conv_src (w := wy) (A := none) (l := []) 0 0 rfl (fun h0 => absurd h0 (by simp [bts])) (by simp)
            go_wp2_with (first
              | (go_at_call 24; (with_reducible refine HN1.out.mono ?_); rintro e _ ⟨rfl, rfl, hc3⟩; (have HN2 := Lib.hid hc3; clear hc3))
              | (go_at_call 25; (with_reducible refine HN2.out.mono ?_); rintro e _ ⟨rfl, rfl⟩)
              | (go_at_call 26; (with_reducible refine HBT.out.mono ?_); rintro e w5 ⟨rfl, hk5, hc5⟩; (have HK5 := Lib.hid hk5; have HN5 := Lib.hid hc5; clear hk5 hc5))
              | (go_at_call 27; (with_reducible refine HN5.out.mono ?_); rintro e w6 ⟨rfl, hk6, hq6⟩; (have HK6 := Lib.hid hk6; have HQ6 := Lib.hid hq6; have HN6 := Lib.hid (both_ids hq6); clear hk6 hq6))
              | (go_at_call 28; (with_reducible refine HN6.out.mono ?_); rintro e w7 ⟨g7, rfl, _, hr7, hk7, hc7⟩; (have HK7 := Lib.hid hk7; have HR7 := Lib.hid hr7; have HN7 := Lib.hid hc7; clear hk7 hc7 hr7))
              | (go_at_call 29; (with_reducible refine HN7.out.mono ?_); rintro e w8 ⟨A8, c8, rfl, hs8, hk8, hq8⟩; (have HK8 := Lib.hid hk8; have HQ8 := Lib.hid hq8; have HS8 := Lib.hid hs8; have HS7 := Lib.hid (row_slat (Nat.zero_le g7) (hk8.other HR7.out (by unfold XQ; decide))); clear hk8 hq8 hs8; rw [idv_u64] at HS8 HS7))
              | (go_at_call 21; (with_reducible refine (qsame_any _ _ (List.map Txt.id []) _ (by simp) (by simp) HS7.out HS8.out).mono ?_); rintro e w9 ⟨rfl, hb9⟩; (have HB9 := Lib.hid hb9; clear hb9)))
            go_roundw
            case rel => exact ⟨i + 1, [], E', by have := HI.out.2; omega, by have := HI.out.1; omega, by go_num, Lib.hid (HQ8.out.later HB9.out), HEy, Lib.hid (bl_step ((((HWy.out.trans HK5.out.below).trans HK6.out.below).trans HK7.out.below).trans HK8.out.below) HB9.out)⟩
            case measure => have := HI.out.2; simp [intOf]; omega
          | cons t r =>
            obtain ⟨e, hm, hd, hcc⟩ := both_front HXy.out
            have HN1 := Lib.hid hcc
            have HB8 := Lib.hid (HXy.out.b8 e hm)
            have HDE := Lib.hid hd
            clear hcc hm hd
            go_wp2_with (first
              | (go_at_call 24; (with_reducible refine HN1.out.mono ?_); rintro e' w3 ⟨hf3, hk3, hc3⟩; (obtain ⟨g3, rfl, _, hqb, _⟩ := hf3; have HK3 := Lib.hid hk3; have HN2 := Lib.hid hc3; have HQB := Lib.hid hqb; clear hk3 hc3 hqb))
              | (go_at_call 25; (with_reducible refine HN2.out.mono ?_); rintro e' w4 ⟨rfl, hk4, hq4, hok4⟩; (
                  have kc1 := qb_conv t.bs.length t.bs.length rfl (HQB.out.kr hk4) (fun b hb => HB8.out b (by rw [HDE.out] at hb; exact List.mem_of_mem_drop hb))
                  have kc2 := Ent.conv_rest hok4 HB8.out (e.c - e.tk)
                  rw [← HDE.out] at kc2
                  have HBT := Lib.hid (both_bytes hq4)
                  have HK4 := Lib.hid hk4; clear hk4 hq4 hok4))
              | (go_at_call 26; (with_reducible refine HBT.out.mono ?_); rintro e w5 ⟨rfl, hk5, hc5⟩; (have HK5 := Lib.hid hk5; have HN5 := Lib.hid hc5; clear hk5 hc5))
              | (go_at_call 27; (with_reducible refine HN5.out.mono ?_); rintro e w6 ⟨rfl, hk6, hq6⟩; (have HK6 := Lib.hid hk6; have HQ6 := Lib.hid hq6; have HN6 := Lib.hid (both_ids hq6); clear hk6 hq6))
              | (go_at_call 28; (with_reducible refine HN6.out.mono ?_); rintro e w7 ⟨g7, rfl, _, hr7, hk7, hc7⟩; (have HK7 := Lib.hid hk7; have HR7 := Lib.hid hr7; have HN7 := Lib.hid hc7; clear hk7 hc7 hr7))
              | (go_at_call 29; (with_reducible refine HN7.out.mono ?_); rintro e w8 ⟨A8, c8, rfl, hs8, hk8, hq8⟩; (have HK8 := Lib.hid hk8; have HQ8 := Lib.hid hq8; have HS8 := Lib.hid hs8; have HS7 := Lib.hid (row_slat (Nat.zero_le g7) (hk8.other HR7.out (by unfold XQ; decide))); clear hk8 hq8 hs8; rw [idv_u64] at HS8 HS7))
              | (go_at_call 21; (with_reducible refine (qsame_any _ _ (List.map Txt.id (t :: r)) _ (by simp) (by have h9 := HTL.out; rw [List.length_cons] at h9; omega) HS7.out HS8.out).mono ?_); rintro e w9 ⟨rfl, hb9⟩; (have HB9 := Lib.hid hb9; clear hb9)))
            go_roundw
            case rel => exact ⟨i + 1, t :: r, E', by have := HI.out.2; omega, by have := HI.out.1; omega, by go_num, Lib.hid (HQ8.out.later HB9.out), HEy, Lib.hid (bl_step ((((((HWy.out.trans HK3.out.below).trans HK4.out.below).trans HK5.out.below).trans HK6.out.below).trans HK7.out.below).trans HK8.out.below) HB9.out)⟩
            case measure => have := HI.out.2; simp [intOf]; omega
    · have HB3 := Lib.hid (bl_alloc (Below.refl wr.heap.size wr) (.cells #[.int .i64 0, .int .u64 0, .slice none 0 0] 51))
      have HZ3 := Lib.hid (Row.made wr 51 #[.int .i64 0, .int .u64 0, .slice none 0 0])
      rcases Nat.lt_or_ge i n0 with hc | hc
      all_goals
        first
          | (have hi1 : (i : Int) < n0 := (by omega); have hi2 : ¬ (i : Int) < 100 := (by omega))
          | (have hi1 : ¬ (i : Int) < n0 := (by omega))
        clear hlt hc hi hin
        go_wp2_with (first
          | (go_at_call 15; (with_reducible refine (push_nil _ _).mono ?_); rintro e _ ⟨rfl, rfl⟩; (have HZ4 := Lib.hid (HZ3.out.later (bl_alloc (Below.refl _ _) (.cells #[.int .u8 1] 5))); have HB4 := Lib.hid (bl_alloc HB3.out (.cells #[.int .u8 1] 5))))
          | (go_at_call 17; (with_reducible refine (take_zero 1 HZ4.out).mono ?_); rintro e _ ⟨rfl, rfl⟩)
          | (go_at_call 24; (with_reducible refine (front_nil _).mono ?_); rintro e _ ⟨rfl, rfl⟩)
          | (go_at_call 14; (with_reducible refine (HA.out _).mono ?_); rintro e w6 ⟨rfl, hb⟩; (have HB6 := Lib.hid (bl_step HB4.out hb); have HZ6 := Lib.hid (HZ4.out.later hb); clear hb))
          | (go_at_call 19; (with_reducible refine (discard_nil 1 _).mono ?_); rintro e _ ⟨rfl, rfl⟩)
          | (go_at_call 19; (with_reducible refine (discard_zero 1 HZ6.out).mono ?_); rintro e _ ⟨rfl, rfl⟩)
          | (go_at_call 26; (with_reducible refine (qbytes_nil _).mono ?_); rintro e _ ⟨rfl, rfl⟩)
          | (go_at_call 28; (with_reducible refine (ids_nil _).mono ?_); rintro e _ ⟨rfl, rfl⟩)
          | (go_at_call 22; (with_reducible refine (clear_zero HZ6.out).mono ?_); rintro e _ ⟨rfl, rfl⟩)
          | (go_at_call 22; (with_reducible refine (clear_nil _).mono ?_); rintro e _ ⟨rfl, rfl⟩))
        go_ret
        exact ⟨rfl, bl_step HWr.out HB6.out⟩
theorem qlives_every (A0 : Option Addr) (n0 c0 : Nat) (room : Int) (l0 : List OpB) (W : World) (hl0 : l0.length = n0) (hm0 : n0 ≤ 9223372036854775807) (hs0 : BSrc04 W A0 l0) :
    Calls Try.prog 3 #[.int .i64 room, .slice A0 n0 c0] W fun e w' => e = .returned (.bool true) ∧ Below W.heap.size W w' := by
  by_cases h : room < 1 ∨ 20000 < room
  · exact qlives_bad A0 n0 c0 room W h
  · exact qlives_ok A0 n0 c0 room l0 W hl0 hm0 hs0 (by omega) (by omega)
end
end Go.Proofs.Ytbcjfdhphpckfaa
namespace Go.Proofs.Ytbcjfdhphpckfaa
open Go.ChangeShapes Go.WideShapes Go.ChangeAt Go.RowKit

theorem lawOwn : ownKnob Try.prog.godebug = none := by kernel_rfl
theorem lawLaid : laidOutB Try.prog = true := by kernel_rfl

section
variable {H : Type} {enc : TypeId × Value → H} {P : Program}
/-- what was read in the old world is read in the new one -/
theorem args_stay (hl : laidOutB P = true) {W W' : World} (hb : Below W.heap.size W W') : ∀ (ts : List TypeId) (vs : List Value) (ds : List (DataW H)) (ps : List MemPlace),
    (∀ t ∈ ts, P.readableRec t = true ∧ t < P.types.size) → DataW.TrodAll enc P W 0 (fun _ => true) true ts vs ds ps → (∀ x ∈ ps, x.block < W.heap.size) →
    DataW.TrodAll enc P W' 0 (fun b => decide (b < W.heap.size)) true ts vs ds ps := by
  intro ts
  induction ts with
  | nil =>
    intro vs ds ps _ h _
    obtain ⟨rfl, rfl, rfl⟩ := trodAll_nil h
    exact trodAll_mk0
  | cons t ts ih =>
    intro vs ds ps hr h hlt
    obtain ⟨v, vs', d, ds', p, q, rfl, rfl, rfl, h1, h2⟩ := trodAll_cons h
    have ht := hr t (List.mem_cons_self ..)
    exact trodAll_cons_mk (Below.trod hl ht.1 ht.2 h1 hb fun x hx => hlt x (List.mem_append_left _ hx))
      (ih vs' ds' q (fun u hu => hr u (List.mem_cons_of_mem _ hu)) h2 fun x hx => hlt x (List.mem_append_right _ hx))

theorem law_post {f : Func} {s : ChangeSpec} {W W' : World} {args : Array Value} {ds gs : List (DataW H)} {before : List MemPlace} {B : TypeId}
    (hl : laidOutB P = true) (hr : f.params.toList.all (fun t => P.readableRec t && decide (t < P.types.size)) = true) (hv : s.vars = [])
    (hW : DataW.Whole enc P f.params.toList s.vars false W args.toList ds gs before)
    (hs : s.fn H (ds ++ gs) = { results := [.lit (.bool true)], args := ds }) (ht : f.resultTypes = #[B]) (hB : P.underlying B = some .bool)
    (hb : Below W.heap.size W W') : s.post enc P f false true false false W args (.bool true) W' := by
  have hW' := hW
  obtain ⟨p, q, hA, hV, rfl, _, _⟩ := hW
  rw [hv] at hV
  obtain ⟨rfl, rfl⟩ := trodVars_none hV
  refine ⟨ds, [], p ++ [], [], p, [], hW', ?_, ?_, ?_, hb.frame _, fun h => by cases h⟩
  · rw [hs, ht]
    exact trodAll_mk1 (shut_bool hB true)
  · rw [hs]
    exact args_stay hl hb _ _ _ _ (fun t h => by have := List.all_eq_true.1 hr t h; simpa using this) hA fun x hx => hW'.lt x (List.mem_append_left _ hx)
  · rw [hs, hv]
    exact rfl
end
end Go.Proofs.Ytbcjfdhphpckfaa
namespace Go.Proofs.Ytbcjfdhphpckfaa
open Go.ChangeShapes Go.WideShapes Go.ChangeAt Go.RowKit Go.Deep


theorem Try.cells5 : Try.prog.cellsOf 5 = 1 := by kernel_rfl
theorem Try.cells34 : Try.prog.cellsOf 34 = 1 := by kernel_rfl
theorem nums_src {W : World} {a : Addr} {cap len : Nat} {zs : List Int} (hl : len ≤ cap) (hz : zs.length = cap) (hc : ∀ j, j < cap → W.cell? (a.add j) = some (.int .u8 (zs.getD j 0))) (hw : ∀ n ∈ zs, (Lit.int .u8 n).wf = true) :
    ((zs.take len).map Int.toNat).length = len ∧ Src W (some a) (bts ((zs.take len).map Int.toNat)) ∧ ∀ b ∈ (zs.take len).map Int.toNat, b < 256 := by
  have hlen : ((zs.take len).map Int.toNat).length = len := by rw [List.length_map, List.length_take]; omega
  refine ⟨hlen, fun h0 => ⟨a, rfl, fun j u hu => ?_⟩, fun b hb => ?_⟩
  · have hj : j < len := by
      have h1 := (List.getElem?_eq_some_iff.1 hu).1
      rw [length_bts, hlen] at h1
      exact h1
    have h2 := hc j (by omega)
    rw [h2]
    have hjz : j < zs.length := by omega
    have hww := bounds_u8 (hw zs[j] (List.getElem_mem hjz))
    have h3 : ((zs.take len).map Int.toNat)[j]? = some zs[j].toNat := by
      rw [List.getElem?_map, List.getElem?_take, if_pos hj, List.getElem?_eq_getElem hjz]
      rfl
    have h4 := bts_at h3
    rw [h4] at hu
    injection hu with hu
    rw [← hu, List.getD_eq_getElem?_getD, List.getElem?_eq_getElem hjz]
    simp only [Option.getD_some]
    rw [Int.toNat_of_nonneg hww.1]
  · rw [List.mem_map] at hb
    obtain ⟨z, hz2, rfl⟩ := hb
    have hww := bounds_u8 (hw z (List.mem_of_mem_take hz2))
    omega
set_option maxRecDepth 100000 in
theorem bytes_arg {H : Type} {enc : TypeId × Value → H} {W : World} {base : Nat} {v : Value} {d : DataW H} {p : List MemPlace} (hok : Value.okWide Try.prog W .any base 34 v)
    (h : DataW.Trod enc Try.prog W 0 (fun _ => true) true 34 v d p) : ∃ (A : Option Addr) (cap : Nat) (l : List Nat), v = .slice A l.length cap ∧ l.length ≤ cap ∧ cap ≤ 9223372036854775807 ∧ Src W A (bts l) ∧ ∀ b ∈ l, b < 256 := by
  obtain ⟨a0, len, cap, rfl⟩ := okWide_slice Try.underlying34 hok
  obtain ⟨fuel, hf⟩ := h
  rcases open_ints Try.underlying34 Try.underlying5 Try.cells5 hf with ⟨hcs, _⟩ | ⟨a, len', cap', zs, hcs, _, hl, hm, hz, _, hcell, hwz⟩
  · simp only [Value.cells] at hcs
    have e : Value.slice a0 len cap = .slice none 0 0 := by simpa using hcs
    rw [e]
    exact ⟨none, 0, [], rfl, Nat.le_refl _, by omega, fun h0 => absurd h0 (by simp [bts]), fun b hb => by cases hb⟩
  · have e : Value.slice a0 len cap = .slice (some a) len' cap' := by simpa [Value.cells] using hcs
    rw [e]
    have hz' : zs.length = cap' := by simpa using hz
    obtain ⟨h1, h2, h3⟩ := nums_src (W := W) (a := a) hl hz' (fun j hj => hcell j (by omega)) hwz
    exact ⟨some a, cap', _, by rw [h1], by omega, by unfold maxLen at hm; exact hm, h2, h3⟩
set_option maxRecDepth 100000 in
theorem rows_cells {H : Type} {enc : TypeId × Value → H} {W : World} {fuel : Nat} {v : Value} {y : DataW H × List MemPlace} (hf : DataW.trod enc Try.prog W 0 (fun _ => true) true fuel 29 [v] = some y) :
    ∃ (A : Option Addr) (cap : Nat) (L : List RowB), v = .slice A L.length cap ∧ L.length ≤ cap ∧ cap ≤ 9223372036854775807 ∧ RSrc W A L ∧ ∀ m ∈ lens L, m ≤ 9223372036854775807 := by
  rcases open_int_rows Try.underlying29 Try.underlying34 Try.underlying5 Try.cells34 Try.cells5 hf with ⟨hcs, _⟩ | ⟨a, len', cap', A, L, C, Z, hcs, _, hl, hm, _, hx⟩
  · have e : v = .slice none 0 0 := by simpa [Value.cells] using hcs
    rw [e]
    exact ⟨none, 0, [], rfl, Nat.le_refl _, by omega, fun h0 => absurd h0 (by simp), fun m hm => by cases hm⟩
  · have e : v = .slice (some a) len' cap' := by simpa [Value.cells] using hcs
    rw [e]
    have hlen : ((List.range len').map fun k => (⟨A k, C k, ((Z k).take (L k)).map Int.toNat⟩ : RowB)).length = len' := by simp
    have hrow : ∀ k r, ((List.range len').map fun k => (⟨A k, C k, ((Z k).take (L k)).map Int.toNat⟩ : RowB))[k]? = some r → W.cell? (a.add k) = some r.v ∧ r.ok W := by
      intro k r hr
      have hk : k < len' := by
        have h1 := (List.getElem?_eq_some_iff.1 hr).1
        rw [hlen] at h1
        exact h1
      have hr' : r = ⟨A k, C k, ((Z k).take (L k)).map Int.toNat⟩ := by
        rw [List.getElem?_map, List.getElem?_range hk] at hr
        simp only [Option.map_some, Option.some.injEq] at hr
        exact hr.symm
      subst hr'
      obtain ⟨h1, h2, h3, h4, h5, h6, h7⟩ := hx k (by omega)
      unfold maxLen at h3
      have hll : (((Z k).take (L k)).map Int.toNat).length = L k := by rw [List.length_map, List.length_take]; omega
      refine ⟨by rw [h1]; show _ = some (Value.slice (A k) (((Z k).take (L k)).map Int.toNat).length (C k)); rw [hll], ?_⟩
      cases hA : A k with
      | none =>
        have hc0 := h6 hA
        have hl0 : L k = 0 := by omega
        refine ⟨fun h0 => ?_, by rw [hll]; exact h2, h3, fun b hb => ?_⟩
        · rw [length_bts, hll] at h0; omega
        · rw [hl0] at hb; simp at hb
      | some a' =>
        obtain ⟨_, hc⟩ := h7 a' hA
        obtain ⟨_, g2, g3⟩ := nums_src (W := W) h2 h4 hc h5
        exact ⟨g2, by rw [hll]; exact h2, h3, g3⟩
    refine ⟨some a, cap', (List.range len').map fun k => ⟨A k, C k, ((Z k).take (L k)).map Int.toNat⟩, by rw [hlen], by omega, by unfold maxLen at hm; exact hm, fun h0 => ⟨a, rfl, hrow⟩, fun m hm2 => ?_⟩
    obtain ⟨k, hk⟩ := List.getElem?_of_mem hm2
    simp only [lens, List.getElem?_map, Option.map_eq_some_iff] at hk
    obtain ⟨r, hr, rfl⟩ := hk
    have h9 := (hrow k r (by rw [List.getElem?_map, Option.map_eq_some_iff]; exact hr)).2
    have := h9.2.1
    have := h9.2.2.1
    omega
set_option maxRecDepth 100000 in
/-- a packet of umd as it came in -/
theorem upack_arg {H : Type} {enc : TypeId × Value → H} {W : World} {base : Nat} {v : Value} {d : DataW H} {p : List MemPlace} (hok : Value.okWide Try.prog W .any base 198 v)
    (h : DataW.Trod enc Try.prog W 0 (fun _ => true) true 198 v d p) : ∃ (fi sn : Int) (A : Option Addr) (cap : Nat) (L : List RowB), v = .agg #[.int .i64 fi, .int .i64 sn, .slice A L.length cap] ∧ L.length ≤ cap ∧ cap ≤ 9223372036854775807 ∧ RSrc W A L ∧ ∀ m ∈ lens L, m ≤ 9223372036854775807 := by
  obtain ⟨v0, v1, v2, y0, y1, y2, k, rfl, _, _, h0, h1, h2⟩ := Joins.open_agg3 Try.underlying198 (by kernel_rfl) (by kernel_rfl) hok h
  obtain ⟨A, cap, L, rfl, g1, g2, g3, g4⟩ := rows_cells h2
  obtain ⟨fi, rfl⟩ : ∃ fi, v0 = .int .i64 fi := by
    obtain ⟨n, h9, _⟩ := DataW.trod_int Try.underlying3 h0
    exact ⟨n, by simpa using h9⟩
  obtain ⟨sn, rfl⟩ : ∃ sn, v1 = .int .i64 sn := by
    obtain ⟨n, h9, _⟩ := DataW.trod_int Try.underlying3 h1
    exact ⟨n, by simpa using h9⟩
  exact ⟨fi, sn, A, cap, L, rfl, g1, g2, g3, g4⟩
end Go.Proofs.Ytbcjfdhphpckfaa
