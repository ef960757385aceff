/-
  The fixed calls at the end of each statement of queue come out as they should.
-/
import Derived.Test.YtmaefeckkodllaaQueueFront
import Derived.Laws.BytesString
import Derived.Lib.SlBytesConst
namespace Go.Proofs.Ytmaefeckkodllaa
open Go.RowKit

/-- bytes as a text -/
def strOf (l : List Nat) : ByteArray := ⟨(l.map UInt8.ofNat).toArray⟩

theorem conv_src {w : World} {A : Option Addr} {c : Nat} {l : List Nat} (h : SrcB w A (bts l)) (hb : ∀ b ∈ l, b < 256) (h0 : 0 < l.length) :
    (convert 64 9 (.slice A l.length c)).run Try.prog w = .ok (.string (strOf l)) w := by
  obtain ⟨g, off, rfl, hc⟩ := h (by rw [length_bts]; exact h0)
  have hx := run_convert_bytes_back (P := Try.prog) w 64 9 5 ⟨g, off, none⟩ c (l.map UInt8.ofNat) Try.underlying64 Try.underlying5 Try.underlying9 (fun j hj => by
    have hj' : j < l.length := by simpa using hj
    have e : (⟨g, off, none⟩ : Addr).add j = ⟨g, off + j, none⟩ := by
      unfold Addr.add
      split
      · rename_i h; rw [h]; rfl
      · rfl
    rw [e]
    have h1 : (bts l)[j]? = some (.int .u8 (l[j] : Nat)) := bts_at (List.getElem?_eq_getElem hj')
    have h2 := hc j _ h1
    rw [h2, List.getElem_map]
    have h3 : (UInt8.ofNat l[j]).toNat = l[j] := UInt8.toNat_ofNat_of_lt' (hb _ (List.getElem_mem hj'))
    rw [h3])
  rw [List.length_map] at hx
  exact hx
theorem Bytes.src {w : World} {g : Nat} {l : List Nat} (h : Bytes w g l) : SrcB w (some ⟨g, 0, none⟩) (bts l) := by
  obtain ⟨cs, h4, h5⟩ := h
  intro _
  refine ⟨_, _, rfl, fun j u hu => ?_⟩
  have hj : j < l.length := by have := (List.getElem?_eq_some_iff.1 hu).1; rw [length_bts] at this; exact this
  have hb := bts_at (List.getElem?_eq_getElem hj)
  rw [hu] at hb
  injection hb with hb
  rw [hb, Nat.zero_add]
  exact h4.read (h5 j _ (List.getElem?_eq_getElem hj))
theorem row_bytes {w : World} {g : Nat} {l : List Nat} (h : Row w g 5 (bts l).toArray) : Bytes w g l := ⟨_, h, fun j b hb => by simpa using bts_at hb⟩

def zero8 (n : Nat) : List Nat := List.replicate n 0
theorem make_zero8 (n : Nat) (h : n ≤ 1000000) (w : World) :
    (Instr.makeSlice 64 (.int .i64 (n : Int)) (.int .i64 (n : Int))).run Try.prog w = .ok (.slice (some ⟨w.heap.size, 0, none⟩) n n) (w.alloc (.cells (bts (zero8 n)).toArray 5)) := by
  obtain ⟨i, hi, hz, hs, hb⟩ := info5_parts
  have h := run_make (P := Try.prog) w 64 5 i _ Try.underlying64 hi hz .i64 .i64 n n (by omega) (Int.le_refl _) (by rw [hb]; omega) (by omega)
  rw [h, hs, Nat.mul_one, Int.toNat_natCast]
  have e : madeCells #[.int .u8 0] n = (bts (zero8 n)).toArray := by
    apply Array.toList_inj.1
    rw [toList_madeCells_one]
    simp [bts, zero8]
  rw [← e]
  rfl

theorem src_mark {B : Nat} (w1 : World) (l : List Nat) (fr : Nat × Nat) (W : World) (h : QOnly B (w1.alloc (.cells (bts l).toArray 5 fr)) W) : SrcB W (some ⟨w1.heap.size, 0, none⟩) (bts l) := by
  intro _
  have hnew : (w1.alloc (.cells (bts l).toArray 5 fr)).heap[w1.heap.size]? = some (.cells (bts l).toArray 5 fr) := heap_alloc_new w1 _
  have hW : W.heap[w1.heap.size]? = some (.cells (bts l).toArray 5 fr) := by
    rw [Only.same h w1.heap.size (by simp) (fun ⟨_, t, cs, hr, ht⟩ => ?_)]
    · exact hnew
    · unfold Row at hr
      rw [hnew] at hr
      injection hr with hr
      injection hr with _ hr
      subst hr
      rcases ht with ht | ht
      · exact absurd ht (by decide)
      · exact absurd ht (by decide)
  refine ⟨_, _, rfl, fun j u hu => ?_⟩
  rw [Nat.zero_add, cell_of_row W w1.heap.size j _ 5 fr hW]
  simpa using hu

set_option maxRecDepth 100000 in
set_option maxHeartbeats 3200000 in
theorem alive4_any (w : World) :
    Calls Try.prog 29 #[] w fun e w' => e = .returned (.bool true) ∧ Below w.heap.size w w' := by
  go_enter Try.func29, Try.ntmps29
  go_wp2_with fail
  refine (qnew_any w.heap.size 10 w (Nat.le_refl _) (by omega) (by omega)).mono ?_
  rintro e w1 ⟨rfl, hq1, hb1⟩
  have HQ1 := Lib.hid hq1
  have HB1 := Lib.hid hb1
  have hs1 := hb1.size
  clear hq1 hb1
  have kc := Lib.run_convert_bytes_const (P := Try.prog) w1 64 5 #[.int .u8 97, .int .u8 98] 2 2 Try.underlying64 Try.underlying5
  go_wp2_with fail
  refine (push_ok (some ⟨w1.heap.size, 0, none⟩) [97, 98] 2 (HQ1.out.later (bl_alloc (Below.refl _ _) _)) (by omega) (by omega) (by simp) (by simp) (by simp) (by simp [bytesF]) (by omega) (fun W hW => src_mark w1 [97, 98] _ W hW)).mono ?_
  rintro e w2 ⟨rfl, ⟨t, ht1, ht2, ht3, hq2⟩, ho2⟩
  have hs2 := ho2.size
  simp at hs2
  have HQ2 := Lib.hid (show QRep w.heap.size w2 w.heap.size 10 1 [t] from hq2)
  have HO2 := Lib.hid (HB1.out.trans (((QOnly.of_below (B := w.heap.size) (bl_alloc (Below.refl _ _) _)).trans ho2).below hs1))
  have HT := Lib.hid (And.intro ht1 (And.intro ht2 ht3))
  clear hq2 ho2 ht1 ht2 ht3 kc
  go_wp2_with fail
  refine (take_ok 1 HQ2.out (by omega) (by omega) (by rw [HT.out.2.1]; simp) (by rw [HT.out.2.1]; simp) (by simp)).mono ?_
  rintro e w3 ⟨g3, rfl, hg3, hby3, ho3, t3, h31, h32, h33, hq3⟩
  rw [if_neg (by rw [HT.out.2.1]; simp)] at hq3
  rw [HT.out.2.1] at hby3 h32 ⊢
  have hs3 := ho3.size
  have HQ3 := Lib.hid hq3
  have HBY3 := Lib.hid (show Bytes w3 g3 [97] from hby3)
  have HO3 := Lib.hid (HO2.out.trans (ho3.below (by omega)))
  have HT3 := Lib.hid (And.intro (h31.trans HT.out.1) (And.intro (show t3.bs = [98] from h32) h33))
  clear hq3 hby3 ho3 h31 h32 h33 hg3
  go_wp2_with fail
  refine (front_ok HQ3.out (by omega) (by rw [HT3.out.2.1]; simp) (by rw [HT3.out.2.1]; simp)).mono ?_
  rintro e w4 ⟨g4, rfl, hg4, hby4, hb4⟩
  rw [HT3.out.2.2]
  have HQ4 := Lib.hid (HQ3.out.later hb4)
  have HBY4 := Lib.hid (HBY3.out.later hb4)
  have HO4 := Lib.hid (bl_step HO3.out hb4)
  have hs4 := hb4.size
  clear hby4 hb4 hg4
  go_wp2_with fail
  refine (discard_any 1 HQ4.out (by omega) (by simp)).mono ?_
  rintro e w5 ⟨rfl, hq5, ho5⟩
  have hpl : placeF 1 [t3] = 0 := by unfold placeF; rw [List.findIdx_cons, HT3.out.1]; rfl
  have hE : discE 1 [t3] = 7 := by unfold discE; rw [hpl]; simp [HT3.out.2.2]
  have hF : discF 1 [t3] = [t3] := by unfold discF; rw [hpl]; simp [HT3.out.2.2]
  rw [hE]
  rw [hF] at hq5
  have hs5 := ho5.size
  have HQ5 := Lib.hid hq5
  have HBY5 := Lib.hid (HBY4.out.q ho5)
  have HO5 := Lib.hid (HO4.out.trans (ho5.below (by omega)))
  clear hq5 ho5 hE hF hpl
  go_wp2_with fail
  refine (take_ok 1 HQ5.out (by omega) (by omega) (by rw [HT3.out.2.1]; simp) (by rw [HT3.out.2.1]; simp) (by simp)).mono ?_
  rintro e w6 ⟨g6, rfl, hg6, hby6, ho6, t6, h61, h62, h63, hq6⟩
  rw [if_pos (by rw [HT3.out.2.1]; rfl)] at hq6
  rw [HT3.out.2.1] at hby6 h62 ⊢
  have hs6 := ho6.size
  have HQ6 := Lib.hid hq6
  have HBY6 := Lib.hid (And.intro (HBY5.out.q ho6) (show Bytes w6 g6 [98] from hby6))
  have HO6 := Lib.hid (HO5.out.trans (ho6.below (by omega)))
  clear hq6 hby6 ho6 h61 h62 h63 hg6
  have hmk : (Instr.makeSlice 64 (.int .i64 11) (.int .i64 11)).run Try.prog w6 = .ok (.slice (some ⟨w6.heap.size, 0, none⟩) 11 11) (w6.alloc (.cells (bts (zero8 11)).toArray 5)) := make_zero8 11 (by omega) w6
  go_wp2_with fail
  refine (push_full (some ⟨w6.heap.size, 0, none⟩) 11 11 (HQ6.out.later (bl_alloc (Below.refl _ _) _)) (by omega) (by omega) (by simp [bytesF]) (by omega) (by omega) (by simp) (.inr (by simp [bytesF]))).mono ?_
  rintro e w7 ⟨rfl, hb7⟩
  have hb7' := bl_step (bl_alloc (Below.refl w6.heap.size w6) _) hb7
  have hv1 := conv_src (c := 1) (HBY6.out.1.later hb7').src (by decide) (by simp)
  have hv2 := conv_src (c := 1) (HBY6.out.2.later hb7').src (by decide) (by simp)
  have HQ7 := Lib.hid (HQ6.out.later hb7')
  have HO7 := Lib.hid (bl_step HO6.out hb7')
  have hst1 : strOf [97] = ⟨#[97]⟩ := rfl
  have hst2 : strOf [98] = ⟨#[98]⟩ := rfl
  simp only [List.length_singleton] at hv1 hv2
  clear hb7 hb7' hmk
  go_wp2_with fail
  refine (bytes_any HQ7.out (by omega) (by simp [bytesF])).mono ?_
  rintro e w8 ⟨rfl, hb8⟩
  have HB8 := Lib.hid hb8
  clear hb8
  go_wp2
  go_ret
  exact ⟨rfl, bl_step HO7.out HB8.out⟩
end Go.Proofs.Ytmaefeckkodllaa
