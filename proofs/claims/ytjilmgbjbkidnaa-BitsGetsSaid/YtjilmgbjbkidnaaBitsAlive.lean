/-
  The fixed calls at the end of each statement of bits come out as they should.
-/
import Derived.Test.YtjilmgbjbkidnaaBitsRest
import Derived.Laws.BytesString
import Derived.Laws.IdiomStrings
namespace Go.Proofs.Ytjilmgbjbkidnaa
open Go.RowKit

/-- bytes as a text -/
def strOf (l : List Nat) : ByteArray := ⟨(l.map UInt8.ofNat).toArray⟩

theorem conv_str {w : World} {g c : Nat} {l : List Nat} (h : Row w g 5 (bts l).toArray) (hb : ∀ b ∈ l, b < 256) :
    (convert 35 9 (.slice (some ⟨g, 0, none⟩) l.length c)).run Try.prog w = .ok (.string (strOf l)) w := by
  have hx := run_convert_bytes_back (P := Try.prog) w 35 9 5 ⟨g, 0, none⟩ c (l.map UInt8.ofNat) Try.underlying35 Try.underlying5 Try.underlying9 (fun j hj => by
    have hj' : j < l.length := by simpa using hj
    rw [add_zero_addr]
    have h1 : (bts l)[j]? = some (.int .u8 (l[j] : Nat)) := bts_at (List.getElem?_eq_getElem hj')
    have h2 := h.read (i := j) (x := .int .u8 (l[j] : Nat)) (by simpa using h1)
    rw [h2, List.getElem_map]
    have h3 : (UInt8.ofNat l[j]).toNat = l[j] := UInt8.toNat_ofNat_of_lt' (hb _ (List.getElem_mem hj'))
    rw [h3])
  rw [List.length_map] at hx
  exact hx

theorem put_5_3 {B : Nat} {p : Nat} {sv : Value} {bl : List Bool} (w : World) (hr : WRep B w p sv bl) (hl : bl.length ≤ 60000) :
    Calls Try.prog 14 #[.pointer (some ⟨p, 0, none⟩), .int .u64 5, .int .i64 3] w (Wrote B w p sv (bl ++ [true, false, true]) (.returned (.int .i64 0))) :=
  put_any 5 3 w hr (by omega) (by omega) (by omega) (by omega)
theorem put_1_2 {B : Nat} {p : Nat} {sv : Value} {bl : List Bool} (w : World) (hr : WRep B w p sv bl) (hl : bl.length ≤ 60000) :
    Calls Try.prog 14 #[.pointer (some ⟨p, 0, none⟩), .int .u64 1, .int .i64 2] w (Wrote B w p sv (bl ++ [false, true]) (.returned (.int .i64 0))) :=
  put_any 1 2 w hr (by omega) (by omega) (by omega) (by omega)
theorem put_4_2 (p : Nat) (w : World) : Calls Try.prog 14 #[.pointer (some ⟨p, 0, none⟩), .int .u64 4, .int .i64 2] w fun e w' => e = .returned (.int .i64 1) ∧ w = w' :=
  put_arg2 p 4 2 w (by omega) (by omega)
theorem get_3 {p g : Nat} {bs : List Nat} {i : Nat} (w : World) (hr : RRep w p g bs i) (h : i + 3 ≤ 8 * bs.length) :
    Calls Try.prog 22 #[.pointer (some ⟨p, 0, none⟩), .int .i64 3] w fun e w' => e = .returned (.tuple #[.int .u64 (val (seg bs i 3)), .int .i64 0]) ∧ Getting w p g bs i 3 w' :=
  get_any 3 w hr (by omega) h
theorem get_2 {p g : Nat} {bs : List Nat} {i : Nat} (w : World) (hr : RRep w p g bs i) (h : i + 2 ≤ 8 * bs.length) :
    Calls Try.prog 22 #[.pointer (some ⟨p, 0, none⟩), .int .i64 2] w fun e w' => e = .returned (.tuple #[.int .u64 (val (seg bs i 2)), .int .i64 0]) ∧ Getting w p g bs i 2 w' :=
  get_any 2 w hr (by omega) h

theorem wrote_below {B : Nat} {w w' : World} {p : Nat} {sv : Value} {bl : List Bool} (hr : WRep B w p sv bl) (h : Only (fun k => k = p ∨ sv.ownBlock = some k) w w') : Below B w w' :=
  h.below (by have := hr.1; have := hr.2.1.inside; omega) (fun k hk hS => by
    rcases hS with h1 | h1
    · have := hr.1; omega
    · have := (hr.2.2.lt k h1).1; omega)
theorem get_below {B p : Nat} {w w' : World} (h : Only (fun k => k = p) w w') (hp : B ≤ p) (hB : B ≤ w.heap.size) : Below B w w' :=
  h.below hB (fun k hk hS => by omega)

/-- what the fixed calls make -/
theorem alive_pack : pack ([] ++ [true, false, true] ++ [false, true]) = [168] := by decide
theorem alive_str : strOf [168] = ⟨#[168]⟩ := rfl

set_option maxRecDepth 100000 in
set_option maxHeartbeats 1600000 in
theorem alive1_any (w : World) :
    Calls Try.prog 17 #[] w fun e w' => e = .returned (.bool true) ∧ Below w.heap.size w w' := by
  have q1 : val (seg [168] 0 3) = 5 := by decide
  have q2 : val (seg [168] 3 2) = 1 := by decide
  have hb : ∀ b ∈ [168], b < 256 := by decide
  have HB := Lib.hid hb
  clear hb
  go_enter Try.func17, Try.ntmps17
  go_wp2_with (go_at_call 13; refine (new_any w.heap.size _ (Nat.le_refl _)).mono ?_; rintro e w1 ⟨rfl, hr1, hb1⟩; have HR1 := Lib.hid hr1; have HB1 := Lib.hid hb1; clear hr1 hb1)
  refine (put_5_3 _ HR1.out (by simp)).mono ?_
  rintro e w2 ⟨rfl, sv2, hr2, ho2, hy2⟩
  have HR2 := Lib.hid hr2
  have HO2 := Lib.hid ho2
  have HY2 := Lib.hid hy2
  clear hr2 ho2 hy2
  go_wp2_with fail
  refine (put_1_2 _ HR2.out (by simp)).mono ?_
  rintro e w3 ⟨rfl, sv3, hr3, ho3, hy3⟩
  have HR3 := Lib.hid hr3
  have HO3 := Lib.hid ho3
  have HY3 := Lib.hid hy3
  clear hr3 ho3 hy3
  go_wp2_with fail
  refine (bytes_any HR3.out (by simp)).mono ?_
  rintro e w4 ⟨g4, rfl, hg4, hrow4, hb4⟩
  have HROW := Lib.hid hrow4
  rw [alive_pack] at HROW
  have HB4 := Lib.hid hb4
  clear hrow4 hb4
  go_wp2_with fail
  refine (read_any (some ⟨g4, 0, none⟩) 1 [168] _ (by simp) (by simp) (row_src HROW.out) HB.out).mono ?_
  rintro e w5 ⟨p5, g5, rfl, hp5, hg5, hr5, hb5⟩
  have HR5 := Lib.hid hr5
  have HB5 := Lib.hid hb5
  clear hr5 hb5
  go_wp2_with fail
  refine (get_3 _ HR5.out (by simp)).mono ?_
  rintro e w6 ⟨rfl, hr6, hy6⟩
  have HR6 := Lib.hid hr6
  have HY6 := Lib.hid hy6
  clear hr6 hy6
  go_wp2_with fail
  refine (get_2 _ HR6.out (by simp)).mono ?_
  rintro e w7 ⟨rfl, hr7, hy7⟩
  have HR7 := Lib.hid hr7
  have HY7 := Lib.hid hy7
  clear hr7 hy7
  go_wp2_with fail
  have b37 : Below w3.heap.size w3 w7 := by
    have s4 := HB4.out.size
    have s5 := HB5.out.size
    have s6 := HY6.out.size
    exact ((HB4.out.trans (HB5.out.mono s4)).trans (get_below HY6.out (by omega) (by omega))).trans (get_below HY7.out (by omega) (by omega))
  have bw3 : Below w.heap.size w w3 := (HB1.out.trans (wrote_below HR1.out HY2.out)).trans (wrote_below HR2.out HY3.out)
  have HB37 := Lib.hid b37
  have HW7 := Lib.hid (bl_step bw3 b37)
  have HR8 := Lib.hid (HR3.out.later b37)
  clear b37 bw3
  refine (len_any HR8.out).mono ?_
  rintro e _ ⟨rfl, rfl⟩
  go_wp2_with fail
  refine (bytes_any HR8.out (by simp)).mono ?_
  rintro e w8 ⟨g8, rfl, hg8, hrow8, hb8⟩
  have hcv : (convert 35 9 (.slice (some ⟨g8, 0, none⟩) (packLen 5) (packLen 5))).run Try.prog w8 = .ok (.string (strOf [168])) w8 := conv_str (l := [168]) (by rw [alive_pack] at hrow8; exact hrow8) HB.out
  have hst := alive_str
  have HR9 := Lib.hid (HR7.out.later hb8)
  have HB8 := Lib.hid hb8
  clear hrow8 hb8
  go_wp2_with fail
  go_wp2_with (first
    | (go_at_call 24; refine (left_any HR9.out).mono ?_; rintro e w9 ⟨rfl, hb9⟩)
    | (go_at_call 14; refine (put_4_2 _ _).mono ?_; rintro e _ ⟨rfl, rfl⟩))
  go_ret
  exact ⟨rfl, bl_step (bl_step HW7.out HB8.out) hb9⟩
end Go.Proofs.Ytjilmgbjbkidnaa
