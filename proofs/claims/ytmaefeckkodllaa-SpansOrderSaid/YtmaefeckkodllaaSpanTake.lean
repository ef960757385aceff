/-
  The calls of package spans that hand spans out, and the one that takes places out.
-/
import Derived.Test.YtmaefeckkodllaaSpanOps
import Derived.Laws.CopyRow
import Derived.Laws.EntriesVeiled
import Derived.Deep.Onto
namespace Go.Proofs.Ytmaefeckkodllaa
open Go.RowKit

theorem run_copy_two {P : Program} (w : World) (dT sT ty elem : TypeId) (g dLen dCap : Nat) (a : Addr) (sLen sCap n : Nat) (cur : Array Value) (t : TypeId) (cs : List Value)
    (hu : P.underlying dT = some (.slice elem)) (hs : (P.info? elem).map (·.size) = some 2)
    (hg : w.heap[g]? = some (.cells cur t (0, 0))) (hn : n = Nat.min sLen dLen) (hcs : cs.length = n * 2)
    (hsrc : ∀ j v, cs[j]? = some v → w.cell? (a.add j) = some v) (hfit : cs.length ≤ cur.size) (h1 : ∀ v ∈ cs, v.oneCell' = true) :
    (Builtin.copy_ #[dT, sT] ty #[.slice (some ⟨g, 0, none⟩) dLen dCap, .slice (some a) sLen sCap]).run P w =
      .ok (goInt n) (w.setRow g (cur.toList.take 0 ++ cs ++ cur.toList.drop (0 + cs.length)).toArray) := by
  have hl := run_loadCells_list (P := P) w a cs hsrc
  have hst := run_storeCells_at P g 0 t cs 0 cur w hg (by simpa using hfit) h1
  cases hq : P.info? elem with
  | none => simp [hq] at hs
  | some i =>
    have hi : i.size = 2 := by simpa [hq] using hs
    simp [Builtin.copy_, run_underlying hu, Builtin.lenOf, Builtin.firstCells, sizeOf, typeInfo, hq, hi, ← hn, ← hcs, hl]
    have h2 := hst
    simp at h2
    rw [h2]
    rfl

def zero2 (n : Nat) : Array Value := madeCells #[.int .i64 0, .int .i64 0] (n * 2)
theorem make_spans (n : Nat) (h : n ≤ 1000000) (w : World) :
    (Instr.makeSlice 45 (.int .i64 (n : Int)) (.int .i64 (n : Int))).run Try.prog w = .ok (.slice (some ⟨w.heap.size, 0, none⟩) n n) (w.alloc (.cells (zero2 n) 24)) := by
  obtain ⟨i, hi, hz, hs, hb⟩ := info24_parts
  have h := run_make (P := Try.prog) w 45 24 i _ Try.underlying45 hi hz .i64 .i64 n n (by omega) (Int.le_refl _) (by rw [hb]; omega) (by omega)
  rw [h, hs, Int.toNat_natCast]
  rfl
theorem copy_spans {w : World} {g : Nat} {sv : Value} {B : Nat} {L : List (Int × Int)} (hr : Row w g 24 (zero2 L.length)) (ho : w.ownsRow B 24 2 sv L.length (spc L)) :
    ∃ w', (Builtin.copy_ #[45, 45] 3 #[.slice (some ⟨g, 0, none⟩) L.length L.length, sv]).run Try.prog w = .ok (.int .i64 (L.length : Int)) w' ∧ Row w' g 24 (spc L).toArray ∧ Only (fun k => k = g) w w' := by
  have hsz : (Try.prog.info? 24).map (·.size) = some 2 := by
    obtain ⟨i, hi, _, h1, _⟩ := info24_parts
    rw [hi]
    simp [h1]
  rcases ho.2 with ⟨rfl, h0⟩ | ⟨g', cap, cur, rfl, _, _⟩
  · have hL : L = [] := List.eq_nil_of_length_eq_zero h0
    subst hL
    have h := run_copy_nil (P := Try.prog) w 45 45 3 24 ⟨g, 0, none⟩ 0 0 Try.underlying45 (by rw [Option.isSome_iff_exists]; exact ⟨2, hsz⟩)
    have e : zero2 ([] : List (Int × Int)).length = (spc []).toArray := by simp [zero2, madeCells, spc]
    rw [e] at hr
    exact ⟨w, h, hr, Only.refl _ _⟩
  · have h := run_copy_two (P := Try.prog) w 45 45 3 24 g L.length L.length ⟨g', 0, none⟩ L.length cap L.length (zero2 L.length) 24 (spc L) Try.underlying45 hsz hr (Nat.min_self _).symm (length_spc L) (ho.cells (g := g') rfl) (by rw [length_spc]; simp [zero2, size_madeCells]) (spc_one L)
    have e : (zero2 L.length).toList.take 0 ++ spc L ++ (zero2 L.length).toList.drop (0 + (spc L).length) = spc L := by
      rw [List.take_zero, List.nil_append, List.drop_eq_nil_of_le (by rw [length_spc]; simp [zero2, size_madeCells]), List.append_nil]
    rw [e] at h
    refine ⟨_, h, setRow_heap w g _ _ 24 _ hr, ⟨rfl, rfl, rfl, by simp [World.setRow], fun k _ hk => setRow_other w g k _ hk⟩⟩

set_option maxRecDepth 100000 in
set_option maxHeartbeats 800000 in
theorem spans_any {B p : Nat} {sv : Value} {L : List (Int × Int)} {w : World} (hr : SRep B w p sv L) (hl : L.length ≤ 100000) :
    Calls Try.prog 21 #[.pointer (some ⟨p, 0, none⟩)] w fun e w' => e = .returned (.slice (some ⟨w.heap.size, 0, none⟩) L.length L.length) ∧ Row w' w.heap.size 24 (spc L).toArray ∧ Below w.heap.size w w' := by
  have hc : w.cell? ⟨p, 0, none⟩ = some sv := hr.2.1.read rfl
  have hmk := make_spans L.length (by omega) w
  have hr2 := hr.later (bl_alloc (Below.refl _ _) (.cells (zero2 L.length) 24))
  have hc2 : (w.alloc (.cells (zero2 L.length) 24)).cell? ⟨p, 0, none⟩ = some sv := hr2.2.1.read rfl
  obtain ⟨A, cap, rfl, _, _⟩ := own_shape hr.2.2
  obtain ⟨w2, hcp, hrow, ho⟩ := copy_spans (Row.made w 24 (zero2 L.length)) hr2.2.2
  have HROW := Lib.hid hrow
  have HO := Lib.hid (bl_only (bl_alloc (Below.refl _ _) (.cells (zero2 L.length) 24)) ho (fun k hk h => by omega) (by simp))
  have HCP := Lib.hid hcp
  clear hrow ho hcp hr hr2
  generalize hnn : L.length = n at *
  have HNN := Lib.hid hnn
  clear hnn
  go_enter Try.func21, Try.ntmps21
  go_wp2_with fail
  rw [HCP.out]
  go_wp2
  go_ret
  exact ⟨rfl, HROW.out, HO.out⟩

theorem each_take {B C p kb vb fb xb : Nat} {sv : Value} {L : List (Int × Int)} {x : Int × Int} {w0 w : World} (hr : SRep B w0 p sv L) (hl : L.length ≤ 20000) (hbl : Below w0.heap.size w0 w)
    (hk : KeptW C kb vb fb [] w) (hrow : Row w xb 24 #[.int .i64 x.1, .int .i64 x.2]) (hxC : xb < C) (hC : C ≤ w.heap.size) (hv : w0.heap.size ≤ vb) (hC0 : w0.heap.size ≤ C) :
    Calls Try.prog 47 #[.pointer (some ⟨p, 0, none⟩), .func (.func 48) #[] #[.pointer (some ⟨fb, 0, none⟩), .pointer (some ⟨xb, 0, none⟩)]] w fun e w' => e = .returned (.tuple #[]) ∧ KeptW C kb vb fb (takeF x L) w' ∧ Below w0.heap.size w0 w' := by
  refine (each_any (B := B) (sv := sv) (L := L) (by omega) (fun k W => KeptW C kb vb fb (takeF x (L.take k)) W ∧ Row W xb 24 #[.int .i64 x.1, .int .i64 x.2] ∧ Below w0.heap.size w0 W ∧ C ≤ W.heap.size) w ⟨by simpa [takeF] using hk, hrow, hbl, hC⟩ (fun k W h => hr.later h.2.2.1) (fun k W y hy h => ?_)).mono (fun e w' h => ⟨h.1, by simpa using h.2.1, h.2.2.2.1⟩)
  have hlen : (takeF x (L.take k)).length ≤ 50000 := by
    have h1 : (takeF x (L.take k)).length ≤ 2 * (L.take k).length := by
      generalize L.take k = M
      induction M with
      | nil => simp [takeF]
      | cons z r ih =>
        have h3 := keepF_len (z.1, min z.2 x.1)
        have h4 := keepF_len (max z.1 x.2, z.2)
        show (takeY x z ++ takeF x r).length ≤ _
        unfold takeY
        simp
        omega
    have h2 : (L.take k).length ≤ L.length := by simp; omega
    omega
  refine (take1_any y h.1 h.2.1 hxC h.2.2.2 hlen).mono ?_
  rintro e w' ⟨rfl, h1, h2, h3⟩
  refine ⟨rfl, ?_, h2, bl_only h.2.2.1 h3 (fun k hk hh => by omega) h.2.2.1.size, by have := h3.size; omega⟩
  rw [take_snoc hy]
  have e : takeF x (L.take k ++ [y]) = takeF x (L.take k) ++ takeY x y := by simp [takeF]
  rw [e]
  exact h1

set_option maxRecDepth 100000 in
set_option maxHeartbeats 1600000 in
theorem take_any {B p : Nat} {sv : Value} {L : List (Int × Int)} {w : World} (x : Int × Int) (hx : rightB x = true) (hr : SRep B w p sv L) (hn : Norm 0 L) (hl : L.length ≤ 2047) (hB : B ≤ w.heap.size) :
    Calls Try.prog 13 #[.pointer (some ⟨p, 0, none⟩), spv x] w fun e w' => e = .returned (.int .i64 0) ∧ (∃ sv', SRep B w' p sv' (takeF x L)) ∧ Only (fun k => k = p) w w' := by
  obtain ⟨a, b⟩ := x
  have hx' := rightB_iff.1 hx
  have hlen := takeF_len hx'.2.2 hn
  have HX := Lib.hid hx
  have HR := Lib.hid hr
  have HT := Lib.hid (fun C kb vb fb xb w1 => each_take (C := C) (kb := kb) (vb := vb) (fb := fb) (xb := xb) (w := w1) (x := (a, b)) hr (by omega))
  have HB2 := Lib.hid (fun sv' w2 (h1 : SRep B w2 p sv L) (h2 : w2.ownsRow B 24 2 sv' (takeF (a, b) L).length (spc (takeF (a, b) L))) => become_any h1 h2 (by omega))
  clear hx hr hx' hlen hn
  generalize takeF (a, b) L = T at *
  show Calls Try.prog 13 #[_, .agg #[.int .i64 a, .int .i64 b]] w _
  go_enter Try.func13, Try.ntmps13
  go_wp2_with fail
  refine (fault_ok p (a, b) _ HX.out).mono ?_
  rintro e w1 ⟨rfl, hb1⟩
  have hs1 := hb1.size
  simp at hs1
  have HB1 := Lib.hid (bl_step (bl_alloc (Below.refl _ _) _) hb1)
  have HXR := Lib.hid ((Row.made w 24 #[.int .i64 a, .int .i64 b]).later hb1)
  clear hb1
  go_wp2_with fail
  refine (keeper_any _ _).mono ?_
  rintro e _ ⟨rfl, rfl⟩
  have hf1 := made1 w1 (.cells #[.slice none 0 0] 45) 91 #[.pointer (some ⟨w1.heap.size, 0, none⟩)]
  have hkw : KeptW (w1.heap.size + 3) (w1.heap.size + 1) w1.heap.size (w1.heap.size + 2) [] (((w1.alloc (.cells #[.slice none 0 0] 45)).alloc (.cells #[.pointer (some ⟨w1.heap.size, 0, none⟩)] 91)).alloc (.cells #[.func (.func 63) #[] #[.pointer (some ⟨w1.heap.size + 1, 0, none⟩)]] 89)) :=
    ⟨by omega, made2 _ _ _ _ _, by omega, by omega, hf1.more _, _, ((Row.made _ _ _).more _).more _, World.ownsRow_nil _ _ _ _⟩
  have HKW := Lib.hid hkw
  have HXR2 := Lib.hid (((HXR.out.more (.cells #[.slice none 0 0] 45)).more (.cells #[.pointer (some ⟨w1.heap.size, 0, none⟩)] 91)).more (.cells #[.func (.func 63) #[] #[.pointer (some ⟨w1.heap.size + 1, 0, none⟩)]] 89))
  have HB3 := Lib.hid (bl_alloc (bl_alloc (bl_alloc HB1.out (.cells #[.slice none 0 0] 45)) (.cells #[.pointer (some ⟨w1.heap.size, 0, none⟩)] 91)) (.cells #[.func (.func 63) #[] #[.pointer (some ⟨w1.heap.size + 1, 0, none⟩)]] 89))
  clear hf1 hkw HXR
  go_wp2_with fail
  refine (HT.out _ _ _ _ _ _ HB3.out HKW.out HXR2.out (by omega) (by simp) (by omega) (by omega)).mono ?_
  rintro e w2 ⟨rfl, ⟨_, _, _, _, _, sv2, h1, h2⟩, hb2⟩
  have c1 := h1.read (i := 0) rfl
  have HOW := Lib.hid (h2.mono (by omega : B ≤ w1.heap.size + 3))
  have HB4 := Lib.hid hb2
  clear h1 h2 hb2
  obtain ⟨A2, cap2, rfl, _, _⟩ := own_shape HOW.out
  go_wp2_with fail
  refine (HB2.out _ _ (HR.out.later HB4.out) HOW.out).mono ?_
  rintro e w3 ⟨rfl, h3, h4⟩
  have H3 := Lib.hid h3
  have H4 := Lib.hid h4
  clear h3 h4
  go_wp2
  go_ret
  exact ⟨rfl, ⟨_, H3.out⟩, (Only.of_below HB4.out).andThen H4.out (fun k _ hk => hk)⟩
end Go.Proofs.Ytmaefeckkodllaa
