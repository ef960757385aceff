/-
  mux: any parts' block is told, or why there is none; and which two are equal. A law's row follows from its walk: the call returns true, and below the heap's old size the world is as it was; then every argument reads as it did. How the packets and bytes that a statement draws read. How parts that a statement draws read.
-/
import Derived.Test.YtdaipfmckonfpaaJMuxWrites05
import Derived.Test.YtdaipfmckonfpaaJMuxWrites06
import Derived.Test.YtdaipfmckonfpaaRows
import Derived.WalkKit
import Derived.ProofKit
import Derived.OpenShut
import Derived.Test.YtdaipfmckonfpaaJMuxWrites02
import Derived.SizedLaws
import Derived.Deep.Matrix
import Derived.Lib.SmallJoins
import Derived.Test.YtdaipfmckonfpaaJMuxWrites01
import Derived.Deep.Slices
import Derived.Deep.SlicePairs
namespace Go.Proofs.Ytdaipfmckonfpaa
open Go.RowKit

set_option maxRecDepth 100000 in
set_option maxHeartbeats 1600000 in
theorem mwrites_out {A B : Option Addr} {L M : List PartM} (n cap m cb : Nat) (w : World) (hL : L.length = n) (hM : M.length = m) (hn9 : n ≤ 9223372036854775807) (hm9 : m ≤ 9223372036854775807) (hs : XSrc w A L) (hs' : XSrc w B M) (h : greatM L = true ∨ (greatM L = false ∧ greatM M = true)) :
    Calls Try.prog 6 #[.slice A n cap, .slice B m cb] w fun e w' => e = .returned (.bool true) ∧ Below w.heap.size w w' := by
  have HG := Lib.hid (mgreat_any n cap w hL hn9 hs)
  have HH := Lib.hid (mgreat_any m cb w hM hm9 hs')
  have HA := Lib.hid malive_any
  clear hs hL hs' hM
  rcases h with hg | ⟨hg, hh⟩
  · rw [hg] at HG
    go_enter Try.func6, Try.ntmps6
    go_wp2_with (first
      | (go_at_call 23; (with_reducible refine HG.out.mono ?_); rintro e w1 ⟨rfl, rfl⟩)
      | (go_at_call 24; (with_reducible refine (HA.out _).mono ?_); rintro e w1 ⟨rfl, hb1⟩))
    go_ret
    exact ⟨rfl, hb1⟩
  · rw [hg] at HG
    rw [hh] at HH
    go_enter Try.func6, Try.ntmps6
    go_wp2_with (first
      | (go_at_call 23; (with_reducible refine HG.out.mono ?_); rintro e w1 ⟨rfl, rfl⟩)
      | (go_at_call 23; (with_reducible refine HH.out.mono ?_); rintro e w1 ⟨rfl, rfl⟩)
      | (go_at_call 24; (with_reducible refine (HA.out _).mono ?_); rintro e w1 ⟨rfl, hb1⟩))
    go_ret
    exact ⟨rfl, hb1⟩
theorem conv_none (w : World) : (convert 42 9 (.slice none 0 0)).run Try.prog w = .ok (.string (strOf [])) w :=
  conv_src (l := []) 0 0 rfl (fun h => by simp [bts] at h) (by simp)
theorem own_form2 {B : Nat} {w : World} {x : Value} {n : Nat} {l : List Nat} (h : w.ownsRow B 5 1 x n (bts l)) : ∃ A c, x = .slice A n c := by
  obtain ⟨A, c, e, _⟩ := own_shp h
  exact ⟨A, c, e⟩
set_option maxRecDepth 100000 in
set_option maxHeartbeats 6400000 in
theorem mwrites_in {A B : Option Addr} {L M : List PartM} (n cap m cb : Nat) (w : World) (hL : L.length = n) (hM : M.length = m) (hs : XSrc w A L) (hs' : XSrc w B M) (hg : greatM L = false) (hh : greatM M = false) :
    Calls Try.prog 6 #[.slice A n cap, .slice B m cb] w fun e w' => e = .returned (.bool true) ∧ Below w.heap.size w w' := by
  obtain ⟨q1, q2, q3⟩ := great_no hg
  obtain ⟨r1, r2, r3⟩ := great_no hh
  have hn : n ≤ 40 := by omega
  have hm : m ≤ 40 := by omega
  have hd : ∀ m ∈ L, m.r.bs.length ≤ 100000 := fun m hm => by have := q2 m hm; omega
  have HG := Lib.hid (mgreat_any n cap w hL (by omega) hs)
  have HH := Lib.hid (mgreat_any m cb w hM (by omega) hs')
  rw [hg] at HG
  rw [hh] at HH
  have HA := Lib.hid malive_any
  have HWN := Lib.hid (fun hf => mwrite_no n cap w hL (by omega) hs hd hf)
  have HWO := Lib.hid (fun hf => mwrite_ok n (psum (plens L)) cap w hL hs hf rfl)
  have HAS := Lib.hid (fun W (hb2 : Below w.heap.size w W) => mas_any n cap W hL (by omega) (hs.later hb2))
  have HAM := Lib.hid (fun W (hb2 : Below w.heap.size w W) => mas_any m cb W hM (by omega) (hs'.later hb2))
  have HRW := Lib.hid (fun W A' c' (hx : XSrc W A' L) => rwrite30 (A := A') n (psum (plens L)) c' W hL (by omega) hx rfl)
  have HSZ := Lib.hid (fun W (hb2 : Below w.heap.size w W) => mSize_any n cap W hL (by omega) (hs.later hb2) hd)
  have HSA := Lib.hid (fun W (hb2 : Below w.heap.size w W) => mSame_any n m cap cb W hL hM (by omega) (hs.later hb2) (hs'.later hb2))
  have HRS := Lib.hid (fun W A1 c1 A2 c2 (hx : XSrc W A1 L) (hy : XSrc W A2 M) => rsame30_any (A := A1) (B := A2) n m c1 c2 W hL hM (by omega) hx hy)
  have hbw := fun hf => closed_lt (wb_lt (L := L) hf (fun m hm => (hs.ok m hm).2.2.2))
  have HBW := Lib.hid hbw
  clear hbw hs hs' hL hM q1 q2 q3 r1 r2 r3 hd hg hh
  generalize decide (pks L = pks M) = q at *
  have hqq : (q == q) = true := by cases q <;> rfl
  unfold SameAns at HRS
  by_cases hf : faultM L = 0
  · have hsz : sizeM L = psum (plens L) + 2 := by unfold sizeM; rw [if_pos hf]; omega
    rw [hsz] at HSZ
    have HWO := Lib.hid (HWO.out hf)
    have HBW := Lib.hid (HBW.out hf)
    have HRW := Lib.hid (fun W A' c' (hx : XSrc W A' L) => show Calls Try.prog 26 #[.slice A' n c'] W fun e w' => Below W.heap.size W w' ∧ ∃ x, e = .returned (.tuple #[x, .int .i64 0]) ∧ w'.ownsRow W.heap.size 5 1 x (psum (plens L) + 2) (bts (closed (wb L))) from (HRW.out W A' c' hx).mono (by
      rintro e w' ⟨hb, h | h⟩
      · exact absurd hf h.1
      · exact ⟨hb, h.2⟩))
    have HLEN := Lib.hid (show (closed (wb L)).length = psum (plens L) + 2 by rw [length_closed, length_wb])
    clear hf hsz HWN
    generalize psum (plens L) = N at *
    generalize closed (wb L) = cl at *
    have hNN : (((N + 2 : Nat) : Int) == ((N + 2 : Nat) : Int)) = true := by simp
    go_enter Try.func6, Try.ntmps6
    go_wp2_with (first
      | (go_at_call 23; (with_reducible refine HG.out.mono ?_); rintro e w0 ⟨rfl, rfl⟩)
      | (go_at_call 23; (with_reducible refine HH.out.mono ?_); rintro e w0 ⟨rfl, rfl⟩)
      | (go_at_call 25; (with_reducible refine HWO.out.mono ?_); rintro e w1 ⟨g1, rfl, hg1, hr1, hb1⟩; (have HR1 := Lib.hid hr1; have HB1 := Lib.hid hb1; clear hr1 hb1))
      | (go_at_call 27; (with_reducible refine (HAS.out _ HB1.out).mono ?_); rintro e w2 ⟨A2, c2, rfl, hc2, hx2, hb2⟩; (have HX2 := Lib.hid hx2; have HB2 := Lib.hid (bl_step HB1.out hb2); have HR2 := Lib.hid (HR1.out.later hb2); clear hx2 hb2 HB1 HR1))
      | (go_at_call 26; (with_reducible refine (HRW.out _ _ _ HX2.out).mono ?_); rintro e w3 ⟨hb3, x3, rfl, ho3⟩; obtain ⟨A3, c3, rfl⟩ := own_form2 ho3; (have HO3 := Lib.hid ho3; have HB3 := Lib.hid (bl_step HB2.out hb3); have HR3 := Lib.hid (HR2.out.later hb3); clear ho3 hb3 HR2 HB2))
      | (go_at_call 24; (with_reducible refine (HA.out _).mono ?_); rintro e w4 ⟨rfl, hb4⟩; (have HB4 := Lib.hid (bl_step HB3.out hb4); have cv1 := conv_src (N + 2) (N + 2) HLEN.out (row_src (HR3.out.later hb4)) HBW.out; have cv2 := conv_own (own_later2 HO3.out hb4) HBW.out; clear hb4; generalize strOf cl = sl at cv1 cv2))
      | (go_at_call 28; (with_reducible refine (HSZ.out _ HB4.out).mono ?_); rintro e w5 ⟨rfl, hb5⟩; (have HB5 := Lib.hid (bl_step HB4.out hb5); clear hb5 cv1 cv2))
      | (go_at_call 29; (with_reducible refine (HSA.out _ HB5.out).mono ?_); rintro e w6 ⟨rfl, hb6⟩; (have HB6 := Lib.hid (bl_step HB5.out hb6); clear hb6 HB5))
      | (go_at_call 27; (with_reducible refine (HAS.out _ HB6.out).mono ?_); rintro e w7 ⟨A7, c7, rfl, hc7, hx7, hb7⟩; (have HX7 := Lib.hid hx7; have HB7 := Lib.hid (bl_step HB6.out hb7); clear hx7 hb7 HB6))
      | (go_at_call 27; (with_reducible refine (HAM.out _ HB7.out).mono ?_); rintro e w8 ⟨A8, c8, rfl, hc8, hx8, hb8⟩; (have HX8 := Lib.hid hx8; have HX78 := Lib.hid (HX7.out.later hb8); have HB8 := Lib.hid (bl_step HB7.out hb8); clear hx8 hb8 HB7))
      | (go_at_call 30; (with_reducible refine (HRS.out _ _ _ _ _ HX78.out HX8.out).mono ?_); rintro e w9 ⟨rfl, hb9⟩))
    go_ret
    exact ⟨rfl, bl_step HB8.out hb9⟩
  · have hsz : sizeM L = 0 := by unfold sizeM; rw [if_neg hf]
    rw [hsz] at HSZ
    have HWN := Lib.hid (HWN.out hf)
    have HRW := Lib.hid (fun W A' c' (hx : XSrc W A' L) => show Calls Try.prog 26 #[.slice A' n c'] W fun e w' => Below W.heap.size W w' ∧ e = .returned (.tuple #[.slice none 0 0, .int .i64 (faultM L)]) from (HRW.out W A' c' hx).mono (by
      rintro e w' ⟨hb, h | h⟩
      · exact ⟨hb, h.2⟩
      · exact absurd h.1 hf))
    clear hf hsz HWO HBW
    generalize faultM L = f at *
    have hff : (f == f) = true := by simp
    go_enter Try.func6, Try.ntmps6
    go_wp2_with (first
      | (go_at_call 23; (with_reducible refine HG.out.mono ?_); rintro e w0 ⟨rfl, rfl⟩)
      | (go_at_call 23; (with_reducible refine HH.out.mono ?_); rintro e w0 ⟨rfl, rfl⟩)
      | (go_at_call 25; (with_reducible refine HWN.out.mono ?_); rintro e w1 ⟨rfl, hb1⟩; (have HB1 := Lib.hid hb1; clear hb1))
      | (go_at_call 27; (with_reducible refine (HAS.out _ HB1.out).mono ?_); rintro e w2 ⟨A2, c2, rfl, hc2, hx2, hb2⟩; (have HX2 := Lib.hid hx2; have HB2 := Lib.hid (bl_step HB1.out hb2); clear hx2 hb2 HB1))
      | (go_at_call 26; (with_reducible refine (HRW.out _ _ _ HX2.out).mono ?_); rintro e w3 ⟨hb3, rfl⟩; (have HB3 := Lib.hid (bl_step HB2.out hb3); clear hb3 HB2))
      | (go_at_call 24; (with_reducible refine (HA.out _).mono ?_); rintro e w4 ⟨rfl, hb4⟩; (have HB4 := Lib.hid (bl_step HB3.out hb4); have cv1 := conv_none w4; clear hb4; generalize strOf [] = sl at cv1))
      | (go_at_call 28; (with_reducible refine (HSZ.out _ HB4.out).mono ?_); rintro e w5 ⟨rfl, hb5⟩; (have HB5 := Lib.hid (bl_step HB4.out hb5); clear hb5 cv1))
      | (go_at_call 29; (with_reducible refine (HSA.out _ HB5.out).mono ?_); rintro e w6 ⟨rfl, hb6⟩; (have HB6 := Lib.hid (bl_step HB5.out hb6); clear hb6 HB5))
      | (go_at_call 27; (with_reducible refine (HAS.out _ HB6.out).mono ?_); rintro e w7 ⟨A7, c7, rfl, hc7, hx7, hb7⟩; (have HX7 := Lib.hid hx7; have HB7 := Lib.hid (bl_step HB6.out hb7); clear hx7 hb7 HB6))
      | (go_at_call 27; (with_reducible refine (HAM.out _ HB7.out).mono ?_); rintro e w8 ⟨A8, c8, rfl, hc8, hx8, hb8⟩; (have HX8 := Lib.hid hx8; have HX78 := Lib.hid (HX7.out.later hb8); have HB8 := Lib.hid (bl_step HB7.out hb8); clear hx8 hb8 HB7))
      | (go_at_call 30; (with_reducible refine (HRS.out _ _ _ _ _ HX78.out HX8.out).mono ?_); rintro e w9 ⟨rfl, hb9⟩))
    go_ret
    exact ⟨rfl, bl_step HB8.out hb9⟩
theorem mwrites_every {A B : Option Addr} {L M : List PartM} {n m : Nat} (cap cb : Nat) (w : World) (hL : L.length = n) (hM : M.length = m) (hn9 : n ≤ 9223372036854775807) (hm9 : m ≤ 9223372036854775807) (hs : XSrc w A L) (hs' : XSrc w B M) :
    Calls Try.prog 6 #[.slice A n cap, .slice B m cb] w fun e w' => e = .returned (.bool true) ∧ Below w.heap.size w w' := by
  cases hg : greatM L
  · cases hh : greatM M
    · exact mwrites_in n cap m cb w hL hM hs hs' hg hh
    · exact mwrites_out n cap m cb w hL hM hn9 hm9 hs hs' (.inr ⟨hg, hh⟩)
  · exact mwrites_out n cap m cb w hL hM hn9 hm9 hs hs' (.inl hg)
end Go.Proofs.Ytdaipfmckonfpaa
namespace Go.Proofs.Ytdaipfmckonfpaa
open Go.ChangeShapes Go.WideShapes Go.ChangeAt Go.RowKit

theorem lawOwn : ownKnob Try.prog.godebug = none := by kernel_rfl
theorem lawLaid : laidOutB Try.prog = true := by kernel_rfl

section
variable {H : Type} {enc : TypeId × Value → H} {P : Program}
/-- what was read in the old world is read in the new one -/
theorem args_stay (hl : laidOutB P = true) {W W' : World} (hb : Below W.heap.size W W') : ∀ (ts : List TypeId) (vs : List Value) (ds : List (DataW H)) (ps : List MemPlace),
    (∀ t ∈ ts, P.readableRec t = true ∧ t < P.types.size) → DataW.TrodAll enc P W 0 (fun _ => true) true ts vs ds ps → (∀ x ∈ ps, x.block < W.heap.size) →
    DataW.TrodAll enc P W' 0 (fun b => decide (b < W.heap.size)) true ts vs ds ps := by
  intro ts
  induction ts with
  | nil =>
    intro vs ds ps _ h _
    obtain ⟨rfl, rfl, rfl⟩ := trodAll_nil h
    exact trodAll_mk0
  | cons t ts ih =>
    intro vs ds ps hr h hlt
    obtain ⟨v, vs', d, ds', p, q, rfl, rfl, rfl, h1, h2⟩ := trodAll_cons h
    have ht := hr t (List.mem_cons_self ..)
    exact trodAll_cons_mk (Below.trod hl ht.1 ht.2 h1 hb fun x hx => hlt x (List.mem_append_left _ hx))
      (ih vs' ds' q (fun u hu => hr u (List.mem_cons_of_mem _ hu)) h2 fun x hx => hlt x (List.mem_append_right _ hx))

theorem law_post {f : Func} {s : ChangeSpec} {W W' : World} {args : Array Value} {ds gs : List (DataW H)} {before : List MemPlace} {B : TypeId}
    (hl : laidOutB P = true) (hr : f.params.toList.all (fun t => P.readableRec t && decide (t < P.types.size)) = true) (hv : s.vars = [])
    (hW : DataW.Whole enc P f.params.toList s.vars false W args.toList ds gs before)
    (hs : s.fn H (ds ++ gs) = { results := [.lit (.bool true)], args := ds }) (ht : f.resultTypes = #[B]) (hB : P.underlying B = some .bool)
    (hb : Below W.heap.size W W') : s.post enc P f false true false false W args (.bool true) W' := by
  have hW' := hW
  obtain ⟨p, q, hA, hV, rfl, _, _⟩ := hW
  rw [hv] at hV
  obtain ⟨rfl, rfl⟩ := trodVars_none hV
  refine ⟨ds, [], p ++ [], [], p, [], hW', ?_, ?_, ?_, hb.frame _, fun h => by cases h⟩
  · rw [hs, ht]
    exact trodAll_mk1 (shut_bool hB true)
  · rw [hs]
    exact args_stay hl hb _ _ _ _ (fun t h => by have := List.all_eq_true.1 hr t h; simpa using this) hA fun x hx => hW'.lt x (List.mem_append_left _ hx)
  · rw [hs, hv]
    exact rfl
end
end Go.Proofs.Ytdaipfmckonfpaa
namespace Go.Proofs.Ytdaipfmckonfpaa
open Go.ChangeShapes Go.WideShapes Go.ChangeAt Go.RowKit Go.Deep


theorem Try.cells5 : Try.prog.cellsOf 5 = 1 := by kernel_rfl
theorem Try.cells42 : Try.prog.cellsOf 42 = 1 := by kernel_rfl
theorem nums_src {W : World} {a : Addr} {cap len : Nat} {zs : List Int} (hl : len ≤ cap) (hz : zs.length = cap) (hc : ∀ j, j < cap → W.cell? (a.add j) = some (.int .u8 (zs.getD j 0))) (hw : ∀ n ∈ zs, (Lit.int .u8 n).wf = true) :
    ((zs.take len).map Int.toNat).length = len ∧ Src W (some a) (bts ((zs.take len).map Int.toNat)) ∧ ∀ b ∈ (zs.take len).map Int.toNat, b < 256 := by
  have hlen : ((zs.take len).map Int.toNat).length = len := by rw [List.length_map, List.length_take]; omega
  refine ⟨hlen, fun h0 => ⟨a, rfl, fun j u hu => ?_⟩, fun b hb => ?_⟩
  · have hj : j < len := by
      have h1 := (List.getElem?_eq_some_iff.1 hu).1
      rw [length_bts, hlen] at h1
      exact h1
    have h2 := hc j (by omega)
    rw [h2]
    have hjz : j < zs.length := by omega
    have hww := bounds_u8 (hw zs[j] (List.getElem_mem hjz))
    have h3 : ((zs.take len).map Int.toNat)[j]? = some zs[j].toNat := by
      rw [List.getElem?_map, List.getElem?_take, if_pos hj, List.getElem?_eq_getElem hjz]
      rfl
    have h4 := bts_at h3
    rw [h4] at hu
    injection hu with hu
    rw [← hu, List.getD_eq_getElem?_getD, List.getElem?_eq_getElem hjz]
    simp only [Option.getD_some]
    rw [Int.toNat_of_nonneg hww.1]
  · rw [List.mem_map] at hb
    obtain ⟨z, hz2, rfl⟩ := hb
    have hww := bounds_u8 (hw z (List.mem_of_mem_take hz2))
    omega
end Go.Proofs.Ytdaipfmckonfpaa
namespace Go.Proofs.Ytdaipfmckonfpaa
open Go.ChangeShapes Go.WideShapes Go.ChangeAt Go.RowKit Go.Deep Go.Joins

theorem Try.cells57p : Try.prog.cellsOf 57 = 2 := by kernel_rfl
theorem Try.cells3p : Try.prog.cellsOf 3 = 1 := by kernel_rfl
set_option maxRecDepth 100000 in
theorem bytes_cellp {H : Type} {enc : TypeId × Value → H} {W : World} {fuel : Nat} {cs : List Value} {y : DataW H × List MemPlace} (hf : DataW.trod enc Try.prog W 0 (fun _ => true) true fuel 42 cs = some y) :
    ∃ r : RowB, cs = [r.v] ∧ r.ok W := by
  rcases open_ints Try.underlying42 Try.underlying5 Try.cells5 hf with ⟨hcs, _⟩ | ⟨a, len', cap', zs, hcs, _, hl, hm, hz, _, hcell, hwz⟩
  · exact ⟨⟨none, 0, []⟩, hcs, fun h0 => absurd h0 (by simp [bts]), Nat.le_refl _, by show 0 ≤ 9223372036854775807; omega, fun b hb => by cases hb⟩
  · have hz : zs.length = cap' := by simpa using hz
    obtain ⟨h1, h2, h3⟩ := nums_src hl hz (fun j hj => hcell j (by omega)) hwz
    refine ⟨⟨some a, cap', (zs.take len').map Int.toNat⟩, by rw [hcs]; unfold RowB.v; rw [h1], h2, by show ((zs.take len').map Int.toNat).length ≤ cap'; omega, by show cap' ≤ 9223372036854775807; unfold maxLen at hm; exact hm, h3⟩
set_option maxRecDepth 100000 in
theorem part_cells {H : Type} {enc : TypeId × Value → H} {W : World} {fuel : Nat} {cs : List Value} {x : DataW H × List MemPlace}
    (h : DataW.trod enc Try.prog W 0 (fun _ => true) true fuel 57 cs = some x) : ∃ (a : Int) (r : RowB), cs = [.int .i64 a, r.v] ∧ r.ok W := by
  obtain ⟨xs, n, _, _, hl, hxs, hf⟩ := DataW.trod_struct Try.underlying57 h
  have h0 := hf 0 _ rfl
  have h1 := hf 1 _ rfl
  rw [Try.cells57p] at hl
  match cs, hl with
  | [c0, c1], _ =>
    have hxs' : xs.length = 2 := by simpa using hxs
    match xs, hxs' with
    | [y0, y1], _ =>
      have h0' : DataW.trod enc Try.prog W 0 (fun _ => true) true n 3 (([c0, c1].drop 0).take (Try.prog.cellsOf 3)) = some y0 := h0
      have h1' : DataW.trod enc Try.prog W 0 (fun _ => true) true n 42 (([c0, c1].drop 1).take (Try.prog.cellsOf 42)) = some y1 := h1
      rw [Try.cells3p] at h0'
      rw [Try.cells42] at h1'
      obtain ⟨a, ea, _, _⟩ := DataW.trod_int Try.underlying3 h0'
      obtain ⟨r, er, hr⟩ := bytes_cellp h1'
      simp at ea er
      exact ⟨a, r, by rw [ea, er], hr⟩
set_option maxRecDepth 100000 in
theorem parts_arg {H : Type} {enc : TypeId × Value → H} {W : World} {base : Nat} {v : Value} {d : DataW H} {p : List MemPlace} (hok : Value.okWide Try.prog W .any base 40 v)
    (h : DataW.Trod enc Try.prog W 0 (fun _ => true) true 40 v d p) : ∃ (A : Option Addr) (cap : Nat) (l : List PartM), v = .slice A l.length cap ∧ l.length ≤ cap ∧ cap ≤ 9223372036854775807 ∧ XSrc W A l := by
  obtain ⟨a0, len, cap, rfl⟩ := okWide_slice Try.underlying40 hok
  obtain ⟨fuel, hf⟩ := h
  rcases open_slice Try.underlying40 hf with ⟨hcs, _⟩ | ⟨a, len', cap', m, n, D, Pl, hcs, _, hl, hm, hmm, _, hcell⟩
  · have e : Value.slice a0 len cap = .slice none 0 0 := by simpa [Value.cells] using hcs
    rw [e]
    exact ⟨none, 0, [], rfl, Nat.le_refl _, by omega, fun h0 => absurd h0 (by simp)⟩
  · have e : Value.slice a0 len cap = .slice (some a) len' cap' := by simpa [Value.cells] using hcs
    rw [e]
    have hm' : m = cap' := by simpa using hmm
    have each : ∀ i, i < len' → ∃ o : PartM, W.cell? (a.add (i * 2)) = some (.int .i64 o.id) ∧ W.cell? (a.add (i * 2 + 1)) = some o.r.v ∧ o.r.ok W := by
      intro i hi
      obtain ⟨cs', hc, ht⟩ := hcell i (by omega)
      rw [Try.cells57p] at hc
      obtain ⟨t, r, rfl, hr⟩ := part_cells ht
      obtain ⟨_, _, hat⟩ := World.cells?_some hc
      have h0 := hat 0 (by omega)
      have h1 := hat 1 (by omega)
      rw [add_add] at h0 h1
      exact ⟨⟨t, r⟩, h0, h1, hr⟩
    have pick : ∃ f : Nat → PartM, ∀ i, i < len' → W.cell? (a.add (i * 2)) = some (.int .i64 (f i).id) ∧ W.cell? (a.add (i * 2 + 1)) = some (f i).r.v ∧ (f i).r.ok W := by
      refine ⟨fun i => if hi : i < len' then (each i hi).choose else ⟨0, ⟨none, 0, []⟩⟩, fun i hi => ?_⟩
      simp only [dif_pos hi]
      exact (each i hi).choose_spec
    obtain ⟨f, hf'⟩ := pick
    have hlen : ((List.range len').map f).length = len' := by simp
    refine ⟨some a, cap', (List.range len').map f, by rw [hlen], by omega, by unfold maxLen at hm; exact hm, fun h0 => ?_⟩
    rw [hlen] at h0
    obtain ⟨b, off, spot⟩ := a
    have hspot : spot = none := by
      have hc := (hf' 0 (by omega)).1
      simpa [Addr.add] using World.cell?_spot hc
    subst hspot
    refine ⟨b, off, rfl, fun k o ho => ?_⟩
    have hk : k < len' := by
      have h1 := (List.getElem?_eq_some_iff.1 ho).1
      rw [hlen] at h1
      exact h1
    have ho' : o = f k := by
      rw [List.getElem?_map, List.getElem?_range hk] at ho
      simp at ho
      exact ho.symm
    subst ho'
    have h3 := hf' k hk
    rw [add_plain, add_plain] at h3
    simpa [Nat.add_assoc] using h3
end Go.Proofs.Ytdaipfmckonfpaa
