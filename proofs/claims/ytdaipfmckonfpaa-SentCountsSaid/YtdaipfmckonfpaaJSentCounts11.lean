/-
  A law's row follows from its walk: the call returns true, and below the heap's old size the world is as it was; then every argument reads as it did. How the packets and bytes that a statement draws read. How the packets of amd that a statement draws read.
-/
import Derived.Test.YtdaipfmckonfpaaRows
import Derived.WalkKit
import Derived.ProofKit
import Derived.OpenShut
import Derived.Test.YtdaipfmckonfpaaJSentCounts02
import Derived.SizedLaws
import Derived.Deep.Matrix
import Derived.Lib.SmallJoins
namespace Go.Proofs.Ytdaipfmckonfpaa
open Go.ChangeShapes Go.WideShapes Go.ChangeAt Go.RowKit

theorem lawOwn : ownKnob Try.prog.godebug = none := by kernel_rfl
theorem lawLaid : laidOutB Try.prog = true := by kernel_rfl

section
variable {H : Type} {enc : TypeId × Value → H} {P : Program}
/-- what was read in the old world is read in the new one -/
theorem args_stay (hl : laidOutB P = true) {W W' : World} (hb : Below W.heap.size W W') : ∀ (ts : List TypeId) (vs : List Value) (ds : List (DataW H)) (ps : List MemPlace),
    (∀ t ∈ ts, P.readableRec t = true ∧ t < P.types.size) → DataW.TrodAll enc P W 0 (fun _ => true) true ts vs ds ps → (∀ x ∈ ps, x.block < W.heap.size) →
    DataW.TrodAll enc P W' 0 (fun b => decide (b < W.heap.size)) true ts vs ds ps := by
  intro ts
  induction ts with
  | nil =>
    intro vs ds ps _ h _
    obtain ⟨rfl, rfl, rfl⟩ := trodAll_nil h
    exact trodAll_mk0
  | cons t ts ih =>
    intro vs ds ps hr h hlt
    obtain ⟨v, vs', d, ds', p, q, rfl, rfl, rfl, h1, h2⟩ := trodAll_cons h
    have ht := hr t (List.mem_cons_self ..)
    exact trodAll_cons_mk (Below.trod hl ht.1 ht.2 h1 hb fun x hx => hlt x (List.mem_append_left _ hx))
      (ih vs' ds' q (fun u hu => hr u (List.mem_cons_of_mem _ hu)) h2 fun x hx => hlt x (List.mem_append_right _ hx))

theorem law_post {f : Func} {s : ChangeSpec} {W W' : World} {args : Array Value} {ds gs : List (DataW H)} {before : List MemPlace} {B : TypeId}
    (hl : laidOutB P = true) (hr : f.params.toList.all (fun t => P.readableRec t && decide (t < P.types.size)) = true) (hv : s.vars = [])
    (hW : DataW.Whole enc P f.params.toList s.vars false W args.toList ds gs before)
    (hs : s.fn H (ds ++ gs) = { results := [.lit (.bool true)], args := ds }) (ht : f.resultTypes = #[B]) (hB : P.underlying B = some .bool)
    (hb : Below W.heap.size W W') : s.post enc P f false true false false W args (.bool true) W' := by
  have hW' := hW
  obtain ⟨p, q, hA, hV, rfl, _, _⟩ := hW
  rw [hv] at hV
  obtain ⟨rfl, rfl⟩ := trodVars_none hV
  refine ⟨ds, [], p ++ [], [], p, [], hW', ?_, ?_, ?_, hb.frame _, fun h => by cases h⟩
  · rw [hs, ht]
    exact trodAll_mk1 (shut_bool hB true)
  · rw [hs]
    exact args_stay hl hb _ _ _ _ (fun t h => by have := List.all_eq_true.1 hr t h; simpa using this) hA fun x hx => hW'.lt x (List.mem_append_left _ hx)
  · rw [hs, hv]
    exact rfl
end
end Go.Proofs.Ytdaipfmckonfpaa
namespace Go.Proofs.Ytdaipfmckonfpaa
open Go.ChangeShapes Go.WideShapes Go.ChangeAt Go.RowKit Go.Deep


theorem Try.cells5 : Try.prog.cellsOf 5 = 1 := by kernel_rfl
theorem Try.cells42 : Try.prog.cellsOf 42 = 1 := by kernel_rfl
theorem nums_src {W : World} {a : Addr} {cap len : Nat} {zs : List Int} (hl : len ≤ cap) (hz : zs.length = cap) (hc : ∀ j, j < cap → W.cell? (a.add j) = some (.int .u8 (zs.getD j 0))) (hw : ∀ n ∈ zs, (Lit.int .u8 n).wf = true) :
    ((zs.take len).map Int.toNat).length = len ∧ Src W (some a) (bts ((zs.take len).map Int.toNat)) ∧ ∀ b ∈ (zs.take len).map Int.toNat, b < 256 := by
  have hlen : ((zs.take len).map Int.toNat).length = len := by rw [List.length_map, List.length_take]; omega
  refine ⟨hlen, fun h0 => ⟨a, rfl, fun j u hu => ?_⟩, fun b hb => ?_⟩
  · have hj : j < len := by
      have h1 := (List.getElem?_eq_some_iff.1 hu).1
      rw [length_bts, hlen] at h1
      exact h1
    have h2 := hc j (by omega)
    rw [h2]
    have hjz : j < zs.length := by omega
    have hww := bounds_u8 (hw zs[j] (List.getElem_mem hjz))
    have h3 : ((zs.take len).map Int.toNat)[j]? = some zs[j].toNat := by
      rw [List.getElem?_map, List.getElem?_take, if_pos hj, List.getElem?_eq_getElem hjz]
      rfl
    have h4 := bts_at h3
    rw [h4] at hu
    injection hu with hu
    rw [← hu, List.getD_eq_getElem?_getD, List.getElem?_eq_getElem hjz]
    simp only [Option.getD_some]
    rw [Int.toNat_of_nonneg hww.1]
  · rw [List.mem_map] at hb
    obtain ⟨z, hz2, rfl⟩ := hb
    have hww := bounds_u8 (hw z (List.mem_of_mem_take hz2))
    omega
set_option maxRecDepth 100000 in
theorem rows_cells {H : Type} {enc : TypeId × Value → H} {W : World} {fuel : Nat} {v : Value} {y : DataW H × List MemPlace} (hf : DataW.trod enc Try.prog W 0 (fun _ => true) true fuel 59 [v] = some y) :
    ∃ (A : Option Addr) (cap : Nat) (L : List RowB), v = .slice A L.length cap ∧ L.length ≤ cap ∧ cap ≤ 9223372036854775807 ∧ RSrc W A L ∧ ∀ m ∈ lens L, m ≤ 9223372036854775807 := by
  rcases open_int_rows Try.underlying59 Try.underlying42 Try.underlying5 Try.cells42 Try.cells5 hf with ⟨hcs, _⟩ | ⟨a, len', cap', A, L, C, Z, hcs, _, hl, hm, _, hx⟩
  · have e : v = .slice none 0 0 := by simpa [Value.cells] using hcs
    rw [e]
    exact ⟨none, 0, [], rfl, Nat.le_refl _, by omega, fun h0 => absurd h0 (by simp), fun m hm => by cases hm⟩
  · have e : v = .slice (some a) len' cap' := by simpa [Value.cells] using hcs
    rw [e]
    have hlen : ((List.range len').map fun k => (⟨A k, C k, ((Z k).take (L k)).map Int.toNat⟩ : RowB)).length = len' := by simp
    have hrow : ∀ k r, ((List.range len').map fun k => (⟨A k, C k, ((Z k).take (L k)).map Int.toNat⟩ : RowB))[k]? = some r → W.cell? (a.add k) = some r.v ∧ r.ok W := by
      intro k r hr
      have hk : k < len' := by
        have h1 := (List.getElem?_eq_some_iff.1 hr).1
        rw [hlen] at h1
        exact h1
      have hr' : r = ⟨A k, C k, ((Z k).take (L k)).map Int.toNat⟩ := by
        rw [List.getElem?_map, List.getElem?_range hk] at hr
        simp only [Option.map_some, Option.some.injEq] at hr
        exact hr.symm
      subst hr'
      obtain ⟨h1, h2, h3, h4, h5, h6, h7⟩ := hx k (by omega)
      unfold maxLen at h3
      have hll : (((Z k).take (L k)).map Int.toNat).length = L k := by rw [List.length_map, List.length_take]; omega
      refine ⟨by rw [h1]; show _ = some (Value.slice (A k) (((Z k).take (L k)).map Int.toNat).length (C k)); rw [hll], ?_⟩
      cases hA : A k with
      | none =>
        have hc0 := h6 hA
        have hl0 : L k = 0 := by omega
        refine ⟨fun h0 => ?_, by rw [hll]; exact h2, h3, fun b hb => ?_⟩
        · rw [length_bts, hll] at h0; omega
        · rw [hl0] at hb; simp at hb
      | some a' =>
        obtain ⟨_, hc⟩ := h7 a' hA
        obtain ⟨_, g2, g3⟩ := nums_src (W := W) h2 h4 hc h5
        exact ⟨g2, by rw [hll]; exact h2, h3, g3⟩
    refine ⟨some a, cap', (List.range len').map fun k => ⟨A k, C k, ((Z k).take (L k)).map Int.toNat⟩, by rw [hlen], by omega, by unfold maxLen at hm; exact hm, fun h0 => ⟨a, rfl, hrow⟩, fun m hm2 => ?_⟩
    obtain ⟨k, hk⟩ := List.getElem?_of_mem hm2
    simp only [lens, List.getElem?_map, Option.map_eq_some_iff] at hk
    obtain ⟨r, hr, rfl⟩ := hk
    have h9 := (hrow k r (by rw [List.getElem?_map, Option.map_eq_some_iff]; exact hr)).2
    have := h9.2.1
    have := h9.2.2.1
    omega
end Go.Proofs.Ytdaipfmckonfpaa
namespace Go.Proofs.Ytdaipfmckonfpaa
open Go.ChangeShapes Go.WideShapes Go.ChangeAt Go.RowKit Go.Deep

theorem agg_field {H : Type} {enc : TypeId × Value → H} {P : Program} {w : World} {base b0 : Nat} {spare : Nat → Bool} {held : Bool} {r : Reach} {t : TypeId} {fs : Array Field} {v : Value} {d : DataW H} {p : List MemPlace}
    (hs : P.underlying t = some (.struct fs)) (hone : oneCellFields P fs = true) (hC : P.cellsOf t = fs.size) (hv : Value.okWide P w r b0 t v) (h : DataW.Trod enc P w base spare held t v d p) :
    ∃ cs : Array Value, v = .agg cs ∧ cs.size = fs.size ∧ ∃ n, ∀ (j : Nat) (f : Field), fs[j]? = some f → ∃ (x : Value) (y : DataW H × List MemPlace), cs[j]? = some x ∧ DataW.trod enc P w base spare held n f.type [x] = some y := by
  obtain ⟨cs, rfl, hsz⟩ := okWide_struct hs hv
  obtain ⟨fuel, hf⟩ := h
  obtain ⟨xs, n, _, _, _, hlen, hg⟩ := DataW.trod_struct hs hf
  refine ⟨cs, rfl, hsz.trans hC, n, fun j f hj => ?_⟩
  obtain ⟨ho, hk⟩ := hone_of hone j f hj
  have hjl : j < fs.size := (Array.getElem?_eq_some_iff.1 hj).1
  have hjc : j < cs.size := by rw [hsz, hC]; exact hjl
  have hjx : j < xs.length := by omega
  refine ⟨cs[j], xs[j], Array.getElem?_eq_getElem hjc, ?_⟩
  have h1 := hg j f hj
  rw [ho, hk, List.getElem?_eq_getElem hjx] at h1
  have e : ((Value.agg cs).cells.toList.drop j).take 1 = [cs[j]] := by
    simp only [Value.cells]
    rw [List.drop_eq_getElem_cons (by simpa using hjc)]
    simp
  rw [← e]
  exact h1
set_option maxRecDepth 100000 in
/-- a packet of amd as it came in -/
theorem apack_arg {H : Type} {enc : TypeId × Value → H} {W : World} {base : Nat} {v : Value} {d : DataW H} {p : List MemPlace} (hok : Value.okWide Try.prog W .any base 61 v)
    (h : DataW.Trod enc Try.prog W 0 (fun _ => true) true 61 v d p) : ∃ (poll part last : Bool) (fi sn off : Int) (A : Option Addr) (cap : Nat) (L : List RowB), v = .agg #[.bool poll, .int .i64 fi, .int .i64 sn, .bool part, .bool last, .int .i64 off, .slice A L.length cap] ∧ L.length ≤ cap ∧ cap ≤ 9223372036854775807 ∧ RSrc W A L ∧ ∀ m ∈ lens L, m ≤ 9223372036854775807 := by
  obtain ⟨cs, rfl, hsz, n, hf⟩ := agg_field Try.underlying61 (by kernel_rfl) (by kernel_rfl) hok h
  obtain ⟨x0, y0, e0, h0⟩ := hf 0 _ rfl
  obtain ⟨x1, y1, e1, h1⟩ := hf 1 _ rfl
  obtain ⟨x2, y2, e2, h2⟩ := hf 2 _ rfl
  obtain ⟨x3, y3, e3, h3⟩ := hf 3 _ rfl
  obtain ⟨x4, y4, e4, h4⟩ := hf 4 _ rfl
  obtain ⟨x5, y5, e5, h5⟩ := hf 5 _ rfl
  obtain ⟨x6, y6, e6, h6⟩ := hf 6 _ rfl
  have hcs : cs = #[x0, x1, x2, x3, x4, x5, x6] := by
    have hsz7 : cs.size = 7 := hsz
    apply Array.ext (by rw [hsz7]; rfl)
    intro i hi _
    have h7 : i < 7 := by omega
    have key : ∀ k x, cs[k]? = some x → ∀ (hk : k < cs.size), cs[k] = x := fun k x hx hk => by
      rw [Array.getElem?_eq_getElem hk] at hx
      injection hx
    rcases i with _ | _ | _ | _ | _ | _ | _ | i
    · exact key 0 _ e0 hi
    · exact key 1 _ e1 hi
    · exact key 2 _ e2 hi
    · exact key 3 _ e3 hi
    · exact key 4 _ e4 hi
    · exact key 5 _ e5 hi
    · exact key 6 _ e6 hi
    · omega
  subst hcs
  obtain ⟨b0, g0, _⟩ := DataW.trod_bool Try.underlying4 h0
  obtain ⟨n1, g1, _⟩ := DataW.trod_int Try.underlying3 h1
  obtain ⟨n2, g2, _⟩ := DataW.trod_int Try.underlying3 h2
  obtain ⟨b3, g3, _⟩ := DataW.trod_bool Try.underlying4 h3
  obtain ⟨b4, g4, _⟩ := DataW.trod_bool Try.underlying4 h4
  obtain ⟨n5, g5, _⟩ := DataW.trod_int Try.underlying3 h5
  injection g0 with g0
  injection g1 with g1
  injection g2 with g2
  injection g3 with g3
  injection g4 with g4
  injection g5 with g5
  subst g0 g1 g2 g3 g4 g5
  obtain ⟨A, cap, L, rfl, q1, q2, q3, q4⟩ := rows_cells h6
  exact ⟨b0, b3, b4, n1, n2, n5, A, cap, L, rfl, q1, q2, q3, q4⟩
end Go.Proofs.Ytdaipfmckonfpaa
