/-
  Both sets of spans between calls: the code's and the document's. A law's row follows from its walk: the call returns true, and below the heap's old size the world is as it was; then every argument reads as it did. How the arguments of the statements of spans read: calls (whether taken out, and a span), and spans.
-/
import Derived.Test.YtjonkpdjhjobfaaJSpansLive05
import Derived.Test.YtjonkpdjhjobfaaRows
import Derived.WalkKit
import Derived.ProofKit
import Derived.OpenShut
import Derived.Test.YtjonkpdjhjobfaaJSpansLive01
import Derived.Deep.Slices
import Derived.Deep.SlicePairs
import Derived.Lib.SmallJoins
namespace Go.Proofs.Ytjonkpdjhjobfaa
open Go.RowKit

/-- both sets between calls -/
structure LV (W0 w : World) (p y : Nat) (A : Option Addr) (c N : Nat) (L : List (Int × Int)) (l : List Bool) : Prop where
  sits : Sits W0.heap.size p L w
  row : Row w y 71 #[.slice A N c]
  own : SOwnL W0.heap.size w (.slice A N c) l
  len : l.length = N
  few : N ≤ 3000
  sl : SL L l
  py : p ≠ y
  yB : W0.heap.size ≤ y
  bl : Below W0.heap.size W0 w
theorem LV.later {W0 w v : World} {p y : Nat} {A : Option Addr} {c N : Nat} {L : List (Int × Int)} {l : List Bool} (h : LV W0 w p y A c N L l) (hb : Below w.heap.size w v) : LV W0 v p y A c N L l :=
  ⟨h.sits.later hb, h.row.later hb, own_only h.own (.of_below hb) (fun _ _ h => h), h.len, h.few, h.sl, h.py, h.yB, bl_step h.bl hb⟩
theorem LV.src {W0 w : World} {p y : Nat} {A : Option Addr} {c N : Nat} {L : List (Int × Int)} {l : List Bool} (h : LV W0 w p y A c N L l) : SrcO w A (sbls l) := SOwnL.src h.own
theorem opO_ins {tk : Bool} {x : Int × Int} {L : List (Int × Int)} (h : Norm 0 L) (hx : srightB x = true) (q : Int) : Ins q (opO (tk, x) L) ↔ if !tk then Ins q L ∨ (x.1 ≤ q ∧ q < x.2) else Ins q L ∧ ¬ (x.1 ≤ q ∧ q < x.2) := by
  unfold opO
  cases tk
  · simp only [Bool.false_eq_true, if_false, Bool.not_false, if_true]
    rw [addO_ins h]
    simp [hx]
  · simp only [if_true, Bool.not_true, Bool.false_eq_true, if_false]
    rw [takeO_ins]
    simp [hx]
theorem opO_no {tk : Bool} {x : Int × Int} {L : List (Int × Int)} (hx : srightB x = false) : opO (tk, x) L = L := by
  unfold opO addO takeO
  simp [hx]
theorem rows_same {w : World} {g : Nat} {t t' : TypeId} {cs cs' : Array Value} (h : Row w g t cs) (h' : Row w g t' cs') : t = t' := by
  have := h.symm.trans h'
  injection this with this
  injection this with _ h2
theorem lv_after {W0 w w1 : World} {p y : Nat} {A : Option Addr} {c N : Nat} {L : List (Int × Int)} {l : List Bool} (h : LV W0 w p y A c N L l) (tk : Bool) (x : Int × Int) (hx : x.2 ≤ 3000 ∨ 65536 < x.2) (hl : L.length ≤ 1000)
    (h1 : Sits W0.heap.size p (opO (tk, x) L) w1) (ho : Only (fun k => k = p) w w1) :
    Row w1 y 71 #[.slice A N c] ∧ (∀ g t cs, t ≠ 159 → Row w g t cs → Row w1 g t cs) ∧ ∀ u, Below w1.heap.size w1 u → Calls Try.prog 30 #[.agg #[.slice A N c], .agg #[.int .i64 x.1, .int .i64 x.2], .bool (!tk)] u fun e w3 =>
      ∃ A' c' N' l', e = .returned (.tuple #[.agg #[.slice A' N' c'], .int .i64 (opE x)]) ∧ Row w3 y 71 #[.slice A N c] ∧ LV W0 (w3.setCell ⟨y, 0, none⟩ (.slice A' N' c')) p y A' c' N' (opO (tk, x) L) l' := by
  have hB : W0.heap.size ≤ p := h.sits.1
  obtain ⟨svp, hrp⟩ := h.sits.row
  have r1 : Row w1 y 71 #[.slice A N c] := h.row.only ho (fun e => h.py e.symm)
  have o1 : SOwnL W0.heap.size w1 (.slice A N c) l := own_only h.own ho (fun k hk e => by subst e; exact own_apart h.own hrp (by decide) hk)
  have b1 : Below W0.heap.size W0 w1 := h.bl.trans (ho.below h.bl.size (fun k hk e => by omega))
  refine ⟨r1, fun g t cs ht hg => hg.only ho (fun e => ht (by subst e; exact (rows_same hrp hg).symm)), fun u hu => ?_⟩
  have ru := r1.later hu
  have ou : SOwnL W0.heap.size u (.slice A N c) l := own_only o1 (.of_below hu) (fun _ _ h => h)
  have bu := bl_step b1 hu
  have su := h1.later hu
  by_cases hr : srightB x = true
  · obtain ⟨hr1, hr2, hr3⟩ := rightB_iff.1 hr
    obtain ⟨a, b⟩ := x
    simp only at hr1 hr2 hr3 hx
    obtain ⟨a, rfl⟩ := Int.eq_ofNat_of_zero_le hr1
    obtain ⟨b, rfl⟩ := Int.eq_ofNat_of_zero_le (show (0 : Int) ≤ b by omega)
    have hM := h.sl.change a b (by omega) (!tk) (M := opO (tk, ((a : Int), (b : Int))) L) (opO_norm h.sl.1) (fun q => opO_ins h.sl.1 hr q)
    have hlen := opO_len (o := (tk, ((a : Int), (b : Int)))) h.sl.1
    refine (refchange_ok c N a b (!tk) u h.len (by have := h.few; omega) (by omega) (by omega) (SOwnL.src ou) hM (by omega)).mono ?_
    rintro e w3 ⟨A', c', N', hN', rfl, ho3, hb3⟩
    have r3 := ru.later hb3
    refine ⟨A', c', N', withB l a b (!tk), by unfold opE; rw [if_pos hr], r3, ?_⟩
    have hO : Only (fun k => k = y) w3 (w3.setCell ⟨y, 0, none⟩ (.slice A' N' c')) := (Only.refl (fun k => k = y) w3).set (p := ⟨y, 0, none⟩) (.inl rfl) _
    have hy : y < u.heap.size := (Array.getElem?_eq_some_iff.1 ru).1
    refine ⟨(su.later hb3).other r3 (by decide) h.py hO, r3.written 0 _, ?_, hN'.symm, ?_, hM, h.py, h.yB, ?_⟩
    · have h9 := ownsRow_setCell_below ho3 (a := ⟨y, 0, none⟩) hy (.slice A' N' c')
      exact h9.mono bu.size
    · rw [hN', length_withB, h.len]; have := h.few; omega
    · exact (bl_step bu hb3).setCell (p := ⟨y, 0, none⟩) (by exact h.yB) _
  · have hr' : srightB x = false := by simpa using hr
    obtain ⟨a, b⟩ := x
    refine (refchange_no c N a b (!tk) u hr').mono ?_
    rintro e w3 ⟨rfl, hb3⟩
    have r3 := ru.later hb3
    refine ⟨A, c, N, l, by unfold opE; rw [if_neg hr], r3, ?_⟩
    have hO : Only (fun k => k = y) w3 (w3.setCell ⟨y, 0, none⟩ (.slice A N c)) := (Only.refl (fun k => k = y) w3).set (p := ⟨y, 0, none⟩) (.inl rfl) _
    have o3 : SOwnL W0.heap.size w3 (.slice A N c) l := own_only ou (.of_below hb3) (fun _ _ h => h)
    have s3 := (su.later hb3).other r3 (by decide) h.py hO
    refine ⟨s3, r3.written 0 _, own_only o3 hO (fun k hk e => by subst e; exact own_apart o3 r3 (by decide) hk), h.len, h.few, ?_, h.py, h.yB, ?_⟩
    · rw [opO_no hr']; exact h.sl
    · exact (bl_step bu hb3).setCell (p := ⟨y, 0, none⟩) (by exact h.yB) _
theorem lv_add {W0 w : World} {p y : Nat} {A : Option Addr} {c N : Nat} {L : List (Int × Int)} {l : List Bool} (h : LV W0 w p y A c N L l) (x : Int × Int) (hx : x.2 ≤ 3000 ∨ 65536 < x.2) (hl : L.length ≤ 1000) :
    Calls Try.prog 29 #[.pointer (some ⟨p, 0, none⟩), .agg #[.int .i64 x.1, .int .i64 x.2]] w fun e w1 => e = .returned (.int .i64 (opE x)) ∧ Row w1 y 71 #[.slice A N c] ∧ (∀ g t cs, t ≠ 159 → Row w g t cs → Row w1 g t cs) ∧ ∀ u, Below w1.heap.size w1 u → Calls Try.prog 30 #[.agg #[.slice A N c], .agg #[.int .i64 x.1, .int .i64 x.2], .bool true] u fun e w3 =>
      ∃ A' c' N' l', e = .returned (.tuple #[.agg #[.slice A' N' c'], .int .i64 (opE x)]) ∧ Row w3 y 71 #[.slice A N c] ∧ LV W0 (w3.setCell ⟨y, 0, none⟩ (.slice A' N' c')) p y A' c' N' (opO (false, x) L) l' := by
  refine (sit_add x h.sits (by omega)).mono ?_
  rintro e w1 ⟨rfl, h1, h2⟩
  exact ⟨rfl, lv_after h false x hx hl h1 h2⟩
theorem lv_take {W0 w : World} {p y : Nat} {A : Option Addr} {c N : Nat} {L : List (Int × Int)} {l : List Bool} (h : LV W0 w p y A c N L l) (x : Int × Int) (hx : x.2 ≤ 3000 ∨ 65536 < x.2) (hl : L.length ≤ 1000) :
    Calls Try.prog 28 #[.pointer (some ⟨p, 0, none⟩), .agg #[.int .i64 x.1, .int .i64 x.2]] w fun e w1 => e = .returned (.int .i64 (opE x)) ∧ Row w1 y 71 #[.slice A N c] ∧ (∀ g t cs, t ≠ 159 → Row w g t cs → Row w1 g t cs) ∧ ∀ u, Below w1.heap.size w1 u → Calls Try.prog 30 #[.agg #[.slice A N c], .agg #[.int .i64 x.1, .int .i64 x.2], .bool false] u fun e w3 =>
      ∃ A' c' N' l', e = .returned (.tuple #[.agg #[.slice A' N' c'], .int .i64 (opE x)]) ∧ Row w3 y 71 #[.slice A N c] ∧ LV W0 (w3.setCell ⟨y, 0, none⟩ (.slice A' N' c')) p y A' c' N' (opO (true, x) L) l' := by
  refine (sit_take x h.sits (by omega)).mono ?_
  rintro e w1 ⟨rfl, h1, h2⟩
  exact ⟨rfl, lv_after h true x hx hl h1 h2⟩
/-- how many are there: the same number, twice -/
theorem lv_count {W0 w : World} {p y : Nat} {A : Option Addr} {c N : Nat} {L : List (Int × Int)} {l : List Bool} (h : LV W0 w p y A c N L l) (hl : L.length ≤ 1000) :
    Calls Try.prog 31 #[.pointer (some ⟨p, 0, none⟩)] w fun e w1 => e = .returned (.int .i64 (cB l 0 N : Nat)) ∧ Below w.heap.size w w1 ∧ ∀ u, Below w1.heap.size w1 u → Calls Try.prog 32 #[.agg #[.slice A N c], .agg #[.int .i64 0, .int .i64 N]] u fun e w3 => e = .returned (.int .i64 (cB l 0 N : Nat)) ∧ Below u.heap.size u w3 := by
  refine (sit_count h.sits (by omega)).mono ?_
  rintro e w1 ⟨rfl, h1⟩
  refine ⟨by rw [h.sl.count, h.len], h1, fun u hu => ?_⟩
  have hf := h.few
  have := refcount_any (A := A) c 0 N N u h.len (by omega) (by omega) (by omega) ((h.later (bl_step h1 hu)).src)
  simpa using this
/-- of a span -/
theorem lv_of {W0 w : World} {p y : Nat} {A : Option Addr} {c N : Nat} {L : List (Int × Int)} {l : List Bool} (h : LV W0 w p y A c N L l) (a b : Nat) (hab : a ≤ b) (hb : b ≤ 65536) :
    Calls Try.prog 32 #[.agg #[.slice A N c], .agg #[.int .i64 a, .int .i64 b]] w fun e w3 => e = .returned (.int .i64 (cB l a (b - a) : Nat)) ∧ Below w.heap.size w w3 :=
  refcount_any c a b N w h.len (by have := h.few; omega) hb hab h.src
theorem lv_spans {W0 w : World} {p y : Nat} {A : Option Addr} {c N : Nat} {L : List (Int × Int)} {l : List Bool} (h : LV W0 w p y A c N L l) (hl : L.length ≤ 1000) :
    Calls Try.prog 36 #[.pointer (some ⟨p, 0, none⟩)] w fun e w1 => ∃ A1 c1 n, n = L.length ∧ e = .returned (.slice A1 n c1) ∧ SrcO w1 A1 (spc L) ∧ Below w.heap.size w w1 := by
  refine (sit_spans h.sits (by omega)).mono ?_
  rintro e w1 ⟨rfl, h1, h2⟩
  exact ⟨_, _, _, rfl, rfl, fun _ => ⟨w.heap.size, 0, rfl, fun j u hu => by rw [Nat.zero_add]; exact h1.read (by simpa using hu)⟩, h2⟩
theorem lv_rspans {W0 w : World} {p y : Nat} {A : Option Addr} {c N : Nat} {L : List (Int × Int)} {l : List Bool} (h : LV W0 w p y A c N L l) :
    Calls Try.prog 37 #[.agg #[.slice A N c]] w fun e w1 => ∃ A1 c1 n, n = L.length ∧ e = .returned (.slice A1 n c1) ∧ SrcO w1 A1 (spc L) ∧ Below w.heap.size w w1 := by
  have hf := h.few
  refine (refspans_any c N w h.len (by omega) h.src).mono ?_
  rintro e w1 ⟨x, rfl, ho, hb⟩
  rw [h.sl.runs N (by rw [h.len]; omega) (by omega)] at ho
  obtain ⟨A1, c1, rfl⟩ := ho.form
  exact ⟨A1, c1, _, rfl, rfl, ho.src, hb⟩
theorem lv_as {w : World} {A : Option Addr} {R : List (Int × Int)} (c n : Nat) (hn : n = R.length) (hl : n ≤ 65536) (hs : SrcO w A (spc R)) :
    Calls Try.prog 35 #[.slice A n c] w fun e w1 => ∃ A1 c1, e = .returned (.slice A1 n c1) ∧ SrcO w1 A1 (spc R) ∧ Below w.heap.size w w1 := by
  refine (spas_any c n w hn.symm hl hs).mono ?_
  rintro e w1 ⟨x, rfl, ho, hb⟩
  obtain ⟨A1, c1, rfl⟩ := ho.form
  exact ⟨A1, c1, by rw [hn], ho.src, hb⟩
/-- the gaps -/
theorem lv_gaps {W0 w : World} {p y : Nat} {A : Option Addr} {c N : Nat} {L : List (Int × Int)} {l : List Bool} (h : LV W0 w p y A c N L l) (hl : L.length ≤ 1000) (tq : Int) (hq : tq ≤ 4000 ∨ 65536 < tq) :
    ∃ G : List (Int × Int), G.length ≤ 65536 ∧ (∀ v, Below w.heap.size w v → Calls Try.prog 38 #[.pointer (some ⟨p, 0, none⟩), .int .i64 tq] v fun e w1 => ∃ A1 c1 n, n = G.length ∧ e = .returned (.slice A1 n c1) ∧ SrcO w1 A1 (spc G) ∧ Below v.heap.size v w1) ∧
      (∀ v, Below w.heap.size w v → Calls Try.prog 39 #[.agg #[.slice A N c], .int .i64 tq] v fun e w1 => ∃ A1 c1 n, n = G.length ∧ e = .returned (.slice A1 n c1) ∧ SrcO w1 A1 (spc G) ∧ Below v.heap.size v w1) := by
  by_cases h1 : tq < 1 ∨ 65536 < tq
  · refine ⟨[], by simp, fun v hv => ?_, fun v hv => ?_⟩
    · refine (gaps_out tq v h1).mono ?_
      rintro e w1 ⟨rfl, hb⟩
      exact ⟨none, 0, 0, rfl, rfl, SrcO.none _, hb⟩
    · refine (refgaps_out c N tq v h1).mono ?_
      rintro e w1 ⟨rfl, hb⟩
      exact ⟨none, 0, 0, rfl, rfl, SrcO.none _, hb⟩
  · obtain ⟨n, rfl⟩ := Int.eq_ofNat_of_zero_le (show (0 : Int) ≤ tq by omega)
    have hg := h.sl.gaps n (by omega)
    have hok := (runG_ok (fun i => l.getD i false == false) n (by omega)).2.2.2
    rw [hg] at hok
    refine ⟨gapsR n 0 L, by omega, fun v hv => ?_, fun v hv => ?_⟩
    · obtain ⟨_, _, _, sv, hr⟩ := h.sits.later hv
      refine (gaps_any (n : Int) (by omega) (by omega) hr (by omega)).mono ?_
      rintro e w1 ⟨A1, rfl, hs, hb⟩
      exact ⟨A1, _, _, rfl, rfl, hs, hb⟩
    · have hf := h.few
      refine (refgaps_any c N n v h.len (by omega) (by omega) (by omega) (h.later hv).src).mono ?_
      rintro e w1 ⟨x, rfl, ho, hb⟩
      rw [hg] at ho
      obtain ⟨A1, c1, rfl⟩ := ho.form
      exact ⟨A1, c1, _, rfl, rfl, ho.src, hb⟩
end Go.Proofs.Ytjonkpdjhjobfaa
namespace Go.Proofs.Ytjonkpdjhjobfaa
open Go.ChangeShapes Go.WideShapes Go.ChangeAt Go.RowKit

theorem lawOwn : ownKnob Try.prog.godebug = none := by kernel_rfl
theorem lawLaid : laidOutB Try.prog = true := by kernel_rfl

section
variable {H : Type} {enc : TypeId × Value → H} {P : Program}
/-- what was read in the old world is read in the new one -/
theorem args_stay (hl : laidOutB P = true) {W W' : World} (hb : Below W.heap.size W W') : ∀ (ts : List TypeId) (vs : List Value) (ds : List (DataW H)) (ps : List MemPlace),
    (∀ t ∈ ts, P.readableRec t = true ∧ t < P.types.size) → DataW.TrodAll enc P W 0 (fun _ => true) true ts vs ds ps → (∀ x ∈ ps, x.block < W.heap.size) →
    DataW.TrodAll enc P W' 0 (fun b => decide (b < W.heap.size)) true ts vs ds ps := by
  intro ts
  induction ts with
  | nil =>
    intro vs ds ps _ h _
    obtain ⟨rfl, rfl, rfl⟩ := trodAll_nil h
    exact trodAll_mk0
  | cons t ts ih =>
    intro vs ds ps hr h hlt
    obtain ⟨v, vs', d, ds', p, q, rfl, rfl, rfl, h1, h2⟩ := trodAll_cons h
    have ht := hr t (List.mem_cons_self ..)
    exact trodAll_cons_mk (Below.trod hl ht.1 ht.2 h1 hb fun x hx => hlt x (List.mem_append_left _ hx))
      (ih vs' ds' q (fun u hu => hr u (List.mem_cons_of_mem _ hu)) h2 fun x hx => hlt x (List.mem_append_right _ hx))

theorem law_post {f : Func} {s : ChangeSpec} {W W' : World} {args : Array Value} {ds gs : List (DataW H)} {before : List MemPlace} {B : TypeId}
    (hl : laidOutB P = true) (hr : f.params.toList.all (fun t => P.readableRec t && decide (t < P.types.size)) = true) (hv : s.vars = [])
    (hW : DataW.Whole enc P f.params.toList s.vars false W args.toList ds gs before)
    (hs : s.fn H (ds ++ gs) = { results := [.lit (.bool true)], args := ds }) (ht : f.resultTypes = #[B]) (hB : P.underlying B = some .bool)
    (hb : Below W.heap.size W W') : s.post enc P f false true false false W args (.bool true) W' := by
  have hW' := hW
  obtain ⟨p, q, hA, hV, rfl, _, _⟩ := hW
  rw [hv] at hV
  obtain ⟨rfl, rfl⟩ := trodVars_none hV
  refine ⟨ds, [], p ++ [], [], p, [], hW', ?_, ?_, ?_, hb.frame _, fun h => by cases h⟩
  · rw [hs, ht]
    exact trodAll_mk1 (shut_bool hB true)
  · rw [hs]
    exact args_stay hl hb _ _ _ _ (fun t h => by have := List.all_eq_true.1 hr t h; simpa using this) hA fun x hx => hW'.lt x (List.mem_append_left _ hx)
  · rw [hs, hv]
    exact rfl
end
end Go.Proofs.Ytjonkpdjhjobfaa
namespace Go.Proofs.Ytjonkpdjhjobfaa
open Go.ChangeShapes Go.WideShapes Go.ChangeAt Go.RowKit Go.Deep Go.Joins

theorem Try.cells73 : Try.prog.cellsOf 73 = 3 := by kernel_rfl
theorem Try.cells66 : Try.prog.cellsOf 66 = 2 := by kernel_rfl
theorem Try.cells4 : Try.prog.cellsOf 4 = 1 := by kernel_rfl
theorem Try.cells3 : Try.prog.cellsOf 3 = 1 := by kernel_rfl

/-- where calls lie -/
def OSrc (w : World) (A : Option Addr) (l : List (Bool × (Int × Int))) : Prop :=
  0 < l.length → ∃ b off, A = some ⟨b, off, none⟩ ∧ ∀ k o, l[k]? = some o → w.cell? ⟨b, off + k * 3, none⟩ = some (.bool o.1) ∧ w.cell? ⟨b, off + k * 3 + 1, none⟩ = some (.int .i64 o.2.1) ∧ w.cell? ⟨b, off + k * 3 + 2, none⟩ = some (.int .i64 o.2.2)

set_option maxRecDepth 100000 in
theorem span_cells {H : Type} {enc : TypeId × Value → H} {W : World} {base fuel : Nat} {sp : Nat → Bool} {held : Bool} {cs : List Value} {x : DataW H × List MemPlace}
    (h : DataW.trod enc Try.prog W base sp held fuel 66 cs = some x) : ∃ a b : Int, cs = [.int .i64 a, .int .i64 b] := by
  obtain ⟨xs, n, _, _, hl, hxs, hf⟩ := DataW.trod_struct Try.underlying66 h
  have h0 := hf 0 _ rfl
  have h1 := hf 1 _ rfl
  rw [Try.cells66] at hl
  match cs, hl with
  | [c0, c1], _ =>
    have hxs' : xs.length = 2 := by simpa using hxs
    match xs, hxs' with
    | [y0, y1], _ =>
      have h0' : DataW.trod enc Try.prog W base sp held n 3 (([c0, c1].drop 0).take (Try.prog.cellsOf 3)) = some y0 := h0
      have h1' : DataW.trod enc Try.prog W base sp held n 3 (([c0, c1].drop 1).take (Try.prog.cellsOf 3)) = some y1 := h1
      rw [Try.cells3] at h0' h1'
      obtain ⟨a, ea, _, _⟩ := DataW.trod_int Try.underlying3 h0'
      obtain ⟨b, eb, _, _⟩ := DataW.trod_int Try.underlying3 h1'
      simp at ea eb
      exact ⟨a, b, by rw [ea, eb]⟩

set_option maxRecDepth 100000 in
theorem op_cells {H : Type} {enc : TypeId × Value → H} {W : World} {base fuel : Nat} {sp : Nat → Bool} {held : Bool} {cs : List Value} {x : DataW H × List MemPlace}
    (h : DataW.trod enc Try.prog W base sp held fuel 73 cs = some x) : ∃ (t : Bool) (a b : Int), cs = [.bool t, .int .i64 a, .int .i64 b] := by
  obtain ⟨xs, n, _, _, hl, hxs, hf⟩ := DataW.trod_struct Try.underlying73 h
  have h0 := hf 0 _ rfl
  have h1 := hf 1 _ rfl
  rw [Try.cells73] at hl
  match cs, hl with
  | [c0, c1, c2], _ =>
    have hxs' : xs.length = 2 := by simpa using hxs
    match xs, hxs' with
    | [y0, y1], _ =>
      have h0' : DataW.trod enc Try.prog W base sp held n 4 (([c0, c1, c2].drop 0).take (Try.prog.cellsOf 4)) = some y0 := h0
      have h1' : DataW.trod enc Try.prog W base sp held n 66 (([c0, c1, c2].drop 1).take (Try.prog.cellsOf 66)) = some y1 := h1
      rw [Try.cells4] at h0'
      rw [Try.cells66] at h1'
      obtain ⟨t, et, _⟩ := DataW.trod_bool Try.underlying4 h0'
      obtain ⟨a, b, eab⟩ := span_cells h1'
      simp at et eab
      exact ⟨t, a, b, by rw [et, eab.1, eab.2]⟩

set_option maxRecDepth 100000 in
theorem ops_arg {H : Type} {enc : TypeId × Value → H} {W : World} {base : Nat} {v : Value} {d : DataW H} {p : List MemPlace} (hok : Value.okWide Try.prog W .any base 64 v)
    (h : DataW.Trod enc Try.prog W 0 (fun _ => true) true 64 v d p) : ∃ (A : Option Addr) (cap : Nat) (l : List (Bool × (Int × Int))), v = .slice A l.length cap ∧ l.length ≤ cap ∧ cap ≤ 9223372036854775807 ∧ OSrc W A l := by
  obtain ⟨a0, len, cap, rfl⟩ := okWide_slice Try.underlying64 hok
  obtain ⟨fuel, hf⟩ := h
  rcases open_slice Try.underlying64 hf with ⟨hcs, _⟩ | ⟨a, len', cap', m, n, D, Pl, hcs, _, hl, hm, hmm, _, hcell⟩
  · have e : Value.slice a0 len cap = .slice none 0 0 := by simpa [Value.cells] using hcs
    rw [e]
    exact ⟨none, 0, [], rfl, Nat.le_refl _, by omega, fun h0 => absurd h0 (by simp)⟩
  · have e : Value.slice a0 len cap = .slice (some a) len' cap' := by simpa [Value.cells] using hcs
    rw [e]
    have hm' : m = cap' := by simpa using hmm
    have each : ∀ i, i < len' → ∃ (t : Bool) (u w : Int), W.cell? (a.add (i * 3)) = some (.bool t) ∧ W.cell? (a.add (i * 3 + 1)) = some (.int .i64 u) ∧ W.cell? (a.add (i * 3 + 2)) = some (.int .i64 w) := by
      intro i hi
      obtain ⟨cs', hc, ht⟩ := hcell i (by omega)
      rw [Try.cells73] at hc
      obtain ⟨t, u, w, rfl⟩ := op_cells ht
      obtain ⟨_, _, hat⟩ := World.cells?_some hc
      have h0 := hat 0 (by omega)
      have h1 := hat 1 (by omega)
      have h2 := hat 2 (by omega)
      rw [add_add] at h0 h1 h2
      exact ⟨t, u, w, h0, h1, h2⟩
    have pick : ∃ f : Nat → Bool × (Int × Int), ∀ i, i < len' → W.cell? (a.add (i * 3)) = some (.bool (f i).1) ∧ W.cell? (a.add (i * 3 + 1)) = some (.int .i64 (f i).2.1) ∧ W.cell? (a.add (i * 3 + 2)) = some (.int .i64 (f i).2.2) := by
      refine ⟨fun i => if hi : i < len' then ((each i hi).choose, ((each i hi).choose_spec.choose, (each i hi).choose_spec.choose_spec.choose)) else (false, (0, 0)), fun i hi => ?_⟩
      simp only [dif_pos hi]
      exact (each i hi).choose_spec.choose_spec.choose_spec
    obtain ⟨f, hf'⟩ := pick
    have hlen : ((List.range len').map f).length = len' := by simp
    refine ⟨some a, cap', (List.range len').map f, by rw [hlen], by omega, by unfold maxLen at hm; exact hm, fun h0 => ?_⟩
    rw [hlen] at h0
    obtain ⟨b, off, spot⟩ := a
    have hspot : spot = none := by
      have hc := (hf' 0 (by omega)).1
      simpa [Addr.add] using World.cell?_spot hc
    subst hspot
    refine ⟨b, off, rfl, fun k o ho => ?_⟩
    have hk : k < len' := by
      have h1 := (List.getElem?_eq_some_iff.1 ho).1
      rw [hlen] at h1
      exact h1
    have ho' : o = f k := by
      rw [List.getElem?_map, List.getElem?_range hk] at ho
      simp at ho
      exact ho.symm
    subst ho'
    have h3 := hf' k hk
    rw [add_plain, add_plain, add_plain] at h3
    simpa [Nat.add_assoc] using h3

set_option maxRecDepth 100000 in
theorem span_arg {H : Type} {enc : TypeId × Value → H} {W : World} {base : Nat} {v : Value} {d : DataW H} {p : List MemPlace} (hok : Value.okWide Try.prog W .any base 66 v)
    (h : DataW.Trod enc Try.prog W 0 (fun _ => true) true 66 v d p) : ∃ x : Int × Int, v = spv x := by
  obtain ⟨cs, rfl, hsz⟩ := okWide_struct Try.underlying66 hok
  obtain ⟨fuel, hf⟩ := h
  obtain ⟨a, b, e⟩ := span_cells hf
  refine ⟨(a, b), ?_⟩
  have : cs = #[.int .i64 a, .int .i64 b] := by
    apply Array.toList_inj.1
    simpa [Value.cells] using e
  rw [this]
  rfl
end Go.Proofs.Ytjonkpdjhjobfaa
