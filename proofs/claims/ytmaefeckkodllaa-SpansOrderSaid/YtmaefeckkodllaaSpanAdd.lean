/-
  A span put into a set.
-/
import Derived.Test.YtmaefeckkodllaaSpanAdd1
import Derived.Test.YtmaefeckkodllaaSpanTake
import Derived.Laws.OwnMore
namespace Go.Proofs.Ytmaefeckkodllaa
open Go.RowKit

theorem each_add {B C p xb ab bb : Nat} {sv : Value} {L : List (Int × Int)} {x : Int × Int} {w0 w : World} (hr : SRep B w0 p sv L) (hl : L.length ≤ 20000) (hbl : Below w0.heap.size w0 w)
    (hk : Adding C xb ab bb (x, [], []) w) (hC : C ≤ w.heap.size) (h1 : w0.heap.size ≤ xb) (h2 : w0.heap.size ≤ ab) (h3 : w0.heap.size ≤ bb) :
    Calls Try.prog 47 #[.pointer (some ⟨p, 0, none⟩), .func (.func 50) #[] #[.pointer (some ⟨xb, 0, none⟩), .pointer (some ⟨ab, 0, none⟩), .pointer (some ⟨bb, 0, none⟩)]] w fun e w' => e = .returned (.tuple #[]) ∧ Adding C xb ab bb (addS x L) w' ∧ Below w0.heap.size w0 w' ∧ C ≤ w'.heap.size := by
  refine (each_any (B := B) (sv := sv) (L := L) (by omega) (fun k W => Adding C xb ab bb (addS x (L.take k)) W ∧ Below w0.heap.size w0 W ∧ C ≤ W.heap.size) w ⟨hk, hbl, hC⟩ (fun k W h => hr.later h.2.1) (fun k W y hy h => ?_)).mono (fun e w' h => ⟨h.1, by simpa using h.2⟩)
  have hlen : (addS x (L.take k)).2.1.length ≤ (L.take k).length ∧ (addS x (L.take k)).2.2.length ≤ (L.take k).length := by
    have g : ∀ (M : List (Int × Int)) (s : (Int × Int) × List (Int × Int) × List (Int × Int)), (M.foldl addStep s).2.1.length ≤ s.2.1.length + M.length ∧ (M.foldl addStep s).2.2.length ≤ s.2.2.length + M.length := by
      intro M
      induction M with
      | nil => intro s; simp
      | cons z r ih =>
        intro s
        rw [List.foldl_cons]
        have h1 := ih (addStep s z)
        have h2 : (addStep s z).2.1.length ≤ s.2.1.length + 1 ∧ (addStep s z).2.2.length ≤ s.2.2.length + 1 := by
          unfold addStep
          split
          · simp
          · split <;> simp
        simp
        omega
    have := g (L.take k) (x, [], [])
    simp only [List.length_nil, Nat.zero_add] at this
    exact this
  have h4 : (L.take k).length ≤ L.length := by simp; omega
  have hC1 := h.1.1
  refine (add1_any y h.1 h.2.2 (by omega)).mono ?_
  rintro e w' ⟨rfl, h5, h6⟩
  refine ⟨rfl, ?_, bl_only h.2.1 h6 (fun k hk hh => by omega) h.2.1.size, by have := h6.size; have := h.2.2; omega⟩
  rw [take_snoc hy]
  have e : addS x (L.take k ++ [y]) = addStep (addS x (L.take k)) y := by unfold addS; rw [List.foldl_append]; rfl
  rw [e]
  exact h5

/-- append of one list of spans behind another one, each the call's own, the second nil or not -/
theorem run_append_two {w : World} {C : Nat} {v X : Value} {n m : Nat} {xs news : List Value} (h : w.ownsRow C 24 2 v n xs) (hX : w.ownsRow C 24 2 X m news) (h1 : ∀ u ∈ news, u.oneCell' = true) (hnm : n + m ≤ 1000000) (hC : C ≤ w.heap.size) :
    ∃ v' w', (Builtin.append_ #[45, 45] 45 #[v, X]).run Try.prog w = .ok v' w' ∧ w'.ownsRow C 24 2 v' (n + m) (xs ++ news) ∧ w.grownBy w' v.ownBlock := by
  obtain ⟨i0, hi, hi0, hi1, hi2⟩ := info24_parts
  rcases hX.2 with ⟨rfl, rfl⟩ | ⟨g, cap, cur, rfl, _⟩
  · have hn : news = [] := List.eq_nil_of_length_eq_zero (by simpa using hX.1)
    subst hn
    refine ⟨v, w, run_append_owned_none (P := Try.prog) (w := w) C 45 45 24 i0 2 Try.underlying45 hi v n xs h, by simpa using h, ⟨rfl, rfl, rfl, Nat.le_refl _, fun _ _ _ => rfl⟩⟩
  · obtain ⟨v', w', hr, h2, h3, _⟩ := run_append_own (P := Try.prog) w C 45 45 24 i0 _ 2 16 Try.underlying45 hi hi0 hi1 hi2 rfl (by omega) v n xs h ⟨g, 0, none⟩ m cap news hX.1 (hX.cells (g := g) rfl) h1 (by unfold maxLen; omega) (by omega) hC
    exact ⟨v', w', hr, h2, h3⟩

theorem step_run {P : Program} {ops : Array Oper} {o : Oper} {a : Act} {w : World} {K : Act → World → Prop} {Q : Exit → Act → World → Prop} {E : Prop} (hgd : o.guard = none) (s x : Operand) (t : TypeId)
    (ho : o.op = .call { callee := .builtin .append, args := #[s, x], argTypes := #[t, t] }) (v u : Value) (hs : a.eval s = v) (hx : a.eval x = u) {v' : Value} {w' : World}
    (hr : (Builtin.append_ #[t, t] o.type #[v, u]).run P w = .ok v' w') (h : K (a.put o.dst v') w') :
    if Region.wanted o (yielded ops a.tmps) = true then Oper.wp P o a w K Q else E := by
  have hw : Region.wanted o (yielded ops a.tmps) = true := by simp [Region.wanted, hgd]
  rw [if_pos hw]
  unfold Oper.wp execOp
  simp only [ho, resolve, invoke, builtin, Sem.run_bind, Sem.run_pure, Result.andThen_ok, List.map_toArray, List.map_cons, List.map_nil, hs, hx, hr]
  exact h

theorem add_tail {B C p bb g cap : Nat} {sv sa sb : Value} {L F G T : List (Int × Int)} {c d : Int} {w w2 w3 : World} {o : Obj} (hr : SRep B w p sv L) (hb : Below w.heap.size w w2) (o1 : w2.ownsRow C 24 2 sa F.length (spc F)) (o2 : w2.ownsRow C 24 2 sb G.length (spc G))
    (hne : ∀ k, sa.ownBlock = some k → sb.ownBlock ≠ some k) (hrb : Row w2 bb 45 #[sb]) (hT : T = F ++ [(c, d)] ++ G) (hown : w3.ownsRow C 24 2 (.slice (some ⟨g, 0, none⟩) (F.length + 1) cap) (F.length + 1) (spc F ++ [.int .i64 c, .int .i64 d]))
    (hgrow : (w2.alloc o).drew.grownBy w3 sa.ownBlock) (hB : B ≤ w.heap.size) (hC : w.heap.size ≤ C) (hC2 : C ≤ w2.heap.size) (hbb : bb < C) (hl : F.length + 1 + G.length ≤ 10000) :
    ∃ v4 w4, (Builtin.append_ #[45, 45] 45 #[.slice (some ⟨g, 0, none⟩) (F.length + 1) cap, sb]).run Try.prog w3 = .ok v4 w4 ∧ SRep B w4 p sv L ∧ w4.ownsRow B 24 2 v4 T.length (spc T) ∧ Below w.heap.size w w4 ∧ w3.cell? ⟨bb, 0, none⟩ = some sb := by
  have hsz := hgrow.size
  simp at hsz
  have hob : w3.ownsRow C 24 2 sb G.length (spc G) := World.ownsRow.kept (w := w2.drew.alloc o) (World.ownsRow.alloc (w := w2.drew) o2 o) hgrow (by
    rcases hs : sb.ownBlock with _ | k
    · exact .inl rfl
    · exact .inr fun he => hne k he.symm hs)
  have hrow3 := grown_row (hrb.drawn.more o) hgrow (fun hk => by have := (o1.lt _ hk).1; omega)
  have hlt := fun k hk => (o1.lt k hk).1
  have hb3 : Below w.heap.size w w3 := (((Only.of_below (S := fun k => w.heap.size ≤ k) hb).alloc o).drew.grown hgrow (fun k hk => .inl (by have := hlt k hk; omega))).below (Nat.le_refl _) (fun k hk hh => by omega)
  obtain ⟨v4, w4, h1, h2, h3⟩ := run_append_two hown hob (spc_one G) (by omega) (by omega)
  have hb4 : Below w.heap.size w w4 := ((Only.of_below (S := fun k => w.heap.size ≤ k) hb3).grown h3 (fun k hk => .inl (by have := (hown.lt k hk).1; omega))).below (Nat.le_refl _) (fun k hk hh => by omega)
  refine ⟨v4, w4, h1, hr.later hb4, ?_, hb4, hrow3.read (i := 0) rfl⟩
  have e1 : T.length = F.length + 1 + G.length := by rw [hT]; simp; omega
  have e2 : spc T = spc F ++ [.int .i64 c, .int .i64 d] ++ spc G := by rw [hT, spc_append, spc_append]; rfl
  rw [e1, e2]
  exact h2.mono (by omega)

set_option maxRecDepth 100000 in
set_option maxHeartbeats 1600000 in
theorem add_any {B p : Nat} {sv : Value} {L : List (Int × Int)} {w : World} (x : Int × Int) (hx : rightB x = true) (hr : SRep B w p sv L) (hn : Norm 0 L) (hl : L.length ≤ 2047) (hB : B ≤ w.heap.size) :
    Calls Try.prog 14 #[.pointer (some ⟨p, 0, none⟩), spv x] w fun e w' => e = .returned (.int .i64 0) ∧ (∃ sv', SRep B w' p sv' (addF x L)) ∧ Only (fun k => k = p) w w' := by
  have hx' := rightB_iff.1 hx
  have hlen : (addF x L).length ≤ L.length + 1 := by rw [addF_eq hn hx'.2.2]; exact addR_len
  have HX := Lib.hid hx
  have HR := Lib.hid hr
  have HT := Lib.hid (fun C xb ab bb w1 => each_add (C := C) (xb := xb) (ab := ab) (bb := bb) (w := w1) (x := x) hr (by omega))
  have HB2 := Lib.hid (fun sv' w2 (h1 : SRep B w2 p sv L) (h2 : w2.ownsRow B 24 2 sv' (addF x L).length (spc (addF x L))) => become_any h1 h2 (by omega))
  have hs : (addF x L) = (addS x L).2.1 ++ [(addS x L).1] ++ (addS x L).2.2 := rfl
  clear hx hr hx' hn
  generalize addF x L = T at *
  generalize addS x L = S at *
  obtain ⟨⟨c, d⟩, F, G⟩ := S
  obtain ⟨a, b⟩ := x
  simp only at hs
  have HS := Lib.hid hs
  have hlT : T.length = F.length + 1 + G.length := by rw [hs]; simp; omega
  clear hs
  obtain ⟨i0, hi, hi0, hi1, hi2⟩ := info24_parts
  show Calls Try.prog 14 #[_, .agg #[.int .i64 a, .int .i64 b]] w _
  go_enter Try.func14, Try.ntmps14
  go_wp2_with fail
  refine (fault_ok p (a, b) _ HX.out).mono ?_
  rintro e w1 ⟨rfl, hb1⟩
  have hs1 := hb1.size
  simp at hs1
  have HB1 := Lib.hid (bl_step (bl_alloc (Below.refl _ _) _) hb1)
  have hxr := (Row.made w 24 #[.int .i64 a, .int .i64 b]).later hb1
  have k1 := Row.made w1 45 #[.slice none 0 0]
  have k2 := made1 w1 (.cells #[.slice none 0 0] 45) 45 #[.slice none 0 0]
  have HA : Hid (Adding (w1.heap.size + 2) w.heap.size w1.heap.size (w1.heap.size + 1) ((a, b), [], []) ((w1.alloc (.cells #[.slice none 0 0] 45)).alloc (.cells #[.slice none 0 0] 45))) :=
    Lib.hid ⟨by omega, by omega, by omega, by omega, (hxr.more _).more _, _, _, k1.more _, k2, World.ownsRow_nil _ _ _ _, World.ownsRow_nil _ _ _ _, fun k hk => by simp [Value.ownBlock] at hk⟩
  have HB3 := Lib.hid (bl_alloc (bl_alloc HB1.out (.cells #[.slice none 0 0] 45)) (.cells #[.slice none 0 0] 45))
  clear hb1 hxr k1 k2
  go_wp2_with fail
  refine (HT.out _ _ _ _ _ HB3.out HA.out (by simp) (by omega) (by omega) (by omega)).mono ?_
  rintro e w2 ⟨rfl, ⟨q1, q2, q3, q4, hxr, sa, sb, r1, r2, o1, o2, hne⟩, hb2, hC2⟩
  simp only at hxr o1 o2
  have c1 := hxr.read (i := 0) rfl
  have c2 := hxr.read (i := 1) rfl
  have c3 := r1.read (i := 0) rfl
  have c4 := r2.read (i := 0) rfl
  have HXR := Lib.hid hxr
  have HR1 := Lib.hid r1
  have HR2 := Lib.hid r2
  have HO1 := Lib.hid o1
  have HO2 := Lib.hid o2
  have HNE := Lib.hid hne
  have HB4 := Lib.hid hb2
  clear hxr r1 r2 o1 o2 hne hb2
  go_wp2_with fail
  have fa := (HR1.out.more (.cells #[.int .i64 c, .int .i64 d] 24)).read (i := 0) rfl
  have fb := (HR2.out.more (.cells #[.int .i64 c, .int .i64 d] 24)).read (i := 0) rfl
  go_region_law (first
    | (refine step_append_lies _ rfl (.tmp 18) (.tmp 20) 45 rfl (w1.heap.size + 2) 24 i0 (.agg #[.int .i64 0, .int .i64 0]) 2 16 Try.underlying45 hi hi0 hi1 hi2 rfl (by omega) sa F.length (spc F) (by simp [Act.eval]) (HO1.out.alloc _) ⟨w2.heap.size, 0, none⟩ 1 1 [.int .i64 c, .int .i64 d] (by simp [Act.eval]) rfl (new_pair _ _ _ _) (pair_one c d) (by omega) (by unfold maxLen; omega) (by omega) (by simp; omega) _ rfl ?_; intro g cap w3 hown hgrow hgg hg2; obtain ⟨v4, w4, hr4, hs4, ho4, hb4, cb⟩ := add_tail (B := B) (p := p) (sv := sv) (L := L) (bb := w1.heap.size + 1) HR.out HB4.out HO1.out HO2.out HNE.out HR2.out HS.out hown hgrow (by omega) (by omega) (by omega) (by omega) (by omega))
    | (refine step_run rfl (.tmp 21) (.tmp 22) 45 rfl (.slice (some ⟨g, 0, none⟩) (F.length + 1) cap) sb (by simp [Act.eval]) (by simp [Act.eval]) hr4 ?_)
    | (go_simp; go_at_call 49; refine (HB2.out _ _ hs4 ho4).mono ?_; rintro e w5 ⟨rfl, h6, h7⟩; go_simp))
  all_goals
    clear hs4 ho4
    go_wp2
    go_ret
    exact ⟨rfl, ⟨_, h6⟩, (Only.of_below hb4).andThen h7 (fun k _ hk => hk)⟩
end Go.Proofs.Ytmaefeckkodllaa
