/-
  A span put into a set. The document's Spans, Gaps and Change; equal lists of spans; the code's spans as the document's. Two equal lists of the document's spans are told to be the same. The code's spans as the document's. A set made of spans; the fixed calls at the end of each statement of spans come out as they should. A set that is asked and changed, call by call: what it holds, whatever the spans.
-/
import Derived.Test.YtjonkpdjhjobfaaJSpansLive04
import Derived.Test.YtjonkpdjhjobfaaJSpansLive03
import Derived.Laws.OwnMore
import Derived.Laws.ResultCell
import Derived.BigQuiet
import Derived.LoopN
namespace Go.Proofs.Ytjonkpdjhjobfaa
open Go.RowKit

theorem each_add {B C p xb ab bb : Nat} {sv : Value} {L : List (Int × Int)} {x : Int × Int} {w0 w : World} (hr : SRep B w0 p sv L) (hl : L.length ≤ 20000) (hbl : Below w0.heap.size w0 w)
    (hk : Adding C xb ab bb (x, [], []) w) (hC : C ≤ w.heap.size) (h1 : w0.heap.size ≤ xb) (h2 : w0.heap.size ≤ ab) (h3 : w0.heap.size ≤ bb) :
    Calls Try.prog 100 #[.pointer (some ⟨p, 0, none⟩), .func (.func 103) #[] #[.pointer (some ⟨xb, 0, none⟩), .pointer (some ⟨ab, 0, none⟩), .pointer (some ⟨bb, 0, none⟩)]] w fun e w' => e = .returned (.tuple #[]) ∧ Adding C xb ab bb (addS x L) w' ∧ Below w0.heap.size w0 w' ∧ C ≤ w'.heap.size := by
  refine (seach_any (B := B) (sv := sv) (L := L) (by omega) (fun k W => Adding C xb ab bb (addS x (L.take k)) W ∧ Below w0.heap.size w0 W ∧ C ≤ W.heap.size) w ⟨hk, hbl, hC⟩ (fun k W h => hr.later h.2.1) (fun k W y hy h => ?_)).mono (fun e w' h => ⟨h.1, by simpa using h.2⟩)
  have hlen : (addS x (L.take k)).2.1.length ≤ (L.take k).length ∧ (addS x (L.take k)).2.2.length ≤ (L.take k).length := by
    have g : ∀ (M : List (Int × Int)) (s : (Int × Int) × List (Int × Int) × List (Int × Int)), (M.foldl addStep s).2.1.length ≤ s.2.1.length + M.length ∧ (M.foldl addStep s).2.2.length ≤ s.2.2.length + M.length := by
      intro M
      induction M with
      | nil => intro s; simp
      | cons z r ih =>
        intro s
        rw [List.foldl_cons]
        have h1 := ih (addStep s z)
        have h2 : (addStep s z).2.1.length ≤ s.2.1.length + 1 ∧ (addStep s z).2.2.length ≤ s.2.2.length + 1 := by
          unfold addStep
          split
          · simp
          · split <;> simp
        simp
        omega
    have := g (L.take k) (x, [], [])
    simp only [List.length_nil, Nat.zero_add] at this
    exact this
  have h4 : (L.take k).length ≤ L.length := by simp; omega
  have hC1 := h.1.1
  refine (add1_any y h.1 h.2.2 (by omega)).mono ?_
  rintro e w' ⟨rfl, h5, h6⟩
  refine ⟨rfl, ?_, bl_only h.2.1 h6 (fun k hk hh => by omega) h.2.1.size, by have := h6.size; have := h.2.2; omega⟩
  rw [take_snoc hy]
  have e : addS x (L.take k ++ [y]) = addStep (addS x (L.take k)) y := by unfold addS; rw [List.foldl_append]; rfl
  rw [e]
  exact h5

/-- append of one list of spans behind another one, each the call's own, the second nil or not -/
theorem run_append_two {w : World} {C : Nat} {v X : Value} {n m : Nat} {xs news : List Value} (h : w.ownsRow C 66 2 v n xs) (hX : w.ownsRow C 66 2 X m news) (h1 : ∀ u ∈ news, u.oneCell' = true) (hnm : n + m ≤ 1000000) (hC : C ≤ w.heap.size) :
    ∃ v' w', (Builtin.append_ #[83, 83] 83 #[v, X]).run Try.prog w = .ok v' w' ∧ w'.ownsRow C 66 2 v' (n + m) (xs ++ news) ∧ w.grownBy w' v.ownBlock := by
  obtain ⟨i0, hi, hi0, hi1, hi2⟩ := info66_parts
  rcases hX.2 with ⟨rfl, rfl⟩ | ⟨g, cap, cur, rfl, _⟩
  · have hn : news = [] := List.eq_nil_of_length_eq_zero (by simpa using hX.1)
    subst hn
    refine ⟨v, w, run_append_owned_none (P := Try.prog) (w := w) C 83 83 66 i0 2 Try.underlying83 hi v n xs h, by simpa using h, ⟨rfl, rfl, rfl, Nat.le_refl _, fun _ _ _ => rfl⟩⟩
  · obtain ⟨v', w', hr, h2, h3, _⟩ := run_append_own (P := Try.prog) w C 83 83 66 i0 _ 2 16 Try.underlying83 hi hi0 hi1 hi2 rfl (by omega) v n xs h ⟨g, 0, none⟩ m cap news hX.1 (hX.cells (g := g) rfl) h1 (by unfold maxLen; omega) (by omega) hC
    exact ⟨v', w', hr, h2, h3⟩

theorem sstep_run {P : Program} {ops : Array Oper} {o : Oper} {a : Act} {w : World} {K : Act → World → Prop} {Q : Exit → Act → World → Prop} {E : Prop} (hgd : o.guard = none) (s x : Operand) (t : TypeId)
    (ho : o.op = .call { callee := .builtin .append, args := #[s, x], argTypes := #[t, t] }) (v u : Value) (hs : a.eval s = v) (hx : a.eval x = u) {v' : Value} {w' : World}
    (hr : (Builtin.append_ #[t, t] o.type #[v, u]).run P w = .ok v' w') (h : K (a.put o.dst v') w') :
    if Region.wanted o (yielded ops a.tmps) = true then Oper.wp P o a w K Q else E := by
  have hw : Region.wanted o (yielded ops a.tmps) = true := by simp [Region.wanted, hgd]
  rw [if_pos hw]
  unfold Oper.wp execOp
  simp only [ho, resolve, invoke, builtin, Sem.run_bind, Sem.run_pure, Result.andThen_ok, List.map_toArray, List.map_cons, List.map_nil, hs, hx, hr]
  exact h

theorem add_tail {B C p bb g cap : Nat} {sv sa sb : Value} {L F G T : List (Int × Int)} {c d : Int} {w w2 w3 : World} {o : Obj} (hr : SRep B w p sv L) (hb : Below w.heap.size w w2) (o1 : w2.ownsRow C 66 2 sa F.length (spc F)) (o2 : w2.ownsRow C 66 2 sb G.length (spc G))
    (hne : ∀ k, sa.ownBlock = some k → sb.ownBlock ≠ some k) (hrb : Row w2 bb 83 #[sb]) (hT : T = F ++ [(c, d)] ++ G) (hown : w3.ownsRow C 66 2 (.slice (some ⟨g, 0, none⟩) (F.length + 1) cap) (F.length + 1) (spc F ++ [.int .i64 c, .int .i64 d]))
    (hgrow : (w2.alloc o).drew.grownBy w3 sa.ownBlock) (hB : B ≤ w.heap.size) (hC : w.heap.size ≤ C) (hC2 : C ≤ w2.heap.size) (hbb : bb < C) (hl : F.length + 1 + G.length ≤ 10000) :
    ∃ v4 w4, (Builtin.append_ #[83, 83] 83 #[.slice (some ⟨g, 0, none⟩) (F.length + 1) cap, sb]).run Try.prog w3 = .ok v4 w4 ∧ SRep B w4 p sv L ∧ w4.ownsRow B 66 2 v4 T.length (spc T) ∧ Below w.heap.size w w4 ∧ w3.cell? ⟨bb, 0, none⟩ = some sb := by
  have hsz := hgrow.size
  simp at hsz
  have hob : w3.ownsRow C 66 2 sb G.length (spc G) := World.ownsRow.kept (w := w2.drew.alloc o) (World.ownsRow.alloc (w := w2.drew) o2 o) hgrow (by
    rcases hs : sb.ownBlock with _ | k
    · exact .inl rfl
    · exact .inr fun he => hne k he.symm hs)
  have hrow3 := grown_row (hrb.drawn.more o) hgrow (fun hk => by have := (o1.lt _ hk).1; omega)
  have hlt := fun k hk => (o1.lt k hk).1
  have hb3 : Below w.heap.size w w3 := (((Only.of_below (S := fun k => w.heap.size ≤ k) hb).alloc o).drew.grown hgrow (fun k hk => .inl (by have := hlt k hk; omega))).below (Nat.le_refl _) (fun k hk hh => by omega)
  obtain ⟨v4, w4, h1, h2, h3⟩ := run_append_two hown hob (spc_one G) (by omega) (by omega)
  have hb4 : Below w.heap.size w w4 := ((Only.of_below (S := fun k => w.heap.size ≤ k) hb3).grown h3 (fun k hk => .inl (by have := (hown.lt k hk).1; omega))).below (Nat.le_refl _) (fun k hk hh => by omega)
  refine ⟨v4, w4, h1, hr.later hb4, ?_, hb4, hrow3.read (i := 0) rfl⟩
  have e1 : T.length = F.length + 1 + G.length := by rw [hT]; simp; omega
  have e2 : spc T = spc F ++ [.int .i64 c, .int .i64 d] ++ spc G := by rw [hT, spc_append, spc_append]; rfl
  rw [e1, e2]
  exact h2.mono (by omega)

set_option maxRecDepth 100000 in
set_option maxHeartbeats 1600000 in
theorem sadd_any {B p : Nat} {sv : Value} {L : List (Int × Int)} {w : World} (x : Int × Int) (hx : srightB x = true) (hr : SRep B w p sv L) (hn : Norm 0 L) (hl : L.length ≤ 2047) (hB : B ≤ w.heap.size) :
    Calls Try.prog 29 #[.pointer (some ⟨p, 0, none⟩), spv x] w fun e w' => e = .returned (.int .i64 0) ∧ (∃ sv', SRep B w' p sv' (addF x L)) ∧ Only (fun k => k = p) w w' := by
  have hx' := rightB_iff.1 hx
  have hlen : (addF x L).length ≤ L.length + 1 := by rw [addF_eq hn hx'.2.2]; exact addR_len
  have HX := Lib.hid hx
  have HR := Lib.hid hr
  have HT := Lib.hid (fun C xb ab bb w1 => each_add (C := C) (xb := xb) (ab := ab) (bb := bb) (w := w1) (x := x) hr (by omega))
  have HB2 := Lib.hid (fun sv' w2 (h1 : SRep B w2 p sv L) (h2 : w2.ownsRow B 66 2 sv' (addF x L).length (spc (addF x L))) => become_any h1 h2 (by omega))
  have hs : (addF x L) = (addS x L).2.1 ++ [(addS x L).1] ++ (addS x L).2.2 := rfl
  clear hx hr hx' hn
  generalize addF x L = T at *
  generalize addS x L = S at *
  obtain ⟨⟨c, d⟩, F, G⟩ := S
  obtain ⟨a, b⟩ := x
  simp only at hs
  have HS := Lib.hid hs
  have hlT : T.length = F.length + 1 + G.length := by rw [hs]; simp; omega
  clear hs
  obtain ⟨i0, hi, hi0, hi1, hi2⟩ := info66_parts
  show Calls Try.prog 29 #[_, .agg #[.int .i64 a, .int .i64 b]] w _
  go_enter Try.func29, Try.ntmps29
  go_wp2_with fail
  refine (fault_ok p (a, b) _ HX.out).mono ?_
  rintro e w1 ⟨rfl, hb1⟩
  have hs1 := hb1.size
  simp at hs1
  have HB1 := Lib.hid (bl_step (bl_alloc (Below.refl _ _) _) hb1)
  have hxr := (Row.made w 66 #[.int .i64 a, .int .i64 b]).later hb1
  have k1 := Row.made w1 83 #[.slice none 0 0]
  have k2 := made1 w1 (.cells #[.slice none 0 0] 83) 83 #[.slice none 0 0]
  have HA : Hid (Adding (w1.heap.size + 2) w.heap.size w1.heap.size (w1.heap.size + 1) ((a, b), [], []) ((w1.alloc (.cells #[.slice none 0 0] 83)).alloc (.cells #[.slice none 0 0] 83))) :=
    Lib.hid ⟨by omega, by omega, by omega, by omega, (hxr.more _).more _, _, _, k1.more _, k2, World.ownsRow_nil _ _ _ _, World.ownsRow_nil _ _ _ _, fun k hk => by simp [Value.ownBlock] at hk⟩
  have HB3 := Lib.hid (bl_alloc (bl_alloc HB1.out (.cells #[.slice none 0 0] 83)) (.cells #[.slice none 0 0] 83))
  clear hb1 hxr k1 k2
  go_wp2_with fail
  refine (HT.out _ _ _ _ _ HB3.out HA.out (by simp) (by omega) (by omega) (by omega)).mono ?_
  rintro e w2 ⟨rfl, ⟨q1, q2, q3, q4, hxr, sa, sb, r1, r2, o1, o2, hne⟩, hb2, hC2⟩
  simp only at hxr o1 o2
  have c1 := hxr.read (i := 0) rfl
  have c2 := hxr.read (i := 1) rfl
  have c3 := r1.read (i := 0) rfl
  have c4 := r2.read (i := 0) rfl
  have HXR := Lib.hid hxr
  have HR1 := Lib.hid r1
  have HR2 := Lib.hid r2
  have HO1 := Lib.hid o1
  have HO2 := Lib.hid o2
  have HNE := Lib.hid hne
  have HB4 := Lib.hid hb2
  clear hxr r1 r2 o1 o2 hne hb2
  go_wp2_with fail
  have fa := (HR1.out.more (.cells #[.int .i64 c, .int .i64 d] 66)).read (i := 0) rfl
  have fb := (HR2.out.more (.cells #[.int .i64 c, .int .i64 d] 66)).read (i := 0) rfl
  go_region_law (first
    | (refine step_append_lies _ rfl (.tmp 18) (.tmp 20) 83 rfl (w1.heap.size + 2) 66 i0 (.agg #[.int .i64 0, .int .i64 0]) 2 16 Try.underlying83 hi hi0 hi1 hi2 rfl (by omega) sa F.length (spc F) (by simp [Act.eval]) (HO1.out.alloc _) ⟨w2.heap.size, 0, none⟩ 1 1 [.int .i64 c, .int .i64 d] (by simp [Act.eval]) rfl (new_pair _ _ _ _) (pair_one c d) (by omega) (by unfold maxLen; omega) (by omega) (by simp; omega) _ rfl ?_; intro g cap w3 hown hgrow hgg hg2; obtain ⟨v4, w4, hr4, hs4, ho4, hb4, cb⟩ := add_tail (B := B) (p := p) (sv := sv) (L := L) (bb := w1.heap.size + 1) HR.out HB4.out HO1.out HO2.out HNE.out HR2.out HS.out hown hgrow (by omega) (by omega) (by omega) (by omega) (by omega))
    | (refine sstep_run rfl (.tmp 21) (.tmp 22) 83 rfl (.slice (some ⟨g, 0, none⟩) (F.length + 1) cap) sb (by simp [Act.eval]) (by simp [Act.eval]) hr4 ?_)
    | (go_simp; go_at_call 102; refine (HB2.out _ _ hs4 ho4).mono ?_; rintro e w5 ⟨rfl, h6, h7⟩; go_simp))
  all_goals
    clear hs4 ho4
    go_wp2
    go_ret
    exact ⟨rfl, ⟨_, h6⟩, (Only.of_below hb4).andThen h7 (fun k _ hk => hk)⟩
end Go.Proofs.Ytjonkpdjhjobfaa
namespace Go.Proofs.Ytjonkpdjhjobfaa
open Go.RowKit

theorem OwnP.src {B : Nat} {w : World} {A : Option Addr} {n c : Nat} {R : List (Int × Int)} (h : OwnP B w (.slice A n c) R) : SrcO w A (spc R) := by
  intro h0
  obtain ⟨g, c', hv, _⟩ := h.some (fun e => by subst e; exact absurd h0 (by simp [spc]))
  injection hv with hA _ _
  subst hA
  have hc := World.ownsRow.cells h (g := g) rfl
  exact ⟨g, 0, rfl, fun j u hu => by rw [Nat.zero_add]; have := hc j u hu; rwa [sadd_zero_addr] at this⟩
theorem SOwnL.src {B : Nat} {w : World} {A : Option Addr} {n c : Nat} {l : List Bool} (h : SOwnL B w (.slice A n c) l) : SrcO w A (sbls l) := by
  intro h0
  rcases h.2 with ⟨_, h1⟩ | ⟨g, c', cur, hv, _⟩
  · rw [slength_bls] at h0; omega
  injection hv with hA _ _
  subst hA
  have hc := World.ownsRow.cells h (g := g) rfl
  exact ⟨g, 0, rfl, fun j u hu => by rw [Nat.zero_add]; have := hc j u hu; rwa [sadd_zero_addr] at this⟩
theorem SrcO.none (w : World) : SrcO w none [] := fun h => absurd h (by simp)
set_option maxHeartbeats 800000 in
theorem refspans_any {A : Option Addr} {l : List Bool} (c N : Nat) (w : World) (hN : l.length = N) (hl : N ≤ 65536) (hs : SrcO w A (sbls l)) :
    Calls Try.prog 37 #[.agg #[.slice A N c]] w fun e w' => ∃ x, e = .returned x ∧ OwnP w.heap.size w' x (runG (fun i => l.getD i false == true) N) ∧ Below w.heap.size w w' := by
  have hb := bl_alloc (Below.refl w.heap.size w) (.cells #[.slice A N c] 71)
  have HB := Lib.hid hb
  have HC := Lib.hid (runs_any (A := A) (l := l) c N N true _ hN hl hl (hs.later hb))
  clear hs hN hb
  go_enter Try.func37, Try.ntmps37
  go_wp2_with (go_at_call 106; (with_reducible refine HC.out.mono ?_); rintro e w1 ⟨x, rfl, ho, hb1⟩; (have HO := Lib.hid ho; have HB1 := Lib.hid hb1; clear ho hb1))
  go_ret
  exact ⟨x, rfl, HO.out.mono (by simp), bl_step HB.out HB1.out⟩
set_option maxHeartbeats 800000 in
theorem refgaps_out {A : Option Addr} (c N : Nat) (tq : Int) (w : World) (h : tq < 1 ∨ 65536 < tq) :
    Calls Try.prog 39 #[.agg #[.slice A N c], .int .i64 tq] w fun e w' => e = .returned (.slice none 0 0) ∧ Below w.heap.size w w' := by
  have HB := Lib.hid (bl_alloc (Below.refl w.heap.size w) (.cells #[.slice A N c] 71))
  rcases Int.lt_or_le tq 1 with h1 | h1
  · go_enter Try.func39, Try.ntmps39
    go_wp2
    go_ret
    exact ⟨rfl, HB.out⟩
  · have h2 : (65536 : Int) < tq := by omega
    have h1' : ¬ tq < 1 := by omega
    clear h h1
    go_enter Try.func39, Try.ntmps39
    go_wp2
    go_ret
    exact ⟨rfl, HB.out⟩
set_option maxHeartbeats 800000 in
theorem refgaps_any {A : Option Addr} {l : List Bool} (c N n : Nat) (w : World) (hN : l.length = N) (hl : N ≤ 65536) (h1 : 1 ≤ n) (hn : n ≤ 65536) (hs : SrcO w A (sbls l)) :
    Calls Try.prog 39 #[.agg #[.slice A N c], .int .i64 n] w fun e w' => ∃ x, e = .returned x ∧ OwnP w.heap.size w' x (runG (fun i => l.getD i false == false) n) ∧ Below w.heap.size w w' := by
  have hb := bl_alloc (Below.refl w.heap.size w) (.cells #[.slice A N c] 71)
  have HB := Lib.hid hb
  have HC := Lib.hid (runs_any (A := A) (l := l) c N n false _ hN hl hn (hs.later hb))
  have h3 : ¬ (n : Int) < 1 := by omega
  have h4 : ¬ (65536 : Int) < n := by omega
  clear hs hN hb h1
  go_enter Try.func39, Try.ntmps39
  go_wp2_with (go_at_call 106; (with_reducible refine HC.out.mono ?_); rintro e w1 ⟨x, rfl, ho, hb1⟩; (have HO := Lib.hid ho; have HB1 := Lib.hid hb1; clear ho hb1))
  go_ret
  exact ⟨x, rfl, HO.out.mono (by simp), bl_step HB.out HB1.out⟩
theorem lv_two {fn : Func} {p u : Tmp} {ty : TypeId} (h : fn.results = #[.cell p ty, .tmp u]) (tmps : Array Value) (w : World) (g : Nat) (t : TypeId) (cs : Array Value) (fs : Array Field)
    (hp : tmps.getD p undef = .pointer (some ⟨g, 0, none⟩)) (hg : Row w g t cs)
    (hu : Try.prog.underlying ty = some (.struct fs)) (hi : (Try.prog.info? ty).map (·.size) = some cs.size) :
    (results fn tmps).run Try.prog w = .ok (.tuple #[.agg cs, tmps.getD u undef]) w := by
  rw [results_cell_tmp h, hp]
  simp only [asAddr, Sem.run_pure, Result.andThen_ok, run_loadVar_row w g t ty cs (0, 0) (.struct fs) hg hu rfl hi]
set_option maxRecDepth 100000 in
set_option maxHeartbeats 1600000 in
theorem refchange_no {A : Option Addr} (c N : Nat) (a b : Int) (v : Bool) (w : World) (hr : srightB (a, b) = false) :
    Calls Try.prog 30 #[.agg #[.slice A N c], .agg #[.int .i64 a, .int .i64 b], .bool v] w fun e w' => e = .returned (.tuple #[.agg #[.slice A N c], .int .i64 1]) ∧ Below w.heap.size w w' := by
  have HR := Lib.hid (fun W => refright_any (a, b) W)
  rw [hr] at HR
  unfold spv at HR
  obtain ⟨d31, hu31⟩ := under71_parts
  have hb1 := bl_alloc (bl_alloc (bl_alloc (Below.refl w.heap.size w) (.cells #[.slice A N c] 71)) (.cells #[.int .i64 a, .int .i64 b] 77)) (.cells #[.slice none 0 0] 71)
  have HB1 := Lib.hid hb1
  have HS := Lib.hid (((Row.made w 71 #[.slice A N c]).more (.cells #[.int .i64 a, .int .i64 b] 77)).more (.cells #[.slice none 0 0] 71))
  have hz := Row.made ((w.alloc (.cells #[.slice A N c] 71)).alloc (.cells #[.int .i64 a, .int .i64 b] 77)) 71 #[.slice none 0 0]
  rw [show ((w.alloc (.cells #[.slice A N c] 71)).alloc (.cells #[.int .i64 a, .int .i64 b] 77)).heap.size = w.heap.size + 1 + 1 by simp] at hz
  have HZ := Lib.hid hz
  have hx := (Row.made (w.alloc (.cells #[.slice A N c] 71)) 77 #[.int .i64 a, .int .i64 b]).more (.cells #[.slice none 0 0] 71)
  rw [show (w.alloc (.cells #[.slice A N c] 71)).heap.size = w.heap.size + 1 by simp] at hx
  have HX := Lib.hid hx
  have x0 := hx.read (i := 0) rfl
  have x1 := hx.read (i := 1) rfl
  clear hb1 hz hx hr
  go_enter Try.func30, Try.ntmps30
  go_wp2_with (go_at_call 33; (with_reducible refine (HR.out _).mono ?_); rintro e w1 ⟨rfl, hb⟩; (have HB2 := Lib.hid hb; have c0 := (HS.out.later hb).read (i := 0) rfl; have z0 := (HZ.out.later hb).free 0; have z1 := (HZ.out.later hb).read (i := 0) rfl; clear hb))
  have HZ2 := Lib.hid ((HZ.out.later HB2.out).written 0 (.slice A N c))
  have HBF := Lib.hid (Below.setCell (bl_step HB1.out HB2.out) (p := ⟨w.heap.size + 1 + 1, 0, none⟩) (by show w.heap.size ≤ w.heap.size + 1 + 1; omega) (.slice A N c))
  refine bodyPost_ret (lv_two rfl _ _ (w.heap.size + 1 + 1) 71 #[.slice A N c] d31 rfl HZ2.out hu31 Try.info71s) rfl ?_
  exact ⟨rfl, HBF.out⟩
set_option maxRecDepth 100000 in
set_option maxHeartbeats 3200000 in
theorem refchange_ok {A : Option Addr} {l : List Bool} {M : List (Int × Int)} (c N a b : Nat) (v : Bool) (w : World) (hN : l.length = N) (hl : N ≤ 65536) (hab : a < b) (hb : b ≤ 65536) (hs : SrcO w A (sbls l)) (hM : SL M (withB l a b v)) (hm : M.length ≤ 2048) :
    Calls Try.prog 30 #[.agg #[.slice A N c], .agg #[.int .i64 a, .int .i64 b], .bool v] w fun e w' => ∃ A' c' N', N' = (withB l a b v).length ∧ e = .returned (.tuple #[.agg #[.slice A' N' c'], .int .i64 0]) ∧ SOwnL w.heap.size w' (.slice A' N' c') (withB l a b v) ∧ Below w.heap.size w w' := by
  have hr : srightB ((a : Int), (b : Int)) = true := rightB_iff.2 ⟨by simp only; omega, by simp only; omega, by simp only; omega⟩
  have HR := Lib.hid (fun W => refright_any ((a : Int), (b : Int)) W)
  rw [hr] at HR
  unfold spv at HR
  have HWI := Lib.hid (fun W (h : SrcO W A (sbls l)) => with_any c a b N v W hN hl hb (by omega) h)
  have hlw : (withB l a b v).length ≤ 65536 := by rw [length_withB]; omega
  have HSP := Lib.hid (fun A' c' N' W (hn : (withB l a b v).length = N') (h : SrcO W A' (sbls (withB l a b v))) => refspans_any (A := A') c' N' W hn (by omega) h)
  have HRU := Lib.hid (fun N' (hn : (withB l a b v).length = N') => hM.runs N' (by omega) (by omega))
  generalize withB l a b v = l2 at *
  obtain ⟨d31, hu31⟩ := under71_parts
  have hb1 := bl_alloc (bl_alloc (bl_alloc (Below.refl w.heap.size w) (.cells #[.slice A N c] 71)) (.cells #[.int .i64 a, .int .i64 b] 77)) (.cells #[.slice none 0 0] 71)
  have HB1 := Lib.hid hb1
  have HA := Lib.hid (hs.later hb1)
  have HS := Lib.hid (((Row.made w 71 #[.slice A N c]).more (.cells #[.int .i64 a, .int .i64 b] 77)).more (.cells #[.slice none 0 0] 71))
  have hz := Row.made ((w.alloc (.cells #[.slice A N c] 71)).alloc (.cells #[.int .i64 a, .int .i64 b] 77)) 71 #[.slice none 0 0]
  rw [show ((w.alloc (.cells #[.slice A N c] 71)).alloc (.cells #[.int .i64 a, .int .i64 b] 77)).heap.size = w.heap.size + 1 + 1 by simp] at hz
  have HZ := Lib.hid hz
  have hx := (Row.made (w.alloc (.cells #[.slice A N c] 71)) 77 #[.int .i64 a, .int .i64 b]).more (.cells #[.slice none 0 0] 71)
  rw [show (w.alloc (.cells #[.slice A N c] 71)).heap.size = w.heap.size + 1 by simp] at hx
  have HX := Lib.hid hx
  have x0 := hx.read (i := 0) rfl
  have x1 := hx.read (i := 1) rfl
  clear hb1 hz hx hr hs hN hM
  go_enter Try.func30, Try.ntmps30
  go_wp2_with (first
    | (go_at_call 33; (with_reducible refine (HR.out _).mono ?_); rintro e w1 ⟨rfl, hb⟩; (have HB2 := Lib.hid hb; have HA2 := Lib.hid (HA.out.later hb); have c0 := (HS.out.later hb).read (i := 0) rfl; have HX2 := Lib.hid (HX.out.later hb); clear x0 x1; have x0 := HX2.out.read (i := 0) rfl; have x1 := HX2.out.read (i := 1) rfl; clear hb))
    | (go_at_call 104; (with_reducible refine (HWI.out _ HA2.out).mono ?_); rintro e w3 ⟨x, rfl, ho3, hb3⟩; (have HO3 := Lib.hid ho3; have HB3 := Lib.hid hb3; obtain ⟨A3, c3, rfl⟩ := SOwnL.form ho3; obtain ⟨N3, hN3⟩ : ∃ N3, l2.length = N3 := ⟨_, rfl⟩; have HN3 := Lib.hid hN3; rw [hN3] at ho3 ⊢; have HA3 := Lib.hid ((SOwnL.src ho3).later (bl_alloc (Below.refl _ _) (.cells #[.slice A3 N3 c3] 71))); rw [hN3] at HO3; clear ho3 hb3 hN3 c0 x0 x1))
    | (go_at_call 37; (with_reducible refine (HSP.out _ _ _ _ HN3.out HA3.out).mono ?_); rintro e w4 ⟨x4, rfl, ho4, hb4⟩; (rw [HRU.out _ HN3.out] at ho4; obtain ⟨A4, c4, rfl⟩ := ho4.form; have HB4 := Lib.hid hb4; have HZ4 := Lib.hid ((((HZ.out.later HB2.out).later HB3.out).more (.cells #[.slice A3 N3 c3] 71)).later hb4); have z0 := HZ4.out.free 0; have z1 := HZ4.out.read (i := 0) rfl; have s3 := ((Row.made w3 71 #[.slice A3 N3 c3]).later hb4).read (i := 0) rfl; have hm' : ¬ ((M.length : Int) > 2048) := (by omega); have hm2 : ¬ ((2048 : Int) < (M.length : Int)) := (by omega); clear ho4 hb4)))
  have HZ5 := Lib.hid (HZ4.out.written 0 (.slice A3 N3 c3))
  have HA5 := Lib.hid (HA3.out.later HB4.out)
  have HBF := Lib.hid (bl_step (bl_step (bl_step HB1.out HB2.out) HB3.out) (bl_step (bl_alloc (Below.refl w3.heap.size w3) (.cells #[.slice A3 N3 c3] 71)) HB4.out))
  have HAF := Lib.hid (show SOwnL w.heap.size (w4.setCell ⟨w.heap.size + 1 + 1, 0, none⟩ (.slice A3 N3 c3)) (.slice A3 N3 c3) l2 from by
    have h1 := own_only (S := fun _ => False) HO3.out (.of_below (bl_step (bl_alloc (Below.refl w3.heap.size w3) (.cells #[.slice A3 N3 c3] 71)) HB4.out)) (fun _ _ h => h)
    have hsz := HB2.out.size
    simp only [World.size_alloc] at hsz
    exact (ownsRow_setCell_below h1 (by show w.heap.size + 1 + 1 < _; omega) _).mono (by omega))
  refine bodyPost_ret (lv_two rfl _ _ (w.heap.size + 1 + 1) 71 #[.slice A3 N3 c3] d31 rfl HZ5.out hu31 Try.info71s) rfl ?_
  exact ⟨A3, c3, N3, HN3.out.symm, rfl, HAF.out, Below.setCell HBF.out (p := ⟨w.heap.size + 1 + 1, 0, none⟩) (by show w.heap.size ≤ w.heap.size + 1 + 1; omega) _⟩
end Go.Proofs.Ytjonkpdjhjobfaa
namespace Go.Proofs.Ytjonkpdjhjobfaa
open Go.RowKit

theorem spc_src {w : World} {A : Option Addr} {R : List (Int × Int)} (h : SrcO w A (spc R)) {i : Nat} {y : Int × Int} (hy : R[i]? = some y) : ∃ b o, A = some ⟨b, o, none⟩ ∧ w.cell? ⟨b, o + i * 2, none⟩ = some (.int .i64 y.1) ∧ w.cell? ⟨b, o + i * 2 + 1, none⟩ = some (.int .i64 y.2) := by
  have hl : 0 < (spc R).length := by
    rw [length_spc]
    have : i < R.length := (List.getElem?_eq_some_iff.1 hy).1
    omega
  obtain ⟨b, o, rfl, hc⟩ := h hl
  exact ⟨b, o, rfl, hc _ _ (spc_at0 hy), by have := hc _ _ (spc_at1 hy); rwa [← Nat.add_assoc] at this⟩
set_option maxRecDepth 100000 in
set_option maxHeartbeats 1600000 in
theorem refsame_yes {A1 A2 : Option Addr} {R : List (Int × Int)} (c1 c2 n : Nat) (w : World) (hn : R.length = n) (hl : n ≤ 65536) (h1 : SrcO w A1 (spc R)) (h2 : SrcO w A2 (spc R)) :
    Calls Try.prog 34 #[.slice A1 n c1, .slice A2 n c2] w fun e w' => e = .returned (.bool true) ∧ Below w.heap.size w w' := by
  have H1 := Lib.hid h1
  have H2 := Lib.hid h2
  have HN := Lib.hid hn
  clear h1 h2 hn
  go_enter Try.func34, Try.ntmps34
  go_wp2
  go_loopw [5] (fun i wr => ∃ k : Nat, k ≤ n ∧ i = .int .i64 k ∧ Hid (Below w.heap.size w wr)) (fun i _ => n - (intOf i).toNat)
  case atStart => exact ⟨0, by omega, rfl, Lib.hid (Below.refl _ _)⟩
  case round =>
    obtain ⟨k, hk, rfl, HB⟩ := hrel
    by_cases hkn : k < n
    · have hkn' : (k : Int) < n := by omega
      have hk0 : (0 : Int) ≤ k := by omega
      obtain ⟨y, hy⟩ : ∃ y, R[k]? = some y := ⟨_, List.getElem?_eq_getElem (by rw [HN.out]; exact hkn)⟩
      obtain ⟨b1, o1, rfl, u0, u1⟩ := spc_src (H1.out.later HB.out) hy
      obtain ⟨b2, o2, rfl, v0, v1⟩ := spc_src (H2.out.later HB.out) hy
      obtain ⟨a, b⟩ := y
      simp only at u0 u1 v0 v1
      have HK := Lib.hid hkn
      clear hy
      go_wp2
      go_quiet (fail)
      go_wp2
      go_roundw
      case rel => exact ⟨k + 1, HK.out, by go_num, Lib.hid (HB.out.trans (below_drewN (Below.refl _ _) _))⟩
      case measure => have := HK.out; simp [intOf]; omega
    · have hkn' : ¬ (k : Int) < n := by omega
      go_wp2
      go_ret
      exact ⟨rfl, HB.out⟩
end Go.Proofs.Ytjonkpdjhjobfaa
namespace Go.Proofs.Ytjonkpdjhjobfaa
open Go.RowKit

set_option maxRecDepth 100000 in
set_option maxHeartbeats 3200000 in
theorem spas_any {A : Option Addr} {R : List (Int × Int)} (c n : Nat) (w : World) (hn : R.length = n) (hl : n ≤ 65536) (hs : SrcO w A (spc R)) :
    Calls Try.prog 35 #[.slice A n c] w fun e w' => ∃ x, e = .returned x ∧ OwnP w.heap.size w' x R ∧ Below w.heap.size w w' := by
  obtain ⟨i0, hi, hi0, hi1, hi2⟩ := infors_parts
  have HS := Lib.hid hs
  have HN := Lib.hid hn
  clear hs hn
  go_enter Try.func35, Try.ntmps35
  go_wp2
  go_loopw [3, 4] (fun x i wr => ∃ k : Nat, k ≤ n ∧ i = .int .i64 k ∧ Hid (OwnP w.heap.size wr x (R.take k)) ∧ Hid (Below w.heap.size w wr)) (fun _ i _ => n - (intOf i).toNat)
  case atStart => exact ⟨0, by omega, rfl, Lib.hid (World.ownsRow_nil _ _ _ _), Lib.hid (Below.refl _ _)⟩
  case round =>
    obtain ⟨k, hk, rfl, HO, HB⟩ := hrel
    obtain ⟨Ax, cx, rfl⟩ := HO.out.form
    have htk : (R.take k).length = k := by rw [List.length_take, HN.out]; omega
    by_cases hkn : k < n
    · have hkn' : (k : Int) < n := by omega
      have hk0 : (0 : Int) ≤ k := by omega
      obtain ⟨y, hy⟩ : ∃ y, R[k]? = some y := ⟨_, List.getElem?_eq_getElem (by rw [HN.out]; exact hkn)⟩
      obtain ⟨b1, o1, rfl, u0, u1⟩ := spc_src (HS.out.later HB.out) hy
      have HT := Lib.hid (show R.take (k + 1) = R.take k ++ [y] by
        obtain ⟨h1, h2⟩ := List.getElem?_eq_some_iff.1 hy
        rw [List.take_succ_eq_append_getElem h1, h2])
      obtain ⟨a, b⟩ := y
      simp only at u0 u1
      have HK := Lib.hid hkn
      rw [htk] at HO ⊢
      have hO : wr.ownsRow w.heap.size 77 2 (.slice Ax k cx) k (spc (R.take k)) := by
        have h := HO.out
        unfold OwnP at h
        rwa [htk] at h
      have HO8 := Lib.hid hO
      have HTK := Lib.hid htk
      clear hy hO htk
      go_wp2
      go_region_law ((refine step_append_lies _ rfl (.tmp 11) (.tmp 23) 81 rfl w.heap.size 77 i0 (.agg #[.int .i64 0, .int .i64 0]) 2 16 Try.underrs hi hi0 hi1 hi2 rfl (by omega) (.slice Ax k cx) k (spc (R.take k)) (by simp [Act.eval]) (World.ownsRow.alloc (w := wr.drew) HO8.out _) ⟨wr.heap.size, 0, none⟩ 1 1 [.int .i64 a, .int .i64 b] (by simp [Act.eval]) rfl (new_pair _ _ _ _) (pair_one a b) (by omega) (by unfold maxLen; omega) (by omega) (by have := HB.out.size; simp; omega) _ rfl ?_); intro g3 c3 w3 hown3 hgrow3 hg3 hlt3)
      all_goals
        have HO3 := Lib.hid (show OwnP w.heap.size w3 (.slice (Option.some ⟨g3, 0, none⟩) (k + 1) c3) (R.take (k + 1)) from by
          unfold OwnP
          rw [HT.out, List.length_append, HTK.out, spc_append]
          exact hown3)
        have HB3 := Lib.hid ((bl_step HB.out (bl_drew (bl_alloc (Below.refl _ _) (.cells #[.int .i64 a, .int .i64 b] 77)))).grown hgrow3 (by have := HB.out.size; simp; omega) (fun r hr => (own_block HO8.out r hr).1))
        clear hown3 hgrow3 hg3
        go_wp2
        go_roundw
        case rel => exact ⟨k + 1, HK.out, by go_num, HO3, HB3⟩
        case measure => have := HK.out; simp [intOf]; omega
    · have hkn' : ¬ (k : Int) < n := by omega
      obtain rfl : k = n := by omega
      have hR : R.take k = R := List.take_of_length_le (by rw [HN.out]; exact Nat.le_refl _)
      rw [hR] at HO ⊢
      go_wp2
      go_ret
      exact ⟨_, rfl, HO.out, HB.out⟩
end Go.Proofs.Ytjonkpdjhjobfaa
namespace Go.Proofs.Ytjonkpdjhjobfaa
open Go.RowKit

set_option maxHeartbeats 400000 in
theorem new_none {B : Nat} (w : World) (hB : B ≤ w.heap.size) :
    Calls Try.prog 26 #[.slice none 0 0] w fun e w' => e = .returned (.tuple #[.pointer (some ⟨w.heap.size, 0, none⟩), .int .i64 0]) ∧ SRep B w' w.heap.size (.slice none 0 0) [] ∧ Below w.heap.size w w' := by
  go_enter Try.func26, Try.ntmps26
  go_wp2
  refine wp_loop_rounds 1 ?_
  rw [rounds_succ]
  go_wp2
  go_ret2
  exact ⟨rfl, ⟨hB, Row.made _ _ _, World.ownsRow_nil _ _ _ _⟩, bl_alloc (Below.refl _ _) _⟩

set_option maxHeartbeats 800000 in
theorem new_two {B g : Nat} (x y : Int × Int) (w : World) (hB : B ≤ w.heap.size) (hx : srightB x = true) (hy : srightB y = true) (hc : Row w g 66 (spc [x, y]).toArray) :
    Calls Try.prog 26 #[.slice (some ⟨g, 0, none⟩) 2 2] w fun e w' => e = .returned (.tuple #[.pointer (some ⟨w.heap.size, 0, none⟩), .int .i64 0]) ∧ (∃ sv, SRep B w' w.heap.size sv (addF y [x])) ∧ Below w.heap.size w w' := by
  obtain ⟨a, b⟩ := x
  obtain ⟨c, d⟩ := y
  have hx' := rightB_iff.1 hx
  have hy' := rightB_iff.1 hy
  have hgl := hc.inside
  have c0 := (hc.more (.cells #[.slice none 0 0] 159)).read (i := 0) (x := .int .i64 a) rfl
  have c1 := (hc.more (.cells #[.slice none 0 0] 159)).read (i := 1) (x := .int .i64 b) rfl
  have HC := Lib.hid (((hc.more (.cells #[.slice none 0 0] 159)).more (.cells #[.int .i64 a, .int .i64 b] 66)))
  have h0 : SRep B ((w.alloc (.cells #[.slice none 0 0] 159)).alloc (.cells #[.int .i64 a, .int .i64 b] 66)) w.heap.size (.slice none 0 0) [] := ⟨hB, (Row.made _ _ _).more _, World.ownsRow_nil _ _ _ _⟩
  have HA := Lib.hid (sadd_any (a, b) hx h0 trivial (by simp) (by simp; omega))
  have HN := Lib.hid (show Norm 0 [(a, b)] from ⟨hx'.1, hx'.2.2, hx'.2.1, trivial⟩)
  have HY := Lib.hid hy
  have HBW := Lib.hid (bl_alloc (bl_alloc (Below.refl w.heap.size w) (.cells #[.slice none 0 0] 159)) (.cells #[.int .i64 a, .int .i64 b] 66))
  clear hc hx hy hx' hy' h0
  go_enter Try.func26, Try.ntmps26
  go_wp2
  refine wp_loop_rounds 3 ?_
  rw [rounds_succ]
  go_wp2_with fail
  refine (HA.out).mono ?_
  rintro e w1 ⟨rfl, ⟨sv1, h1⟩, ho1⟩
  have h1' : SRep B w1 w.heap.size sv1 [(a, b)] := h1
  have hc1 := HC.out.only ho1 (by omega)
  have c2 := hc1.read (i := 2) (x := .int .i64 c) rfl
  have c3 := hc1.read (i := 3) (x := .int .i64 d) rfl
  have hsz := ho1.size
  simp at hsz
  have HA2 := Lib.hid (sadd_any (c, d) HY.out (h1'.later (bl_alloc (Below.refl _ _) (.cells #[.int .i64 c, .int .i64 d] 66))) HN.out (by simp) (by simp; omega))
  have HO1 := Lib.hid ho1
  clear h1 h1' hc1 ho1 c0 c1
  go_wp2_with fail
  rw [rounds_succ]
  go_wp2_with fail
  refine (HA2.out).mono ?_
  rintro e w2 ⟨rfl, h2, ho2⟩
  have H2 := Lib.hid h2
  have HO2 := Lib.hid ho2
  clear h2 ho2 c2 c3
  go_wp2_with fail
  rw [rounds_succ]
  go_wp2
  go_ret2
  refine ⟨rfl, H2.out, ?_⟩
  have k1 := bl_only HBW.out HO1.out (fun k hk hh => by omega) (by simp; omega)
  exact bl_only (bl_alloc k1 _) HO2.out (fun k hk hh => by omega) (by simp; omega)

set_option maxHeartbeats 800000 in
theorem new_bad {g : Nat} (x : Int × Int) (w : World) (hx : srightB x = false) (hc : Row w g 66 (spc [x]).toArray) :
    Calls Try.prog 26 #[.slice (some ⟨g, 0, none⟩) 1 1] w fun e w' => e = .returned (.tuple #[.pointer none, .int .i64 1]) ∧ Below w.heap.size w w' := by
  obtain ⟨a, b⟩ := x
  have c0 := hc.read (i := 0) (x := .int .i64 a) rfl
  have c1 := hc.read (i := 1) (x := .int .i64 b) rfl
  have HX := Lib.hid hx
  have d0 := (hc.more (.cells #[.slice none 0 0] 159)).read (i := 0) (x := .int .i64 a) rfl
  have d1 := (hc.more (.cells #[.slice none 0 0] 159)).read (i := 1) (x := .int .i64 b) rfl
  clear hx hc
  go_enter Try.func26, Try.ntmps26
  go_wp2
  refine wp_loop_rounds 1 ?_
  rw [rounds_succ]
  go_wp2_with (go_at_call 29; refine (add_arg w.heap.size (a, b) _ HX.out).mono ?_; rintro e w1 ⟨rfl, hb⟩)
  go_ret2
  exact ⟨rfl, bl_step (bl_alloc (bl_alloc (Below.refl _ _) _) _) hb⟩

set_option maxRecDepth 100000 in
set_option maxHeartbeats 1600000 in
theorem alive3_any (w : World) :
    Calls Try.prog 27 #[] w fun e w' => e = .returned (.bool true) ∧ Below w.heap.size w w' := by
  have q1 : addF (5, 9) [(2, 5)] = [(2, 9)] := by decide
  have q2 : takeF (4, 6) [(2, 9)] = [(2, 4), (6, 9)] := by decide
  have q3 : (hasF (6, 9) [(2, 4), (6, 9)] && srightB (6, 9)) = true := by decide
  have q4 : (hasF (3, 5) [(2, 4), (6, 9)] && srightB (3, 5)) = false := by decide
  have q5 : countF [(2, 4), (6, 9)] = 5 := by decide
  have q6 : Norm 0 [(2, 9)] := by simp [Norm]
  have q7 : Norm 0 [(2, 4), (6, 9)] := by simp [Norm]
  have Q1 := Lib.hid q1
  have Q2 := Lib.hid q2
  have Q3 := Lib.hid q3
  have Q4 := Lib.hid q4
  have Q5 := Lib.hid q5
  have Q6 := Lib.hid q6
  have Q7 := Lib.hid q7
  clear q1 q2 q3 q4 q5 q6 q7
  go_enter Try.func27, Try.ntmps27
  go_wp2_with fail
  refine (new_two (B := w.heap.size) (2, 5) (5, 9) _ (by simp) (by decide) (by decide) (Row.made _ _ _)).mono ?_
  rintro e w1 ⟨rfl, ⟨sv1, h1⟩, hb1⟩
  rw [Q1.out, show (w.alloc (.cells (spc [(2, 5), (5, 9)]).toArray 66)).heap.size = w.heap.size + 1 by simp] at h1
  have H1 := Lib.hid h1
  have HB1 := Lib.hid (bl_step (bl_alloc (Below.refl _ _) _) hb1)
  clear h1 hb1
  go_wp2_with fail
  refine (new_bad (2, 2) _ (by decide) (Row.made _ _ _)).mono ?_
  rintro e w2 ⟨rfl, hb2⟩
  have H2 := Lib.hid ((H1.out.later (bl_alloc (Below.refl _ _) _)).later hb2)
  have HB2 := Lib.hid (bl_step (bl_step HB1.out (bl_alloc (Below.refl _ _) _)) hb2)
  clear hb2
  go_wp2_with fail
  refine (spans_any H2.out (by simp)).mono ?_
  rintro e w3 ⟨rfl, hrow3, hb3⟩
  have H3 := Lib.hid (H2.out.later hb3)
  have HR3 := Lib.hid hrow3
  have HB3 := Lib.hid (bl_step HB2.out hb3)
  have hs3 := HB3.out.size
  have hs2 := HB2.out.size
  have hlt3 := hrow3.inside
  clear hrow3 hb3
  go_wp2_with fail
  refine (take_any (4, 6) (by decide) H3.out Q6.out (by simp) hs3).mono ?_
  rintro e w4 ⟨rfl, ⟨sv4, h4⟩, ho4⟩
  rw [Q2.out] at h4
  have H4 := Lib.hid h4
  have hne : w2.heap.size ≠ w.heap.size + 1 := fun e => by
    have := H2.out.2.1.inside
    omega
  have hr4 := HR3.out.only ho4 hne
  have HB4 := Lib.hid (bl_only HB3.out ho4 (fun k hk hh => by omega) hs3)
  have c0 := hr4.read (i := 0) (x := .int .i64 2) rfl
  have c1 := hr4.read (i := 1) (x := .int .i64 9) rfl
  clear h4 ho4 hr4
  go_wp2_with (first
    | (go_at_call 36; refine (spans_any H4.out (by simp)).mono ?_; rintro e w5 ⟨rfl, _, hb5⟩; have HB5 := Lib.hid hb5; clear hb5)
    | (go_at_call 31; refine (count_any (H4.out.later HB5.out) Q7.out (by simp)).mono ?_; rintro e w6 ⟨rfl, hb6⟩; rw [Q5.out]; have HB6 := Lib.hid (bl_step HB5.out hb6); clear hb6))
  refine (has_any (6, 9) (H4.out.later HB6.out) true Q3.out).mono ?_
  rintro e w7 ⟨rfl, hb7⟩
  have HB7 := Lib.hid (bl_step HB6.out hb7)
  clear hb7
  go_wp2_with fail
  refine (has_any (3, 5) (H4.out.later HB7.out) false Q4.out).mono ?_
  rintro e w8 ⟨rfl, hb8⟩
  have HB8 := Lib.hid (bl_step HB7.out hb8)
  clear hb8
  go_wp2
  go_ret
  exact ⟨rfl, bl_step HB4.out HB8.out⟩
end Go.Proofs.Ytjonkpdjhjobfaa
namespace Go.Proofs.Ytjonkpdjhjobfaa
open Go.RowKit

def addO (x : Int × Int) (L : List (Int × Int)) : List (Int × Int) := if srightB x then addF x L else L
def takeO (x : Int × Int) (L : List (Int × Int)) : List (Int × Int) := if srightB x then takeF x L else L
def opE (x : Int × Int) : Int := if srightB x then 0 else 1
def opO (o : Bool × (Int × Int)) (L : List (Int × Int)) : List (Int × Int) := if o.1 then takeO o.2 L else addO o.2 L

theorem addO_norm {x : Int × Int} {L : List (Int × Int)} (h : Norm 0 L) : Norm 0 (addO x L) := by
  unfold addO
  by_cases hx : srightB x = true
  · have hx' := rightB_iff.1 hx
    rw [if_pos hx, addF_eq h hx'.2.2]
    exact addR_norm h hx'.1 hx'.2.2 hx'.2.1
  · rw [if_neg hx]; exact h
theorem takeO_norm {x : Int × Int} {L : List (Int × Int)} (h : Norm 0 L) : Norm 0 (takeO x L) := by
  unfold takeO
  by_cases hx : srightB x = true
  · rw [if_pos hx]; exact takeF_norm (rightB_iff.1 hx).2.2 h
  · rw [if_neg hx]; exact h
theorem addO_len {x : Int × Int} {L : List (Int × Int)} (h : Norm 0 L) : (addO x L).length ≤ L.length + 1 := by
  unfold addO
  by_cases hx : srightB x = true
  · rw [if_pos hx, addF_eq h (rightB_iff.1 hx).2.2]; exact addR_len
  · rw [if_neg hx]; omega
theorem takeO_len {x : Int × Int} {L : List (Int × Int)} (h : Norm 0 L) : (takeO x L).length ≤ L.length + 1 := by
  unfold takeO
  by_cases hx : srightB x = true
  · rw [if_pos hx]; exact takeF_len (rightB_iff.1 hx).2.2 h
  · rw [if_neg hx]; omega
theorem addO_ins {x : Int × Int} {L : List (Int × Int)} (h : Norm 0 L) (p : Int) : Ins p (addO x L) ↔ Ins p L ∨ (srightB x = true ∧ x.1 ≤ p ∧ p < x.2) := by
  unfold addO
  by_cases hx : srightB x = true
  · rw [if_pos hx, addF_eq h (rightB_iff.1 hx).2.2, addR_ins h (rightB_iff.1 hx).2.2]
    simp [hx]
  · rw [if_neg hx]; simp [hx]
theorem takeO_ins {x : Int × Int} {L : List (Int × Int)} (p : Int) : Ins p (takeO x L) ↔ Ins p L ∧ ¬ (srightB x = true ∧ x.1 ≤ p ∧ p < x.2) := by
  unfold takeO
  by_cases hx : srightB x = true
  · rw [if_pos hx, takeF_ins (rightB_iff.1 hx).2.2]
    simp [hx]
  · rw [if_neg hx]; simp [hx]
theorem opO_norm {o : Bool × (Int × Int)} {L : List (Int × Int)} (h : Norm 0 L) : Norm 0 (opO o L) := by
  unfold opO
  split
  · exact takeO_norm h
  · exact addO_norm h
theorem opO_len {o : Bool × (Int × Int)} {L : List (Int × Int)} (h : Norm 0 L) : (opO o L).length ≤ L.length + 1 := by
  unfold opO
  split
  · exact takeO_len h
  · exact addO_len h

/-- the set at block p holds these spans -/
def Sits (B p : Nat) (L : List (Int × Int)) (w : World) : Prop := B ≤ p ∧ B ≤ w.heap.size ∧ Norm 0 L ∧ ∃ sv, SRep B w p sv L
section
variable {B p : Nat} {L : List (Int × Int)} {w w' : World}
theorem Sits.other (h : Sits B p L w) {q : Nat} {t : TypeId} {cs : Array Value} (hq : Row w q t cs) (ht : t ≠ 66) (hqp : p ≠ q) (ho : Only (fun k => k = q) w w') : Sits B p L w' := by
  obtain ⟨h1, h2, h3, sv, h4⟩ := h
  exact ⟨h1, by have := ho.size; omega, h3, sv, h4.only ho hqp fun k hk e => by subst e; exact own_apart h4.2.2 hq (fun e => ht e.symm) hk⟩
theorem Sits.later (h : Sits B p L w) (hb : Below w.heap.size w w') : Sits B p L w' := by
  obtain ⟨h1, h2, h3, sv, h4⟩ := h
  exact ⟨h1, by have := hb.size; omega, h3, sv, h4.later hb⟩
theorem Sits.row (h : Sits B p L w) : ∃ sv, Row w p 159 #[sv] := by
  obtain ⟨_, _, _, sv, h4⟩ := h
  exact ⟨sv, h4.2.1⟩
theorem sit_add (x : Int × Int) (h : Sits B p L w) (hl : L.length ≤ 2047) :
    Calls Try.prog 29 #[.pointer (some ⟨p, 0, none⟩), spv x] w fun e w' => e = .returned (.int .i64 (opE x)) ∧ Sits B p (addO x L) w' ∧ Only (fun k => k = p) w w' := by
  obtain ⟨h1, h2, h3, sv, h4⟩ := id h
  by_cases hx : srightB x = true
  · refine (sadd_any x hx h4 h3 hl h2).mono ?_
    rintro e w' ⟨rfl, h5, h6⟩
    have hn := addO_norm (x := x) h3
    have e1 : addO x L = addF x L := by unfold addO; rw [if_pos hx]
    have e2 : opE x = 0 := by unfold opE; rw [if_pos hx]
    rw [e2, e1]
    rw [e1] at hn
    exact ⟨rfl, ⟨h1, by have := h6.size; omega, hn, h5⟩, h6⟩
  · refine (add_arg p x w (by simpa using hx)).mono ?_
    rintro e w' ⟨rfl, h5⟩
    unfold opE addO
    rw [if_neg hx, if_neg hx]
    exact ⟨rfl, h.later h5, .of_below h5⟩
theorem sit_take (x : Int × Int) (h : Sits B p L w) (hl : L.length ≤ 2047) :
    Calls Try.prog 28 #[.pointer (some ⟨p, 0, none⟩), spv x] w fun e w' => e = .returned (.int .i64 (opE x)) ∧ Sits B p (takeO x L) w' ∧ Only (fun k => k = p) w w' := by
  obtain ⟨h1, h2, h3, sv, h4⟩ := id h
  by_cases hx : srightB x = true
  · refine (take_any x hx h4 h3 hl h2).mono ?_
    rintro e w' ⟨rfl, h5, h6⟩
    have hn := takeO_norm (x := x) h3
    have e1 : takeO x L = takeF x L := by unfold takeO; rw [if_pos hx]
    have e2 : opE x = 0 := by unfold opE; rw [if_pos hx]
    rw [e2, e1]
    rw [e1] at hn
    exact ⟨rfl, ⟨h1, by have := h6.size; omega, hn, h5⟩, h6⟩
  · refine (take_arg p x w (by simpa using hx)).mono ?_
    rintro e w' ⟨rfl, h5⟩
    unfold opE takeO
    rw [if_neg hx, if_neg hx]
    exact ⟨rfl, h.later h5, .of_below h5⟩
theorem sit_has (x : Int × Int) (h : Sits B p L w) (v : Bool) (hv : (hasF x L && srightB x) = v) : Calls Try.prog 40 #[.pointer (some ⟨p, 0, none⟩), spv x] w fun e w' => e = .returned (.bool v) ∧ Below w.heap.size w w' := by
  obtain ⟨_, _, _, sv, h4⟩ := h
  exact has_any x h4 v hv
theorem sit_tou (x : Int × Int) (h : Sits B p L w) (v : Bool) (hv : (touF x L && srightB x) = v) : Calls Try.prog 41 #[.pointer (some ⟨p, 0, none⟩), spv x] w fun e w' => e = .returned (.bool v) ∧ Below w.heap.size w w' := by
  obtain ⟨_, _, _, sv, h4⟩ := h
  exact tou_any x h4 v hv
theorem sit_count (h : Sits B p L w) (hl : L.length ≤ 100000) : Calls Try.prog 31 #[.pointer (some ⟨p, 0, none⟩)] w fun e w' => e = .returned (.int .i64 (countF L)) ∧ Below w.heap.size w w' := by
  obtain ⟨_, _, h3, sv, h4⟩ := h
  exact count_any h4 h3 hl
theorem sit_spans (h : Sits B p L w) (hl : L.length ≤ 100000) : Calls Try.prog 36 #[.pointer (some ⟨p, 0, none⟩)] w fun e w' => e = .returned (.slice (some ⟨w.heap.size, 0, none⟩) L.length L.length) ∧ Row w' w.heap.size 66 (spc L).toArray ∧ Below w.heap.size w w' := by
  obtain ⟨_, _, _, sv, h4⟩ := h
  exact spans_any h4 hl
end
theorem new_sits (w : World) : Calls Try.prog 26 #[.slice none 0 0] w fun e w' => e = .returned (.tuple #[.pointer (some ⟨w.heap.size, 0, none⟩), .int .i64 0]) ∧ Sits w.heap.size w.heap.size [] w' ∧ Below w.heap.size w w' := by
  refine (new_none (B := w.heap.size) w (Nat.le_refl _)).mono ?_
  rintro e w' ⟨rfl, h1, h2⟩
  exact ⟨rfl, ⟨Nat.le_refl _, h2.size, trivial, _, h1⟩, h2⟩
end Go.Proofs.Ytjonkpdjhjobfaa
