/-
  A span put into a set. The gaps of a set. A set made of spans; the fixed calls at the end of each statement of spans come out as they should. A set that is asked and changed, call by call: what it holds, whatever the spans. sent: a store in memory; New, made, find, size. sent: New; which bytes of a packet are meant.
-/
import Derived.Test.YtdaipfmckonfpaaJSentCounts06
import Derived.Laws.OwnMore
import Derived.LoopN
import Derived.Test.YtdaipfmckonfpaaJSentCounts01
import Derived.Test.YtdaipfmckonfpaaJSentCounts05
import Derived.Test.YtdaipfmckonfpaaJSentCounts04
import Derived.Laws.ResultCell
namespace Go.Proofs.Ytdaipfmckonfpaa
open Go.RowKit

theorem each_add {B C p xb ab bb : Nat} {sv : Value} {L : List (Int × Int)} {x : Int × Int} {w0 w : World} (hr : SRep B w0 p sv L) (hl : L.length ≤ 20000) (hbl : Below w0.heap.size w0 w)
    (hk : Adding C xb ab bb (x, [], []) w) (hC : C ≤ w.heap.size) (h1 : w0.heap.size ≤ xb) (h2 : w0.heap.size ≤ ab) (h3 : w0.heap.size ≤ bb) :
    Calls Try.prog 145 #[.pointer (some ⟨p, 0, none⟩), .func (.func 186) #[] #[.pointer (some ⟨xb, 0, none⟩), .pointer (some ⟨ab, 0, none⟩), .pointer (some ⟨bb, 0, none⟩)]] w fun e w' => e = .returned (.tuple #[]) ∧ Adding C xb ab bb (addS x L) w' ∧ Below w0.heap.size w0 w' ∧ C ≤ w'.heap.size := by
  refine (seach_any (B := B) (sv := sv) (L := L) (by omega) (fun k W => Adding C xb ab bb (addS x (L.take k)) W ∧ Below w0.heap.size w0 W ∧ C ≤ W.heap.size) w ⟨hk, hbl, hC⟩ (fun k W h => hr.later h.2.1) (fun k W y hy h => ?_)).mono (fun e w' h => ⟨h.1, by simpa using h.2⟩)
  have hlen : (addS x (L.take k)).2.1.length ≤ (L.take k).length ∧ (addS x (L.take k)).2.2.length ≤ (L.take k).length := by
    have g : ∀ (M : List (Int × Int)) (s : (Int × Int) × List (Int × Int) × List (Int × Int)), (M.foldl addStep s).2.1.length ≤ s.2.1.length + M.length ∧ (M.foldl addStep s).2.2.length ≤ s.2.2.length + M.length := by
      intro M
      induction M with
      | nil => intro s; simp
      | cons z r ih =>
        intro s
        rw [List.foldl_cons]
        have h1 := ih (addStep s z)
        have h2 : (addStep s z).2.1.length ≤ s.2.1.length + 1 ∧ (addStep s z).2.2.length ≤ s.2.2.length + 1 := by
          unfold addStep
          split
          · simp
          · split <;> simp
        simp
        omega
    have := g (L.take k) (x, [], [])
    simp only [List.length_nil, Nat.zero_add] at this
    exact this
  have h4 : (L.take k).length ≤ L.length := by simp; omega
  have hC1 := h.1.1
  refine (add1_any y h.1 h.2.2 (by omega)).mono ?_
  rintro e w' ⟨rfl, h5, h6⟩
  refine ⟨rfl, ?_, bl_only h.2.1 h6 (fun k hk hh => by omega) h.2.1.size, by have := h6.size; have := h.2.2; omega⟩
  rw [take_snoc hy]
  have e : addS x (L.take k ++ [y]) = addStep (addS x (L.take k)) y := by unfold addS; rw [List.foldl_append]; rfl
  rw [e]
  exact h5

/-- append of one list of spans behind another one, each the call's own, the second nil or not -/
theorem run_append_two {w : World} {C : Nat} {v X : Value} {n m : Nat} {xs news : List Value} (h : w.ownsRow C 75 2 v n xs) (hX : w.ownsRow C 75 2 X m news) (h1 : ∀ u ∈ news, u.oneCell' = true) (hnm : n + m ≤ 1000000) (hC : C ≤ w.heap.size) :
    ∃ v' w', (Builtin.append_ #[72, 72] 72 #[v, X]).run Try.prog w = .ok v' w' ∧ w'.ownsRow C 75 2 v' (n + m) (xs ++ news) ∧ w.grownBy w' v.ownBlock := by
  obtain ⟨i0, hi, hi0, hi1, hi2⟩ := info75_parts
  rcases hX.2 with ⟨rfl, rfl⟩ | ⟨g, cap, cur, rfl, _⟩
  · have hn : news = [] := List.eq_nil_of_length_eq_zero (by simpa using hX.1)
    subst hn
    refine ⟨v, w, run_append_owned_none (P := Try.prog) (w := w) C 72 72 75 i0 2 Try.underlying72 hi v n xs h, by simpa using h, ⟨rfl, rfl, rfl, Nat.le_refl _, fun _ _ _ => rfl⟩⟩
  · obtain ⟨v', w', hr, h2, h3, _⟩ := run_append_own (P := Try.prog) w C 72 72 75 i0 _ 2 16 Try.underlying72 hi hi0 hi1 hi2 rfl (by omega) v n xs h ⟨g, 0, none⟩ m cap news hX.1 (hX.cells (g := g) rfl) h1 (by unfold maxLen; omega) (by omega) hC
    exact ⟨v', w', hr, h2, h3⟩

theorem sstep_run {P : Program} {ops : Array Oper} {o : Oper} {a : Act} {w : World} {K : Act → World → Prop} {Q : Exit → Act → World → Prop} {E : Prop} (hgd : o.guard = none) (s x : Operand) (t : TypeId)
    (ho : o.op = .call { callee := .builtin .append, args := #[s, x], argTypes := #[t, t] }) (v u : Value) (hs : a.eval s = v) (hx : a.eval x = u) {v' : Value} {w' : World}
    (hr : (Builtin.append_ #[t, t] o.type #[v, u]).run P w = .ok v' w') (h : K (a.put o.dst v') w') :
    if Region.wanted o (yielded ops a.tmps) = true then Oper.wp P o a w K Q else E := by
  have hw : Region.wanted o (yielded ops a.tmps) = true := by simp [Region.wanted, hgd]
  rw [if_pos hw]
  unfold Oper.wp execOp
  simp only [ho, resolve, invoke, builtin, Sem.run_bind, Sem.run_pure, Result.andThen_ok, List.map_toArray, List.map_cons, List.map_nil, hs, hx, hr]
  exact h

theorem add_tail {B C p bb g cap : Nat} {sv sa sb : Value} {L F G T : List (Int × Int)} {c d : Int} {w w2 w3 : World} {o : Obj} (hr : SRep B w p sv L) (hb : Below w.heap.size w w2) (o1 : w2.ownsRow C 75 2 sa F.length (spc F)) (o2 : w2.ownsRow C 75 2 sb G.length (spc G))
    (hne : ∀ k, sa.ownBlock = some k → sb.ownBlock ≠ some k) (hrb : Row w2 bb 72 #[sb]) (hT : T = F ++ [(c, d)] ++ G) (hown : w3.ownsRow C 75 2 (.slice (some ⟨g, 0, none⟩) (F.length + 1) cap) (F.length + 1) (spc F ++ [.int .i64 c, .int .i64 d]))
    (hgrow : (w2.alloc o).drew.grownBy w3 sa.ownBlock) (hB : B ≤ w.heap.size) (hC : w.heap.size ≤ C) (hC2 : C ≤ w2.heap.size) (hbb : bb < C) (hl : F.length + 1 + G.length ≤ 10000) :
    ∃ v4 w4, (Builtin.append_ #[72, 72] 72 #[.slice (some ⟨g, 0, none⟩) (F.length + 1) cap, sb]).run Try.prog w3 = .ok v4 w4 ∧ SRep B w4 p sv L ∧ w4.ownsRow B 75 2 v4 T.length (spc T) ∧ Below w.heap.size w w4 ∧ w3.cell? ⟨bb, 0, none⟩ = some sb := by
  have hsz := hgrow.size
  simp at hsz
  have hob : w3.ownsRow C 75 2 sb G.length (spc G) := World.ownsRow.kept (w := w2.drew.alloc o) (World.ownsRow.alloc (w := w2.drew) o2 o) hgrow (by
    rcases hs : sb.ownBlock with _ | k
    · exact .inl rfl
    · exact .inr fun he => hne k he.symm hs)
  have hrow3 := grown_row (hrb.drawn.more o) hgrow (fun hk => by have := (o1.lt _ hk).1; omega)
  have hlt := fun k hk => (o1.lt k hk).1
  have hb3 : Below w.heap.size w w3 := (((Only.of_below (S := fun k => w.heap.size ≤ k) hb).alloc o).drew.grown hgrow (fun k hk => .inl (by have := hlt k hk; omega))).below (Nat.le_refl _) (fun k hk hh => by omega)
  obtain ⟨v4, w4, h1, h2, h3⟩ := run_append_two hown hob (spc_one G) (by omega) (by omega)
  have hb4 : Below w.heap.size w w4 := ((Only.of_below (S := fun k => w.heap.size ≤ k) hb3).grown h3 (fun k hk => .inl (by have := (hown.lt k hk).1; omega))).below (Nat.le_refl _) (fun k hk hh => by omega)
  refine ⟨v4, w4, h1, hr.later hb4, ?_, hb4, hrow3.read (i := 0) rfl⟩
  have e1 : T.length = F.length + 1 + G.length := by rw [hT]; simp; omega
  have e2 : spc T = spc F ++ [.int .i64 c, .int .i64 d] ++ spc G := by rw [hT, spc_append, spc_append]; rfl
  rw [e1, e2]
  exact h2.mono (by omega)

set_option maxRecDepth 100000 in
set_option maxHeartbeats 1600000 in
theorem sadd_any {B p : Nat} {sv : Value} {L : List (Int × Int)} {w : World} (x : Int × Int) (hx : srightB x = true) (hr : SRep B w p sv L) (hn : Norm 0 L) (hl : L.length ≤ 2047) (hB : B ≤ w.heap.size) :
    Calls Try.prog 149 #[.pointer (some ⟨p, 0, none⟩), spv x] w fun e w' => e = .returned (.int .i64 0) ∧ (∃ sv', SRep B w' p sv' (addF x L)) ∧ Only (fun k => k = p) w w' := by
  have hx' := rightB_iff.1 hx
  have hlen : (addF x L).length ≤ L.length + 1 := by rw [addF_eq hn hx'.2.2]; exact addR_len
  have HX := Lib.hid hx
  have HR := Lib.hid hr
  have HT := Lib.hid (fun C xb ab bb w1 => each_add (C := C) (xb := xb) (ab := ab) (bb := bb) (w := w1) (x := x) hr (by omega))
  have HB2 := Lib.hid (fun sv' w2 (h1 : SRep B w2 p sv L) (h2 : w2.ownsRow B 75 2 sv' (addF x L).length (spc (addF x L))) => become_any h1 h2 (by omega))
  have hs : (addF x L) = (addS x L).2.1 ++ [(addS x L).1] ++ (addS x L).2.2 := rfl
  clear hx hr hx' hn
  generalize addF x L = T at *
  generalize addS x L = S at *
  obtain ⟨⟨c, d⟩, F, G⟩ := S
  obtain ⟨a, b⟩ := x
  simp only at hs
  have HS := Lib.hid hs
  have hlT : T.length = F.length + 1 + G.length := by rw [hs]; simp; omega
  clear hs
  obtain ⟨i0, hi, hi0, hi1, hi2⟩ := info75_parts
  show Calls Try.prog 149 #[_, .agg #[.int .i64 a, .int .i64 b]] w _
  go_enter Try.func149, Try.ntmps149
  go_wp2_with fail
  refine (fault_ok p (a, b) _ HX.out).mono ?_
  rintro e w1 ⟨rfl, hb1⟩
  have hs1 := hb1.size
  simp at hs1
  have HB1 := Lib.hid (bl_step (bl_alloc (Below.refl _ _) _) hb1)
  have hxr := (Row.made w 75 #[.int .i64 a, .int .i64 b]).later hb1
  have k1 := Row.made w1 72 #[.slice none 0 0]
  have k2 := made1 w1 (.cells #[.slice none 0 0] 72) 72 #[.slice none 0 0]
  have HA : Hid (Adding (w1.heap.size + 2) w.heap.size w1.heap.size (w1.heap.size + 1) ((a, b), [], []) ((w1.alloc (.cells #[.slice none 0 0] 72)).alloc (.cells #[.slice none 0 0] 72))) :=
    Lib.hid ⟨by omega, by omega, by omega, by omega, (hxr.more _).more _, _, _, k1.more _, k2, World.ownsRow_nil _ _ _ _, World.ownsRow_nil _ _ _ _, fun k hk => by simp [Value.ownBlock] at hk⟩
  have HB3 := Lib.hid (bl_alloc (bl_alloc HB1.out (.cells #[.slice none 0 0] 72)) (.cells #[.slice none 0 0] 72))
  clear hb1 hxr k1 k2
  go_wp2_with fail
  refine (HT.out _ _ _ _ _ HB3.out HA.out (by simp) (by omega) (by omega) (by omega)).mono ?_
  rintro e w2 ⟨rfl, ⟨q1, q2, q3, q4, hxr, sa, sb, r1, r2, o1, o2, hne⟩, hb2, hC2⟩
  simp only at hxr o1 o2
  have c1 := hxr.read (i := 0) rfl
  have c2 := hxr.read (i := 1) rfl
  have c3 := r1.read (i := 0) rfl
  have c4 := r2.read (i := 0) rfl
  have HXR := Lib.hid hxr
  have HR1 := Lib.hid r1
  have HR2 := Lib.hid r2
  have HO1 := Lib.hid o1
  have HO2 := Lib.hid o2
  have HNE := Lib.hid hne
  have HB4 := Lib.hid hb2
  clear hxr r1 r2 o1 o2 hne hb2
  go_wp2_with fail
  have fa := (HR1.out.more (.cells #[.int .i64 c, .int .i64 d] 75)).read (i := 0) rfl
  have fb := (HR2.out.more (.cells #[.int .i64 c, .int .i64 d] 75)).read (i := 0) rfl
  go_region_law (first
    | (refine step_append_lies _ rfl (.tmp 18) (.tmp 20) 72 rfl (w1.heap.size + 2) 75 i0 (.agg #[.int .i64 0, .int .i64 0]) 2 16 Try.underlying72 hi hi0 hi1 hi2 rfl (by omega) sa F.length (spc F) (by simp [Act.eval]) (HO1.out.alloc _) ⟨w2.heap.size, 0, none⟩ 1 1 [.int .i64 c, .int .i64 d] (by simp [Act.eval]) rfl (new_pair _ _ _ _) (pair_one c d) (by omega) (by unfold maxLen; omega) (by omega) (by simp; omega) _ rfl ?_; intro g cap w3 hown hgrow hgg hg2; obtain ⟨v4, w4, hr4, hs4, ho4, hb4, cb⟩ := add_tail (B := B) (p := p) (sv := sv) (L := L) (bb := w1.heap.size + 1) HR.out HB4.out HO1.out HO2.out HNE.out HR2.out HS.out hown hgrow (by omega) (by omega) (by omega) (by omega) (by omega))
    | (refine sstep_run rfl (.tmp 21) (.tmp 22) 72 rfl (.slice (some ⟨g, 0, none⟩) (F.length + 1) cap) sb (by simp [Act.eval]) (by simp [Act.eval]) hr4 ?_)
    | (go_simp; go_at_call 154; refine (HB2.out _ _ hs4 ho4).mono ?_; rintro e w5 ⟨rfl, h6, h7⟩; go_simp))
  all_goals
    clear hs4 ho4
    go_wp2
    go_ret
    exact ⟨rfl, ⟨_, h6⟩, (Only.of_below hb4).andThen h7 (fun k _ hk => hk)⟩
end Go.Proofs.Ytdaipfmckonfpaa
namespace Go.Proofs.Ytdaipfmckonfpaa
open Go.RowKit

/-- where a slice's cells lie -/
def SrcO (w : World) (A : Option Addr) (xs : List Value) : Prop := 0 < xs.length → ∃ b off, A = some ⟨b, off, none⟩ ∧ ∀ j u, xs[j]? = some u → w.cell? ⟨b, off + j, none⟩ = some u
theorem SrcO.later {w v : World} {A : Option Addr} {xs : List Value} (h : SrcO w A xs) (hb : Below w.heap.size w v) : SrcO v A xs := by
  intro h0
  obtain ⟨b, off, rfl, hc⟩ := h h0
  exact ⟨b, off, rfl, fun j u hu => kept_box hb (hc j u hu)⟩
end Go.Proofs.Ytdaipfmckonfpaa
namespace Go.Proofs.Ytdaipfmckonfpaa
open Go.RowKit

set_option maxHeartbeats 400000 in
theorem new_none {B : Nat} (w : World) (hB : B ≤ w.heap.size) :
    Calls Try.prog 148 #[.slice none 0 0] w fun e w' => e = .returned (.tuple #[.pointer (some ⟨w.heap.size, 0, none⟩), .int .i64 0]) ∧ SRep B w' w.heap.size (.slice none 0 0) [] ∧ Below w.heap.size w w' := by
  go_enter Try.func148, Try.ntmps148
  go_wp2
  refine wp_loop_rounds 1 ?_
  rw [rounds_succ]
  go_wp2
  go_ret2
  exact ⟨rfl, ⟨hB, Row.made _ _ _, World.ownsRow_nil _ _ _ _⟩, bl_alloc (Below.refl _ _) _⟩

end Go.Proofs.Ytdaipfmckonfpaa
namespace Go.Proofs.Ytdaipfmckonfpaa
open Go.RowKit

def addO (x : Int × Int) (L : List (Int × Int)) : List (Int × Int) := if srightB x then addF x L else L
def takeO (x : Int × Int) (L : List (Int × Int)) : List (Int × Int) := if srightB x then takeF x L else L
def opE (x : Int × Int) : Int := if srightB x then 0 else 1
theorem addO_norm {x : Int × Int} {L : List (Int × Int)} (h : Norm 0 L) : Norm 0 (addO x L) := by
  unfold addO
  by_cases hx : srightB x = true
  · have hx' := rightB_iff.1 hx
    rw [if_pos hx, addF_eq h hx'.2.2]
    exact addR_norm h hx'.1 hx'.2.2 hx'.2.1
  · rw [if_neg hx]; exact h
theorem takeO_norm {x : Int × Int} {L : List (Int × Int)} (h : Norm 0 L) : Norm 0 (takeO x L) := by
  unfold takeO
  by_cases hx : srightB x = true
  · rw [if_pos hx]; exact takeF_norm (rightB_iff.1 hx).2.2 h
  · rw [if_neg hx]; exact h
theorem takeO_len {x : Int × Int} {L : List (Int × Int)} (h : Norm 0 L) : (takeO x L).length ≤ L.length + 1 := by
  unfold takeO
  by_cases hx : srightB x = true
  · rw [if_pos hx]; exact takeF_len (rightB_iff.1 hx).2.2 h
  · rw [if_neg hx]; omega
/-- the set at block p holds these spans -/
def Sits (B p : Nat) (L : List (Int × Int)) (w : World) : Prop := B ≤ p ∧ B ≤ w.heap.size ∧ Norm 0 L ∧ ∃ sv, SRep B w p sv L
section
variable {B p : Nat} {L : List (Int × Int)} {w w' : World}
theorem Sits.other (h : Sits B p L w) {q : Nat} {t : TypeId} {cs : Array Value} (hq : Row w q t cs) (ht : t ≠ 75) (hqp : p ≠ q) (ho : Only (fun k => k = q) w w') : Sits B p L w' := by
  obtain ⟨h1, h2, h3, sv, h4⟩ := h
  exact ⟨h1, by have := ho.size; omega, h3, sv, h4.only ho hqp fun k hk e => by subst e; exact own_apart h4.2.2 hq (fun e => ht e.symm) hk⟩
theorem Sits.later (h : Sits B p L w) (hb : Below w.heap.size w w') : Sits B p L w' := by
  obtain ⟨h1, h2, h3, sv, h4⟩ := h
  exact ⟨h1, by have := hb.size; omega, h3, sv, h4.later hb⟩
theorem Sits.row (h : Sits B p L w) : ∃ sv, Row w p 204 #[sv] := by
  obtain ⟨_, _, _, sv, h4⟩ := h
  exact ⟨sv, h4.2.1⟩
theorem sit_add (x : Int × Int) (h : Sits B p L w) (hl : L.length ≤ 2047) :
    Calls Try.prog 149 #[.pointer (some ⟨p, 0, none⟩), spv x] w fun e w' => e = .returned (.int .i64 (opE x)) ∧ Sits B p (addO x L) w' ∧ Only (fun k => k = p) w w' := by
  obtain ⟨h1, h2, h3, sv, h4⟩ := id h
  by_cases hx : srightB x = true
  · refine (sadd_any x hx h4 h3 hl h2).mono ?_
    rintro e w' ⟨rfl, h5, h6⟩
    have hn := addO_norm (x := x) h3
    have e1 : addO x L = addF x L := by unfold addO; rw [if_pos hx]
    have e2 : opE x = 0 := by unfold opE; rw [if_pos hx]
    rw [e2, e1]
    rw [e1] at hn
    exact ⟨rfl, ⟨h1, by have := h6.size; omega, hn, h5⟩, h6⟩
  · refine (add_arg p x w (by simpa using hx)).mono ?_
    rintro e w' ⟨rfl, h5⟩
    unfold opE addO
    rw [if_neg hx, if_neg hx]
    exact ⟨rfl, h.later h5, .of_below h5⟩
theorem sit_take (x : Int × Int) (h : Sits B p L w) (hl : L.length ≤ 2047) :
    Calls Try.prog 97 #[.pointer (some ⟨p, 0, none⟩), spv x] w fun e w' => e = .returned (.int .i64 (opE x)) ∧ Sits B p (takeO x L) w' ∧ Only (fun k => k = p) w w' := by
  obtain ⟨h1, h2, h3, sv, h4⟩ := id h
  by_cases hx : srightB x = true
  · refine (take_any x hx h4 h3 hl h2).mono ?_
    rintro e w' ⟨rfl, h5, h6⟩
    have hn := takeO_norm (x := x) h3
    have e1 : takeO x L = takeF x L := by unfold takeO; rw [if_pos hx]
    have e2 : opE x = 0 := by unfold opE; rw [if_pos hx]
    rw [e2, e1]
    rw [e1] at hn
    exact ⟨rfl, ⟨h1, by have := h6.size; omega, hn, h5⟩, h6⟩
  · refine (take_arg p x w (by simpa using hx)).mono ?_
    rintro e w' ⟨rfl, h5⟩
    unfold opE takeO
    rw [if_neg hx, if_neg hx]
    exact ⟨rfl, h.later h5, .of_below h5⟩
theorem sit_has (x : Int × Int) (h : Sits B p L w) (v : Bool) (hv : (hasF x L && srightB x) = v) : Calls Try.prog 93 #[.pointer (some ⟨p, 0, none⟩), spv x] w fun e w' => e = .returned (.bool v) ∧ Below w.heap.size w w' := by
  obtain ⟨_, _, _, sv, h4⟩ := h
  exact has_any x h4 v hv
theorem sit_count (h : Sits B p L w) (hl : L.length ≤ 100000) : Calls Try.prog 95 #[.pointer (some ⟨p, 0, none⟩)] w fun e w' => e = .returned (.int .i64 (countF L)) ∧ Below w.heap.size w w' := by
  obtain ⟨_, _, h3, sv, h4⟩ := h
  exact count_any h4 h3 hl
theorem sit_spans (h : Sits B p L w) (hl : L.length ≤ 100000) : Calls Try.prog 96 #[.pointer (some ⟨p, 0, none⟩)] w fun e w' => e = .returned (.slice (some ⟨w.heap.size, 0, none⟩) L.length L.length) ∧ Row w' w.heap.size 75 (spc L).toArray ∧ Below w.heap.size w w' := by
  obtain ⟨_, _, _, sv, h4⟩ := h
  exact spans_any h4 hl
end
theorem new_sits (w : World) : Calls Try.prog 148 #[.slice none 0 0] w fun e w' => e = .returned (.tuple #[.pointer (some ⟨w.heap.size, 0, none⟩), .int .i64 0]) ∧ Sits w.heap.size w.heap.size [] w' ∧ Below w.heap.size w w' := by
  refine (new_none (B := w.heap.size) w (Nat.le_refl _)).mono ?_
  rintro e w' ⟨rfl, h1, h2⟩
  exact ⟨rfl, ⟨Nat.le_refl _, h2.size, trivial, _, h1⟩, h2⟩
theorem Sits.down {B B' p : Nat} {L : List (Int × Int)} {w : World} (h : Sits B p L w) (hb : B' ≤ B) : Sits B' p L w := by
  obtain ⟨h1, h2, h3, sv, h4, h5, h6⟩ := h
  exact ⟨by omega, by omega, h3, sv, by omega, h5, h6.mono hb⟩
end Go.Proofs.Ytdaipfmckonfpaa
namespace Go.Proofs.Ytdaipfmckonfpaa
open Go.RowKit Go.Maps

theorem Try.underkm : Try.prog.underlying 132 = some (.map 3 136) := by kernel_rfl
theorem Try.underdm : Try.prog.underlying 133 = some (.map 3 144) := by kernel_rfl
theorem zeroK (w : World) : (zeroValue 136).run Try.prog w = .ok (.pointer none) w := by kernel_rfl
theorem zeroS (w : World) : (zeroValue 144).run Try.prog w = .ok (.pointer none) w := by kernel_rfl
set_option maxRecDepth 100000 in
theorem km_ne (m : Nat) (W : World) : (binOp BinOp.neq 132 (.map (some m)) (.map none)).run Try.prog W = .ok (.bool true) W := rfl
/-- a store in memory: its width, its packets' map and that of what is due -/
structure StoR (w : World) (p m1 m2 : Nat) (wd : Int) (k1 k2 : Nat) (M1 M2 : Int → Option Nat) : Prop where
  row : Row w p 135 #[.int .i64 wd, .map (some m1), .map (some m2)]
  mp1 : MapP w m1 k1 M1
  mp2 : MapP w m2 k2 M2
  ne : m1 ≠ m2
/-- a packet that is kept, in memory of its own -/
structure KeptR (B : Nat) (w : World) (g : Nat) (fi sn : Int) (poll last : Bool) (off : Int) (M : List RowB) (cnt : Int) : Prop where
  row : ∃ A c, Row w g 140 #[.bool poll, .int .i64 fi, .int .i64 sn, .bool false, .bool last, .int .i64 off, .slice A M.length c, .int .i64 cnt] ∧ OwnR B w (.slice A M.length c) M
section
variable {w v : World} {p m1 m2 k1 k2 : Nat} {wd n : Int} {M1 M2 : Int → Option Nat}
theorem StoR.later (h : StoR w p m1 m2 wd k1 k2 M1 M2) (hb : Below w.heap.size w v) : StoR v p m1 m2 wd k1 k2 M1 M2 := ⟨h.row.later hb, h.mp1.later hb, h.mp2.later hb, h.ne⟩
set_option maxRecDepth 100000 in
set_option maxHeartbeats 800000 in
theorem smade_any (h : StoR w p m1 m2 wd k1 k2 M1 M2) : Calls Try.prog 88 #[.pointer (some ⟨p, 0, none⟩)] w fun e w' => e = .returned (.bool true) ∧ w = w' := by
  have c1 := h.row.read (i := 1) rfl
  go_enter Try.func88, Try.ntmps88
  go_wp2_with (simp only [km_ne, Result.andThen_ok])
  go_ret
  exact ⟨rfl, rfl⟩
set_option maxRecDepth 100000 in
set_option maxHeartbeats 800000 in
theorem sfind_any (h : StoR w p m1 m2 wd k1 k2 M1 M2) (hn : (Lit.int .i64 n).wf = true) : Calls Try.prog 89 #[.pointer (some ⟨p, 0, none⟩), .int .i64 n] w fun e w' => e = .returned (ptrV (M1 n)) ∧ w = w' := by
  have c1 := h.row.read (i := 1) rfl
  have HP := Lib.hid h.mp1
  have HM := Lib.hid (smade_any h)
  clear h
  go_enter Try.func89, Try.ntmps89
  go_wp2_with (first
    | (go_at_call 88; (with_reducible refine HM.out.mono ?_); rintro e w1 ⟨rfl, rfl⟩)
    | (at_lookup; refine wpList_mlook rfl _ _ 132 rfl 136 Try.underkm (zeroK _) rfl HP.out rfl hn _ rfl ?_))
  go_ret
  exact ⟨rfl, rfl⟩
variable {B g : Nat} {fi sn off cnt : Int} {poll last : Bool} {M : List RowB}
theorem KeptR.later (h : KeptR B w g fi sn poll last off M cnt) (hb : Below w.heap.size w v) : KeptR B v g fi sn poll last off M cnt := by
  obtain ⟨A, c, h1, h2⟩ := h.row
  exact ⟨A, c, h1.later hb, h2.later hb⟩
/-- how many bytes a packet's data has -/
def dataN (M : List RowB) : Nat := (lens M).sum
set_option maxRecDepth 100000 in
set_option maxHeartbeats 800000 in
theorem ksize_any (h : KeptR B w g fi sn poll last off M cnt) (hl : M.length ≤ 1000) (hs : dataN M ≤ 1000000) : Calls Try.prog 144 #[.pointer (some ⟨g, 0, none⟩)] w fun e w' => e = .returned (.int .i64 (dataN M : Nat)) ∧ Below w.heap.size w w' := by
  obtain ⟨A, c, hr, ho⟩ := h.row
  have c0 := hr.read (i := 0) rfl
  have c1 := hr.read (i := 1) rfl
  have c2 := hr.read (i := 2) rfl
  have c3 := hr.read (i := 3) rfl
  have c4 := hr.read (i := 4) rfl
  have c5 := hr.read (i := 5) rfl
  have c6 := hr.read (i := 6) rfl
  have hd := adata_len poll false last fi sn off M.length c w rfl (by omega) ho.src hs
  have HD := Lib.hid hd
  clear hr ho h hd
  unfold dataN
  generalize (lens M).sum = S at *
  go_enter Try.func144, Try.ntmps144
  go_wp2_with (go_at_call 36; (with_reducible refine HD.out.mono ?_); rintro e w1 ⟨A', c', rfl, _, hb⟩; (have HB := Lib.hid hb; clear hb))
  go_ret
  exact ⟨rfl, HB.out⟩
end
end Go.Proofs.Ytdaipfmckonfpaa
namespace Go.Proofs.Ytdaipfmckonfpaa
open Go.RowKit Go.Maps

/-- which bytes are meant: from, and as far as where -/
def someF (s : Nat) (fr tq : Int) : Option (Int × Int) :=
  let t : Int := if tq = 0 ∨ (s : Int) < tq then s else tq
  if fr < 0 ∨ t ≤ fr then none else some (fr, t)
theorem someF_is {s : Nat} {fr tq t : Int} (h : (if tq = 0 ∨ (s : Int) < tq then (s : Int) else tq) = t) : someF s fr tq = if fr < 0 ∨ t ≤ fr then none else some (fr, t) := by
  unfold someF
  rw [h]
def someV : Option (Int × Int) → Value
  | none => .tuple #[.agg #[.int .i64 0, .int .i64 0], .int .i64 1]
  | some x => .tuple #[.agg #[.int .i64 x.1, .int .i64 x.2], .int .i64 0]
theorem sto_two {fn : Func} {p u : Tmp} {ty : TypeId} (h : fn.results = #[.cell p ty, .tmp u]) (tmps : Array Value) (w : World) (g : Nat) (t : TypeId) (cs : Array Value) (fs : Array Field)
    (hp : tmps.getD p undef = .pointer (some ⟨g, 0, none⟩)) (hg : Row w g t cs)
    (hu : Try.prog.underlying ty = some (.struct fs)) (hi : (Try.prog.info? ty).map (·.size) = some cs.size) :
    (results fn tmps).run Try.prog w = .ok (.tuple #[.agg cs, tmps.getD u undef]) w := by
  rw [results_cell_tmp h, hp]
  simp only [asAddr, Sem.run_pure, Result.andThen_ok, run_loadVar_row w g t ty cs (0, 0) (.struct fs) hg hu rfl hi]
theorem Try.infosp : (Try.prog.info? 75).map (·.size) = some 2 := by kernel_rfl
theorem Try.undersp : (Try.prog.underlying 75).map (fun d => match d with | .struct _ => true | _ => false) = some true := by kernel_rfl
theorem undersp_parts : ∃ fs, Try.prog.underlying 75 = some (.struct fs) := by
  obtain ⟨d, hd, h⟩ := Option.map_eq_some_iff.1 Try.undersp
  cases d with
  | struct fs => exact ⟨fs, hd⟩
  | _ => simp at h
section
variable {w v : World} {p m1 m2 k1 k2 : Nat} {wd n : Int} {M1 M2 : Int → Option Nat} {B g : Nat} {fi sn off cnt : Int} {poll last : Bool} {M : List RowB}
set_option maxRecDepth 100000 in
set_option maxHeartbeats 1600000 in
theorem snew_any (wd : Int) (w : World) (h : wd = 10 ∨ wd = 16) : Calls Try.prog 32 #[.int .i64 wd] w fun e w' => e = .returned (.tuple #[.pointer (some ⟨w.heap.size + 2, 0, none⟩), .int .i64 0]) ∧ StoR w' (w.heap.size + 2) w.heap.size (w.heap.size + 1) wd 0 0 (fun _ => none) (fun _ => none) ∧ Below w.heap.size w w' := by
  have HH := Lib.hid (fun W => ahead_any false wd W)
  have hh : (headA false wd == 0) = false := by rcases h with rfl | rfl <;> decide
  generalize headA false wd = hd at *
  have hb := bl_alloc (bl_alloc (bl_alloc (Below.refl w.heap.size w) (.map #[] 0)) (.map #[] 0)) (.cells #[.int .i64 wd, .map (some w.heap.size), .map (some (w.heap.size + 1))] 135)
  have h1 := MapP.made w
  have h2 := MapP.made (w.alloc (.map #[] 0))
  rw [show (w.alloc (.map #[] 0)).heap.size = w.heap.size + 1 by simp] at h2
  have h3 := Row.made ((w.alloc (.map #[] 0)).alloc (.map #[] 0)) 135 #[.int .i64 wd, .map (some w.heap.size), .map (some (w.heap.size + 1))]
  rw [show ((w.alloc (.map #[] 0)).alloc (.map #[] 0)).heap.size = w.heap.size + 2 by simp] at h3
  have HF : Hid (StoR (((w.alloc (.map #[] 0)).alloc (.map #[] 0)).alloc (.cells #[.int .i64 wd, .map (some w.heap.size), .map (some (w.heap.size + 1))] 135)) (w.heap.size + 2) w.heap.size (w.heap.size + 1) wd 0 0 (fun _ => none) (fun _ => none)) :=
    Lib.hid ⟨h3, h1.later (bl_alloc (bl_alloc (Below.refl _ _) _) _), h2.later (bl_alloc (Below.refl _ _) _), by omega⟩
  have HB := Lib.hid hb
  have hmm := @run_makeMap Try.prog
  clear h h1 h2 h3 hb
  go_enter Try.func32, Try.ntmps32
  go_wp2_with (go_at_call 87; (with_reducible refine (HH.out _).mono ?_); rintro e w1 ⟨rfl, rfl⟩)
  go_ret2
  exact ⟨rfl, HF.out, HB.out⟩
set_option maxRecDepth 100000 in
set_option maxHeartbeats 3200000 in
theorem ssome_any (h : StoR w p m1 m2 wd k1 k2 M1 M2) (hn : (Lit.int .i64 n).wf = true) (hg : M1 n = some g) (hk : KeptR B w g fi sn poll last off M cnt) (hl : M.length ≤ 1000) (hs : dataN M ≤ 1000000) (fr tq : Int) :
    Calls Try.prog 92 #[.pointer (some ⟨p, 0, none⟩), .int .i64 n, .int .i64 fr, .int .i64 tq] w fun e w' => e = .returned (someV (someF (dataN M) fr tq)) ∧ Below w.heap.size w w' := by
  obtain ⟨ds, hds⟩ := undersp_parts
  have hb0 := bl_alloc (Below.refl w.heap.size w) (.cells #[.int .i64 0, .int .i64 0] 75)
  have HB0 := Lib.hid hb0
  have HRS := Lib.hid (Row.made w 75 #[.int .i64 0, .int .i64 0])
  have HMD := Lib.hid (smade_any (h.later hb0))
  have hf := sfind_any (n := n) (h.later hb0) hn
  rw [hg] at hf
  unfold ptrV at hf
  have HFD := Lib.hid hf
  have HSZ := Lib.hid (fun W (hb : Below w.heap.size w W) => ksize_any (hk.later hb) hl hs)
  generalize dataN M = S at *
  clear h hk hf hb0
  by_cases h1 : tq = 0
  · subst h1
    have HT := Lib.hid (show (if (0 : Int) = 0 ∨ (S : Int) < 0 then (S : Int) else 0) = S from if_pos (.inl rfl))
    go_enter Try.func92, Try.ntmps92
    by_cases h3 : fr < 0
    · have HV := Lib.hid (show someF S fr 0 = none by rw [someF_is HT.out, if_pos (.inl h3)])
      clear HT
      go_wp2_with (first
          | (go_at_call 88; (with_reducible refine HMD.out.mono ?_); rintro e w1 ⟨rfl, rfl⟩)
          | (go_at_call 89; (with_reducible refine HFD.out.mono ?_); rintro e w1 ⟨rfl, rfl⟩)
          | (go_at_call 144; (with_reducible refine (HSZ.out _ HB0.out).mono ?_); rintro e w3 ⟨rfl, hb⟩; (have HB3 := Lib.hid (bl_step HB0.out hb); have HR3 := Lib.hid (HRS.out.later hb); have f0 := HR3.out.free 0; have f1 := HR3.out.free 1; have c0 := HR3.out.read (i := 0) rfl; have c1 := HR3.out.read (i := 1) rfl; clear hb))
          | (go_at_call 144; (with_reducible refine (HSZ.out _ HB3.out).mono ?_); rintro e w4 ⟨rfl, hb⟩; (have HB4 := Lib.hid (bl_step HB3.out hb); have HR4 := Lib.hid (HR3.out.later hb); clear f0 f1 c0 c1; have f0 := HR4.out.free 0; have f1 := HR4.out.free 1; have c0 := HR4.out.read (i := 0) rfl; have c1 := HR4.out.read (i := 1) rfl; clear hb)))
      have HRF := Lib.hid ((HR3.out.written 0 (.int .i64 0)).written 1 (.int .i64 0))
      refine bodyPost_ret (sto_two rfl _ _ w.heap.size 75 #[.int .i64 0, .int .i64 0] ds rfl HRF.out hds Try.infosp) rfl ?_
      exact ⟨by rw [HV.out]; rfl, ((HB3.out.setCell (p := ⟨w.heap.size, 0, none⟩) (Nat.le_refl _) _).setCell (p := ⟨w.heap.size, 1, none⟩) (Nat.le_refl _) _)⟩
    · by_cases h4 : (S : Int) ≤ fr
      · have HV := Lib.hid (show someF S fr 0 = none by rw [someF_is HT.out, if_pos (.inr h4)])
        clear HT
        go_wp2_with (first
            | (go_at_call 88; (with_reducible refine HMD.out.mono ?_); rintro e w1 ⟨rfl, rfl⟩)
            | (go_at_call 89; (with_reducible refine HFD.out.mono ?_); rintro e w1 ⟨rfl, rfl⟩)
            | (go_at_call 144; (with_reducible refine (HSZ.out _ HB0.out).mono ?_); rintro e w3 ⟨rfl, hb⟩; (have HB3 := Lib.hid (bl_step HB0.out hb); have HR3 := Lib.hid (HRS.out.later hb); have f0 := HR3.out.free 0; have f1 := HR3.out.free 1; have c0 := HR3.out.read (i := 0) rfl; have c1 := HR3.out.read (i := 1) rfl; clear hb))
            | (go_at_call 144; (with_reducible refine (HSZ.out _ HB3.out).mono ?_); rintro e w4 ⟨rfl, hb⟩; (have HB4 := Lib.hid (bl_step HB3.out hb); have HR4 := Lib.hid (HR3.out.later hb); clear f0 f1 c0 c1; have f0 := HR4.out.free 0; have f1 := HR4.out.free 1; have c0 := HR4.out.read (i := 0) rfl; have c1 := HR4.out.read (i := 1) rfl; clear hb)))
        have HRF := Lib.hid ((HR3.out.written 0 (.int .i64 0)).written 1 (.int .i64 0))
        refine bodyPost_ret (sto_two rfl _ _ w.heap.size 75 #[.int .i64 0, .int .i64 0] ds rfl HRF.out hds Try.infosp) rfl ?_
        exact ⟨by rw [HV.out]; rfl, ((HB3.out.setCell (p := ⟨w.heap.size, 0, none⟩) (Nat.le_refl _) _).setCell (p := ⟨w.heap.size, 1, none⟩) (Nat.le_refl _) _)⟩
      · have HV := Lib.hid (show someF S fr 0 = some (fr, (S : Int)) by rw [someF_is HT.out, if_neg (by omega)])
        clear HT
        go_wp2_with (first
            | (go_at_call 88; (with_reducible refine HMD.out.mono ?_); rintro e w1 ⟨rfl, rfl⟩)
            | (go_at_call 89; (with_reducible refine HFD.out.mono ?_); rintro e w1 ⟨rfl, rfl⟩)
            | (go_at_call 144; (with_reducible refine (HSZ.out _ HB0.out).mono ?_); rintro e w3 ⟨rfl, hb⟩; (have HB3 := Lib.hid (bl_step HB0.out hb); have HR3 := Lib.hid (HRS.out.later hb); have f0 := HR3.out.free 0; have f1 := HR3.out.free 1; have c0 := HR3.out.read (i := 0) rfl; have c1 := HR3.out.read (i := 1) rfl; clear hb))
            | (go_at_call 144; (with_reducible refine (HSZ.out _ HB3.out).mono ?_); rintro e w4 ⟨rfl, hb⟩; (have HB4 := Lib.hid (bl_step HB3.out hb); have HR4 := Lib.hid (HR3.out.later hb); clear f0 f1 c0 c1; have f0 := HR4.out.free 0; have f1 := HR4.out.free 1; have c0 := HR4.out.read (i := 0) rfl; have c1 := HR4.out.read (i := 1) rfl; clear hb)))
        have HRF := Lib.hid ((HR3.out.written 0 (.int .i64 fr)).written 1 (.int .i64 (S : Int)))
        refine bodyPost_ret (sto_two rfl _ _ w.heap.size 75 #[.int .i64 fr, .int .i64 (S : Int)] ds rfl HRF.out hds Try.infosp) rfl ?_
        exact ⟨by rw [HV.out]; rfl, ((HB3.out.setCell (p := ⟨w.heap.size, 0, none⟩) (Nat.le_refl _) _).setCell (p := ⟨w.heap.size, 1, none⟩) (Nat.le_refl _) _)⟩
  · have h1' : (tq == 0) = false := by simpa using h1
    by_cases h2 : (S : Int) < tq
    · have HT := Lib.hid (show (if tq = 0 ∨ (S : Int) < tq then (S : Int) else tq) = S from if_pos (.inr h2))
      go_enter Try.func92, Try.ntmps92
      by_cases h3 : fr < 0
      · have HV := Lib.hid (show someF S fr tq = none by rw [someF_is HT.out, if_pos (.inl h3)])
        clear HT
        go_wp2_with (first
            | (go_at_call 88; (with_reducible refine HMD.out.mono ?_); rintro e w1 ⟨rfl, rfl⟩)
            | (go_at_call 89; (with_reducible refine HFD.out.mono ?_); rintro e w1 ⟨rfl, rfl⟩)
            | (go_at_call 144; (with_reducible refine (HSZ.out _ HB0.out).mono ?_); rintro e w3 ⟨rfl, hb⟩; (have HB3 := Lib.hid (bl_step HB0.out hb); have HR3 := Lib.hid (HRS.out.later hb); have f0 := HR3.out.free 0; have f1 := HR3.out.free 1; have c0 := HR3.out.read (i := 0) rfl; have c1 := HR3.out.read (i := 1) rfl; clear hb))
            | (go_at_call 144; (with_reducible refine (HSZ.out _ HB3.out).mono ?_); rintro e w4 ⟨rfl, hb⟩; (have HB4 := Lib.hid (bl_step HB3.out hb); have HR4 := Lib.hid (HR3.out.later hb); clear f0 f1 c0 c1; have f0 := HR4.out.free 0; have f1 := HR4.out.free 1; have c0 := HR4.out.read (i := 0) rfl; have c1 := HR4.out.read (i := 1) rfl; clear hb)))
        have HRF := Lib.hid ((HR4.out.written 0 (.int .i64 0)).written 1 (.int .i64 0))
        refine bodyPost_ret (sto_two rfl _ _ w.heap.size 75 #[.int .i64 0, .int .i64 0] ds rfl HRF.out hds Try.infosp) rfl ?_
        exact ⟨by rw [HV.out]; rfl, ((HB4.out.setCell (p := ⟨w.heap.size, 0, none⟩) (Nat.le_refl _) _).setCell (p := ⟨w.heap.size, 1, none⟩) (Nat.le_refl _) _)⟩
      · by_cases h4 : (S : Int) ≤ fr
        · have HV := Lib.hid (show someF S fr tq = none by rw [someF_is HT.out, if_pos (.inr h4)])
          clear HT
          go_wp2_with (first
              | (go_at_call 88; (with_reducible refine HMD.out.mono ?_); rintro e w1 ⟨rfl, rfl⟩)
              | (go_at_call 89; (with_reducible refine HFD.out.mono ?_); rintro e w1 ⟨rfl, rfl⟩)
              | (go_at_call 144; (with_reducible refine (HSZ.out _ HB0.out).mono ?_); rintro e w3 ⟨rfl, hb⟩; (have HB3 := Lib.hid (bl_step HB0.out hb); have HR3 := Lib.hid (HRS.out.later hb); have f0 := HR3.out.free 0; have f1 := HR3.out.free 1; have c0 := HR3.out.read (i := 0) rfl; have c1 := HR3.out.read (i := 1) rfl; clear hb))
              | (go_at_call 144; (with_reducible refine (HSZ.out _ HB3.out).mono ?_); rintro e w4 ⟨rfl, hb⟩; (have HB4 := Lib.hid (bl_step HB3.out hb); have HR4 := Lib.hid (HR3.out.later hb); clear f0 f1 c0 c1; have f0 := HR4.out.free 0; have f1 := HR4.out.free 1; have c0 := HR4.out.read (i := 0) rfl; have c1 := HR4.out.read (i := 1) rfl; clear hb)))
          have HRF := Lib.hid ((HR4.out.written 0 (.int .i64 0)).written 1 (.int .i64 0))
          refine bodyPost_ret (sto_two rfl _ _ w.heap.size 75 #[.int .i64 0, .int .i64 0] ds rfl HRF.out hds Try.infosp) rfl ?_
          exact ⟨by rw [HV.out]; rfl, ((HB4.out.setCell (p := ⟨w.heap.size, 0, none⟩) (Nat.le_refl _) _).setCell (p := ⟨w.heap.size, 1, none⟩) (Nat.le_refl _) _)⟩
        · have HV := Lib.hid (show someF S fr tq = some (fr, (S : Int)) by rw [someF_is HT.out, if_neg (by omega)])
          clear HT
          go_wp2_with (first
              | (go_at_call 88; (with_reducible refine HMD.out.mono ?_); rintro e w1 ⟨rfl, rfl⟩)
              | (go_at_call 89; (with_reducible refine HFD.out.mono ?_); rintro e w1 ⟨rfl, rfl⟩)
              | (go_at_call 144; (with_reducible refine (HSZ.out _ HB0.out).mono ?_); rintro e w3 ⟨rfl, hb⟩; (have HB3 := Lib.hid (bl_step HB0.out hb); have HR3 := Lib.hid (HRS.out.later hb); have f0 := HR3.out.free 0; have f1 := HR3.out.free 1; have c0 := HR3.out.read (i := 0) rfl; have c1 := HR3.out.read (i := 1) rfl; clear hb))
              | (go_at_call 144; (with_reducible refine (HSZ.out _ HB3.out).mono ?_); rintro e w4 ⟨rfl, hb⟩; (have HB4 := Lib.hid (bl_step HB3.out hb); have HR4 := Lib.hid (HR3.out.later hb); clear f0 f1 c0 c1; have f0 := HR4.out.free 0; have f1 := HR4.out.free 1; have c0 := HR4.out.read (i := 0) rfl; have c1 := HR4.out.read (i := 1) rfl; clear hb)))
          have HRF := Lib.hid ((HR4.out.written 0 (.int .i64 fr)).written 1 (.int .i64 (S : Int)))
          refine bodyPost_ret (sto_two rfl _ _ w.heap.size 75 #[.int .i64 fr, .int .i64 (S : Int)] ds rfl HRF.out hds Try.infosp) rfl ?_
          exact ⟨by rw [HV.out]; rfl, ((HB4.out.setCell (p := ⟨w.heap.size, 0, none⟩) (Nat.le_refl _) _).setCell (p := ⟨w.heap.size, 1, none⟩) (Nat.le_refl _) _)⟩
    · have HT := Lib.hid (show (if tq = 0 ∨ (S : Int) < tq then (S : Int) else tq) = tq from if_neg (by omega))
      go_enter Try.func92, Try.ntmps92
      by_cases h3 : fr < 0
      · have HV := Lib.hid (show someF S fr tq = none by rw [someF_is HT.out, if_pos (.inl h3)])
        clear HT
        go_wp2_with (first
            | (go_at_call 88; (with_reducible refine HMD.out.mono ?_); rintro e w1 ⟨rfl, rfl⟩)
            | (go_at_call 89; (with_reducible refine HFD.out.mono ?_); rintro e w1 ⟨rfl, rfl⟩)
            | (go_at_call 144; (with_reducible refine (HSZ.out _ HB0.out).mono ?_); rintro e w3 ⟨rfl, hb⟩; (have HB3 := Lib.hid (bl_step HB0.out hb); have HR3 := Lib.hid (HRS.out.later hb); have f0 := HR3.out.free 0; have f1 := HR3.out.free 1; have c0 := HR3.out.read (i := 0) rfl; have c1 := HR3.out.read (i := 1) rfl; clear hb))
            | (go_at_call 144; (with_reducible refine (HSZ.out _ HB3.out).mono ?_); rintro e w4 ⟨rfl, hb⟩; (have HB4 := Lib.hid (bl_step HB3.out hb); have HR4 := Lib.hid (HR3.out.later hb); clear f0 f1 c0 c1; have f0 := HR4.out.free 0; have f1 := HR4.out.free 1; have c0 := HR4.out.read (i := 0) rfl; have c1 := HR4.out.read (i := 1) rfl; clear hb)))
        have HRF := Lib.hid ((HR3.out.written 0 (.int .i64 0)).written 1 (.int .i64 0))
        refine bodyPost_ret (sto_two rfl _ _ w.heap.size 75 #[.int .i64 0, .int .i64 0] ds rfl HRF.out hds Try.infosp) rfl ?_
        exact ⟨by rw [HV.out]; rfl, ((HB3.out.setCell (p := ⟨w.heap.size, 0, none⟩) (Nat.le_refl _) _).setCell (p := ⟨w.heap.size, 1, none⟩) (Nat.le_refl _) _)⟩
      · by_cases h4 : tq ≤ fr
        · have HV := Lib.hid (show someF S fr tq = none by rw [someF_is HT.out, if_pos (.inr h4)])
          clear HT
          go_wp2_with (first
              | (go_at_call 88; (with_reducible refine HMD.out.mono ?_); rintro e w1 ⟨rfl, rfl⟩)
              | (go_at_call 89; (with_reducible refine HFD.out.mono ?_); rintro e w1 ⟨rfl, rfl⟩)
              | (go_at_call 144; (with_reducible refine (HSZ.out _ HB0.out).mono ?_); rintro e w3 ⟨rfl, hb⟩; (have HB3 := Lib.hid (bl_step HB0.out hb); have HR3 := Lib.hid (HRS.out.later hb); have f0 := HR3.out.free 0; have f1 := HR3.out.free 1; have c0 := HR3.out.read (i := 0) rfl; have c1 := HR3.out.read (i := 1) rfl; clear hb))
              | (go_at_call 144; (with_reducible refine (HSZ.out _ HB3.out).mono ?_); rintro e w4 ⟨rfl, hb⟩; (have HB4 := Lib.hid (bl_step HB3.out hb); have HR4 := Lib.hid (HR3.out.later hb); clear f0 f1 c0 c1; have f0 := HR4.out.free 0; have f1 := HR4.out.free 1; have c0 := HR4.out.read (i := 0) rfl; have c1 := HR4.out.read (i := 1) rfl; clear hb)))
          have HRF := Lib.hid ((HR3.out.written 0 (.int .i64 0)).written 1 (.int .i64 0))
          refine bodyPost_ret (sto_two rfl _ _ w.heap.size 75 #[.int .i64 0, .int .i64 0] ds rfl HRF.out hds Try.infosp) rfl ?_
          exact ⟨by rw [HV.out]; rfl, ((HB3.out.setCell (p := ⟨w.heap.size, 0, none⟩) (Nat.le_refl _) _).setCell (p := ⟨w.heap.size, 1, none⟩) (Nat.le_refl _) _)⟩
        · have HV := Lib.hid (show someF S fr tq = some (fr, tq) by rw [someF_is HT.out, if_neg (by omega)])
          clear HT
          go_wp2_with (first
              | (go_at_call 88; (with_reducible refine HMD.out.mono ?_); rintro e w1 ⟨rfl, rfl⟩)
              | (go_at_call 89; (with_reducible refine HFD.out.mono ?_); rintro e w1 ⟨rfl, rfl⟩)
              | (go_at_call 144; (with_reducible refine (HSZ.out _ HB0.out).mono ?_); rintro e w3 ⟨rfl, hb⟩; (have HB3 := Lib.hid (bl_step HB0.out hb); have HR3 := Lib.hid (HRS.out.later hb); have f0 := HR3.out.free 0; have f1 := HR3.out.free 1; have c0 := HR3.out.read (i := 0) rfl; have c1 := HR3.out.read (i := 1) rfl; clear hb))
              | (go_at_call 144; (with_reducible refine (HSZ.out _ HB3.out).mono ?_); rintro e w4 ⟨rfl, hb⟩; (have HB4 := Lib.hid (bl_step HB3.out hb); have HR4 := Lib.hid (HR3.out.later hb); clear f0 f1 c0 c1; have f0 := HR4.out.free 0; have f1 := HR4.out.free 1; have c0 := HR4.out.read (i := 0) rfl; have c1 := HR4.out.read (i := 1) rfl; clear hb)))
          have HRF := Lib.hid ((HR3.out.written 0 (.int .i64 fr)).written 1 (.int .i64 tq))
          refine bodyPost_ret (sto_two rfl _ _ w.heap.size 75 #[.int .i64 fr, .int .i64 tq] ds rfl HRF.out hds Try.infosp) rfl ?_
          exact ⟨by rw [HV.out]; rfl, ((HB3.out.setCell (p := ⟨w.heap.size, 0, none⟩) (Nat.le_refl _) _).setCell (p := ⟨w.heap.size, 1, none⟩) (Nat.le_refl _) _)⟩
end
end Go.Proofs.Ytdaipfmckonfpaa
