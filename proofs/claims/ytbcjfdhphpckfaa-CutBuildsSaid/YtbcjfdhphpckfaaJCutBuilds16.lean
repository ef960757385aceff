/-
  status: a status is read: what stands at the jump. status: a status is read: its bytes, or why they are none. status: a status is read: the walk. status: a status is written: its bytes, or why it has none. What status answers to fixed calls. status: a status as the document's. status: a status as the document's, walked.
-/
import Derived.Test.YtbcjfdhphpckfaaJCutBuilds15
import Derived.Test.YtbcjfdhphpckfaaJCutBuilds07
import Derived.BigRegion
import Derived.Test.YtbcjfdhphpckfaaJCutBuilds06
import Derived.Test.YtbcjfdhphpckfaaJCutBuilds14
namespace Go.Proofs.Ytbcjfdhphpckfaa
open Go.RowKit

theorem st_scope_through {P : Program} {a : Act} {w : World} {Q : Exit → Act → World → Prop} {c tail : Code} (l : Nat) (J : Act → World → Prop) (μ : Act → World → Nat) (hf : findLabel c l = some (.seq .skip tail))
    (first : (∀ a w, J a w → tail.wp P (Exit.jump l J Q) a w) → c.wp P (Exit.jump l J Q) a w)
    (pass : ∀ a w, J a w → tail.wp P (Exit.jump l (fun a' w' => J a' w' ∧ μ a' w' < μ a w) Q) a w) : (Code.scope c).wp P Q a w := by
  refine wp_scope_jumps l J μ hf (first fun a w h b k cs => ?_) (fun a w h => wp_seq (wp_skip (pass a w h)))
  obtain ⟨e, a', w', hq, harr⟩ := pass a w h b k cs
  refine ⟨e, a', w', ?_, harr⟩
  cases e <;> simp only [Exit.jump] at hq ⊢
  all_goals first | exact hq | exact ⟨hq.1, hq.2.1⟩
theorem srest_yes {p g : Nat} {bs : List Nat} {i : Nat} (w : World) (hr : RRep w p g bs i) (h : restOk bs i = true) :
    Calls Try.prog 239 #[.pointer (some ⟨p, 0, none⟩)] w fun e w' => ∃ g', e = .returned (.tuple #[.slice (some ⟨g', 0, none⟩) 0 0, .int .i64 0]) ∧ Only (fun k => k = p) w w' := by
  obtain ⟨h1, h2⟩ := restOk_iff.1 h
  refine (rest_ok w hr h2).mono ?_
  rintro e w' ⟨g', rfl, _, _, _, ho⟩
  exact ⟨g', by rw [h1, Nat.sub_self], ho⟩
def RestNo (w : World) (p : Nat) (e : Ending) (w' : World) : Prop := ∃ (A : Option Addr) (n : Nat) (er : Int), e = .returned (.tuple #[.slice A n n, .int .i64 er]) ∧ Only (fun k => k = p) w w' ∧ ((er = 0 ∧ 0 < n) ∨ er = 3)
theorem srest_no {p g : Nat} {bs : List Nat} {i : Nat} (w : World) (hr : RRep w p g bs i) (h : restOk bs i = false) :
    Calls Try.prog 239 #[.pointer (some ⟨p, 0, none⟩)] w (RestNo w p) := by
  have hi := hr.2.2.1
  rcases first_one (bitAt bs) (8 * up i - i) i with h1 | ⟨j, h1, h2, h3, h4⟩
  · have h' : ∀ k, i ≤ k → k < 8 * up i → bitAt bs k = false := fun k hk1 hk2 => h1 k hk1 (by omega)
    have hne : bs.length ≠ up i := fun e => by
      have := restOk_iff.2 ⟨e, h'⟩
      rw [h] at this
      cases this
    have hup : up i ≤ bs.length := by unfold up; omega
    refine (rest_ok w hr h').mono ?_
    rintro e w' ⟨g', rfl, _, _, _, ho⟩
    exact ⟨_, _, _, rfl, ho, .inl ⟨rfl, by omega⟩⟩
  · refine (rest_form w hr j h1 (by omega) h3 h4).mono ?_
    rintro e w' ⟨rfl, rfl⟩
    exact ⟨_, _, _, rfl, Only.refl _ _, .inr rfl⟩
theorem OwnM.keepR {B B' : Nat} {w w' : World} {v : Value} {L : List MissM} (h : OwnM B w v L) (k : KeepR B' w w') : OwnM B w' v L := by
  refine ⟨h.1, ?_⟩
  rcases h.2 with h0 | ⟨g, cap, cur, rfl, hb, hh, h1⟩
  · exact .inl h0
  · exact .inr ⟨g, cap, cur, rfl, hb, k.row hh (by decide), h1⟩
theorem OwnM.later {B : Nat} {w w' : World} {v : Value} {L : List MissM} (h : OwnM B w v L) (k : Below w.heap.size w w') : OwnM B w' v L := own_only h (.of_below k) (fun _ _ h => h)
/-- what stands at the jump -/
structure StL (w : World) (bs : List Nat) (p gb q : Nat) (ack : Int) (acc : List MissM) (mv : Value) (i : Nat) (w' : World) : Prop where
  rd : RRep w' p gb bs i
  res : Row w' w.heap.size 201 #[.int .i64 0, .slice none 0 0]
  box : Row w' q 201 #[.int .i64 ack, mv]
  own : OwnM (w.heap.size + 1) w' mv acc
  below : Below w.heap.size w w'
  above : w.heap.size + 1 ≤ p ∧ w.heap.size < q
section
variable {w w1 w2 : World} {bs : List Nat} {p gb q i j : Nat} {ack : Int} {acc : List MissM} {mv : Value}
theorem StL.keep (h : StL w bs p gb q ack acc mv i w1) (hr : RRep w2 p gb bs j) (k : KeepR (w.heap.size + 1) w1 w2) : StL w bs p gb q ack acc mv j w2 :=
  ⟨hr, k.row h.res (by decide), k.row h.box (by decide), h.own.keepR k, h.below.trans (k.1.mono (Nat.le_succ _)), h.above⟩
theorem StL.more (h : StL w bs p gb q ack acc mv i w1) (hb : Below w1.heap.size w1 w2) : StL w bs p gb q ack acc mv i w2 :=
  ⟨h.rd.later hb, h.res.later hb, h.box.later hb, h.own.later hb, bl_step h.below hb, h.above⟩
theorem StL.size (h : StL w bs p gb q ack acc mv i w1) : w.heap.size + 1 ≤ w1.heap.size := h.res.inside
/-- one miss more -/
theorem StL.next (h : StL w bs p gb q ack acc mv i w1) (m : MissM) (hl : acc.length ≤ 1000) :
    ∃ g c w3, (Builtin.append_ #[199, 199] 199 #[mv, .slice (some ⟨w1.heap.size, 0, none⟩) 1 1]).run Try.prog (w1.alloc (.cells #[.int .i64 m.sn, .bool m.part, .int .i64 m.fr, .int .i64 m.to] 311)) = .ok (.slice (some ⟨g, 0, none⟩) (acc.length + 1) c) w3 ∧
      w3.cell? ⟨q, 1, none⟩ = some mv ∧ w3.frozen? ⟨q, 1, none⟩ = false ∧
      StL w bs p gb q ack (acc ++ [m]) (.slice (some ⟨g, 0, none⟩) (acc.length + 1) c) i (w3.setCell ⟨q, 1, none⟩ (.slice (some ⟨g, 0, none⟩) (acc.length + 1) c)) := by
  obtain ⟨g, c, w3, h1, h2, h3⟩ := h.own.next h.size m hl
  have hne : ∀ k t cs, Row w1 k t cs → t ≠ 311 → ¬ mv.ownBlock = some k := fun k t cs hk ht => own_apart h.own hk (Ne.symm ht)
  have hb : Row w3 q 201 #[.int .i64 ack, mv] := h.box.only h3 (hne _ _ _ h.box (by decide))
  have hs : Row w3 w.heap.size 201 #[.int .i64 0, .slice none 0 0] := h.res.only h3 (hne _ _ _ h.res (by decide))
  have hr : RRep w3 p gb bs i := h.rd.only h3 (hne _ _ _ h.rd.1 (by decide)) (hne _ _ _ h.rd.2.1 (by decide))
  have hqr : p ≠ q := hr.1.apart hb (by decide)
  have hqg : gb ≠ q := hr.2.1.apart hb (by decide)
  refine ⟨g, c, w3, h1, hb.read rfl, hb.free _, ?_, ?_, ?_, ?_, ?_, h.above⟩
  · exact ⟨hr.1.elsewhere (p := ⟨q, 1, none⟩) hqr _, hr.2.1.elsewhere (p := ⟨q, 1, none⟩) hqg _, hr.2.2⟩
  · exact hs.elsewhere (p := ⟨q, 1, none⟩) (Nat.ne_of_lt h.above.2) _
  · exact hb.written 1 _
  · exact own_only h2 ((Only.refl (fun k => k = q) w3).set (p := ⟨q, 1, none⟩) (.inl rfl) _) (fun k hk hS => own_apart h2 hb (by decide) (by rw [hk]; exact congrArg some hS))
  · exact (h.below.trans (h3.below (Nat.le_of_succ_le h.size) (fun k hk hS => by have := (h.own.lt k hS).1; omega))).setCell (p := ⟨q, 1, none⟩) (Nat.le_of_lt h.above.2) _
end
theorem sclip_any {B : Nat} {W : World} {v : Value} {L : List MissM} (hown : OwnM B W v L) :
    Calls Try.prog 240 #[v] W fun e w' => (∃ A, e = .returned (.slice A L.length L.length) ∧ MSrc W A L) ∧ W = w' := by
  obtain ⟨A, c, rfl, hc, hcm⟩ := hown.form
  have HS := Lib.hid (OwnM.src hown)
  generalize hn : L.length = n at *
  have HN := Lib.hid hn
  clear hown hn
  cases A with
  | none =>
    go_enter Try.func240, Try.ntmps240
    go_wp2
    go_ret
    exact ⟨⟨_, rfl, HS.out⟩, rfl⟩
  | some ad =>
    go_enter Try.func240, Try.ntmps240
    go_wp2
    go_ret
    exact ⟨⟨_, rfl, HS.out⟩, rfl⟩
theorem Try.infostat : (Try.prog.info? 201).map (·.size) = some 2 := by kernel_rfl
theorem Try.understat : (Try.prog.underlying 201).map (fun d => match d with | .struct _ => true | _ => false) = some true := by kernel_rfl
theorem understat_parts : ∃ fs, Try.prog.underlying 201 = some (.struct fs) := by
  obtain ⟨d, hd, h⟩ := Option.map_eq_some_iff.1 Try.understat
  cases d with
  | struct fs => exact ⟨fs, hd⟩
  | _ => simp at h
theorem st_results_two {fn : Func} {p u : Tmp} {ty : TypeId} (h : fn.results = #[.cell p ty, .tmp u]) (tmps : Array Value) (w : World) (g : Nat) (t : TypeId) (cs : Array Value) (fs : Array Field)
    (hp : tmps.getD p undef = .pointer (some ⟨g, 0, none⟩)) (hg : Row w g t cs)
    (hu : Try.prog.underlying ty = some (.struct fs)) (hi : (Try.prog.info? ty).map (·.size) = some cs.size) :
    (results fn tmps).run Try.prog w = .ok (.tuple #[.agg cs, tmps.getD u undef]) w := by
  rw [results_cell_tmp h, hp]
  simp only [asAddr, Sem.run_pure, Result.andThen_ok, run_loadVar_row w g t ty cs (0, 0) (.struct fs) hg hu rfl hi]
end Go.Proofs.Ytbcjfdhphpckfaa
namespace Go.Proofs.Ytbcjfdhphpckfaa
open Go.RowKit

def stLen : Value → Nat
  | .slice _ n _ => n
  | _ => 0
def ptrBlk : Value → Nat
  | .pointer (some a) => a.block
  | _ => 0
def StRAns (w : World) (bs : List Nat) (x : Nat) (e : Ending) (w' : World) : Prop :=
  Below w.heap.size w w' ∧ ((stRd bs x).1 = 0 → ∃ A c, e = .returned (.tuple #[.agg #[.int .i64 (stRd bs x).2.1, .slice A (stRd bs x).2.2.length c], .int .i64 0]) ∧ (stRd bs x).2.2.length ≤ c ∧ c ≤ 9223372036854775807 ∧ MSrc w' A (stRd bs x).2.2) ∧
    ((stRd bs x).1 ≠ 0 → e = .returned (.tuple #[.agg #[.int .i64 0, .slice none 0 0], .int .i64 (stRd bs x).1]))
theorem st_bad {w w' : World} {bs : List Nat} {x : Nat} {c : Int} {e : Ending} {L : List MissM} {a : Int} (h : stRd bs x = (c, a, L)) (h0 : c ≠ 0) (hb : Below w.heap.size w w') (he : e = .returned (.tuple #[.agg #[.int .i64 0, .slice none 0 0], .int .i64 c])) : StRAns w bs x e w' :=
  ⟨hb, fun h1 => by rw [h] at h1; exact absurd h1 h0, fun _ => by rw [h]; exact he⟩
theorem cells2 {w : World} {g : Nat} {t : TypeId} {a b : Value} (hr : Row w g t #[a, b]) : (w.cell? ⟨g, 0, none⟩ = some a ∧ w.cell? ⟨g, 1, none⟩ = some b) ∧ (w.frozen? ⟨g, 0, none⟩ = false ∧ w.frozen? ⟨g, 1, none⟩ = false) :=
  ⟨⟨hr.read rfl, hr.read rfl⟩, hr.free _, hr.free _⟩
theorem row_set2 {w : World} {g : Nat} {t : TypeId} {a b a' b' : Value} (h : Row w g t #[a, b]) : Row ((w.setCell ⟨g, 0, none⟩ a').setCell ⟨g, 1, none⟩ b') g t #[a', b'] := (h.written 0 a').written 1 b'
theorem below_set2 {w w1 : World} (h : Below w.heap.size w w1) (a b : Value) : Below w.heap.size w ((w1.setCell ⟨w.heap.size, 0, none⟩ a).setCell ⟨w.heap.size, 1, none⟩ b) := (h.setCell (p := ⟨w.heap.size, 0, none⟩) (Nat.le_refl _) a).setCell (p := ⟨w.heap.size, 1, none⟩) (Nat.le_refl _) b
/-- the loop goes on with this -/
def LoopEq (bs : List Nat) (x : Nat) (acc : List MissM) (i : Nat) (more : Bool) : Prop := acc.length ≤ 32 ∧ (acc.length = 32 → more = false) ∧ rdAll bs x (32 - acc.length) acc i more = rdAll bs x 32 [] (0 + 4 + x + 1) (bitAt bs (0 + 4 + x))
section
variable {bs : List Nat} {x i j : Nat} {acc : List MissM} {m : MissM} {more : Bool}
theorem LoopEq.start (bs : List Nat) (x : Nat) : LoopEq bs x [] (0 + 4 + x + 1) (bitAt bs (0 + 4 + x)) := ⟨by simp, by simp, rfl⟩
theorem LoopEq.none (h : LoopEq bs x acc i true) (e : rdMiss bs x i = none) : rdAll bs x 32 [] (0 + 4 + x + 1) (bitAt bs (0 + 4 + x)) = (8, [], 0) := by
  obtain ⟨h1, h2, h3⟩ := h
  have h4 : acc.length ≠ 32 := fun h => by have := h2 h; cases this
  rw [show 32 - acc.length = (31 - acc.length) + 1 by omega, rdAll, e] at h3
  exact h3.symm
theorem LoopEq.long (h : LoopEq bs x acc i true) (e : rdMiss bs x i = some (m, true, j)) (hl : acc.length = 31) : rdAll bs x 32 [] (0 + 4 + x + 1) (bitAt bs (0 + 4 + x)) = (2, [], 0) := by
  obtain ⟨h1, h2, h3⟩ := h
  rw [show 32 - acc.length = 0 + 1 by omega, rdAll, e] at h3
  simpa using h3.symm
theorem LoopEq.form (h : LoopEq bs x acc i true) (e : rdMiss bs x i = some (m, more, j)) (hl : more = true → acc.length ≠ 31) (hp : placedB m x = false) : rdAll bs x 32 [] (0 + 4 + x + 1) (bitAt bs (0 + 4 + x)) = (3, [], 0) := by
  obtain ⟨h1, h2, h3⟩ := h
  have h4 : acc.length ≠ 32 := fun h => by have := h2 h; cases this
  have h5 : (more && (31 - acc.length == 0)) = false := by
    cases more
    · rfl
    · have := hl rfl
      simp
      omega
  rw [show 32 - acc.length = (31 - acc.length) + 1 by omega, rdAll, e] at h3
  simp only [h5, hp, Bool.false_eq_true, if_false] at h3
  exact h3.symm
theorem LoopEq.next (h : LoopEq bs x acc i true) (e : rdMiss bs x i = some (m, more, j)) (hl : more = true → acc.length ≠ 31) (hp : placedB m x = true) : LoopEq bs x (acc ++ [m]) j more := by
  obtain ⟨h1, h2, h3⟩ := h
  have h4 : acc.length ≠ 32 := fun h => by have := h2 h; cases this
  have h5 : (more && (31 - acc.length == 0)) = false := by
    cases more
    · rfl
    · have := hl rfl
      simp
      omega
  rw [show 32 - acc.length = (31 - acc.length) + 1 by omega, rdAll, e] at h3
  simp only [h5, hp, Bool.false_eq_true, if_false, if_true] at h3
  refine ⟨by simp; omega, fun h6 => ?_, ?_⟩
  · simp at h6
    cases more
    · rfl
    · exact absurd (by omega) (hl rfl)
  · rw [← h3, List.length_append, List.length_singleton, show 32 - (acc.length + 1) = 31 - acc.length by omega]
theorem LoopEq.done (h : LoopEq bs x acc i false) : rdAll bs x 32 [] (0 + 4 + x + 1) (bitAt bs (0 + 4 + x)) = (0, acc, i) := by
  rw [← h.2.2]
  cases (32 - acc.length) <;> rfl
end
/-- a code of an error, not of its loop -/
theorem stRd_fault {bs : List Nat} {x : Nat} (h : faultS bs x ≠ 0) : stRd bs x = (faultS bs x, 0, []) := by
  unfold faultS at h ⊢
  unfold stRd
  split
  · rfl
  · rename_i h1
    rw [if_neg h1] at h
    split
    · rfl
    · rename_i h2
      rw [if_neg h2] at h
      split
      · rfl
      · rename_i h3
        rw [if_neg h3] at h
        split
        · rfl
        · rename_i h4
          rw [if_neg h4] at h
          exact absurd rfl h
theorem stRd_short {bs : List Nat} {x : Nat} (h : faultS bs x = 0) (hs : 8 * bs.length < 0 + 4 + x + 1) : stRd bs x = (8, 0, []) := by
  unfold faultS at h
  unfold stRd
  repeat' split at h
  all_goals first | exact absurd h (by decide) | skip
  rename_i h1 h2 h3 h4
  rw [if_neg h1, if_neg h2, if_neg h3, if_neg h4, if_pos hs]
theorem stRd_all {bs : List Nat} {x : Nat} (h : faultS bs x = 0) (hs : ¬ 8 * bs.length < 0 + 4 + x + 1) {c : Int} {L : List MissM} {j : Nat} (e : rdAll bs x 32 [] (0 + 4 + x + 1) (bitAt bs (0 + 4 + x)) = (c, L, j)) :
    stRd bs x = if c = 0 then (if restOk bs j = true then (0, ((val (seg bs (0 + 4) x) : Nat) : Int), L) else (3, 0, [])) else (c, 0, []) := by
  unfold faultS at h
  unfold stRd
  repeat' split at h
  all_goals first | exact absurd h (by decide) | skip
  rename_i h1 h2 h3 h4
  rw [if_neg h1, if_neg h2, if_neg h3, if_neg h4, if_neg hs, e]
theorem st_src_later {w v : World} {A : Option Addr} {xs : List Value} (h : Src w A xs) (hb : Below w.heap.size w v) : Src v A xs := by
  intro h0
  obtain ⟨ad, e, hc⟩ := h h0
  exact ⟨ad, e, fun j u hu => cell_below hb (hc j u hu)⟩
set_option maxRecDepth 100000 in
set_option maxHeartbeats 3200000 in
theorem sread_fault {A : Option Addr} {bs : List Nat} (x n cap : Nat) (w : World) (hn : bs.length = n) (hs : Src w A (bts bs)) (hb : ∀ b ∈ bs, b < 256) (hf : faultS bs x ≠ 0) :
    Calls Try.prog 193 #[.slice A n cap, .int .i64 x] w (StRAns w bs x) := by
  have HE := Lib.hid (stRd_fault hf)
  have HNE := Lib.hid hf
  have HF := Lib.hid (sfault_any x n cap (w.alloc (.cells #[.int .i64 0, .slice none 0 0] 201)) hn (st_src_later hs (bl_alloc (Below.refl _ _) _)) hb)
  have hb0 : (faultS bs x != 0) = true := by simpa using hf
  have ROW := Lib.hid (Row.made w 201 #[.int .i64 0, .slice none 0 0])
  obtain ⟨⟨c0, c1⟩, f0, f1⟩ := cells2 ROW.out
  clear hf hs hb hn
  generalize faultS bs x = f at *
  go_enter Try.func193, Try.ntmps193
  go_wp2
  refine st_scope_through 0 (fun _ _ => False) (fun _ _ => 0) rfl (fun _ => ?_) (fun _ _ h => h.elim)
  go_wp2_with (go_at_call 235; (with_reducible refine HF.out.mono ?_); rintro e w1 ⟨rfl, rfl⟩)
  simp only [Exit.jump]
  obtain ⟨dd, hdd⟩ := understat_parts
  refine bodyPost_ret (st_results_two rfl _ _ w.heap.size 201 #[.int .i64 0, .slice none 0 0] dd rfl ROW.out hdd Try.infostat) rfl ?_
  exact st_bad HE.out HNE.out (bl_alloc (Below.refl _ _) _) rfl
end Go.Proofs.Ytbcjfdhphpckfaa
namespace Go.Proofs.Ytbcjfdhphpckfaa
open Go.RowKit

theorem fault_x {bs : List Nat} {x : Nat} (h : faultS bs x = 0) : (x = 10 ∨ x = 16) ∧ 0 < bs.length := by
  unfold faultS at h
  repeat' split at h
  all_goals first | exact absurd h (by decide) | skip
  rename_i h1 h2 h3 h4
  have := okS_nat (show okS (x : Int) = true by simpa using h1)
  omega
theorem OwnM.set {B g j : Nat} {w : World} {v : Value} {L : List MissM} {t : TypeId} {cs : Array Value} (h : OwnM B w v L) (hg : Row w g t cs) (ht : t ≠ 311) (x : Value) : OwnM B (w.setCell ⟨g, j, none⟩ x) v L :=
  own_only h ((Only.refl (fun k => k = g) w).set (p := ⟨g, j, none⟩) (.inl rfl) _) (fun k hk hS => own_apart h hg (Ne.symm ht) (by rw [hk]; exact congrArg some hS))
theorem sclip_same (A : Option Addr) (n c : Nat) (W : World) (hn : n ≤ c) (_ : c ≤ 9223372036854775807) :
    Calls Try.prog 240 #[.slice A n c] W fun e w' => e = .returned (.slice A n n) ∧ W = w' := by
  cases A with
  | none =>
    go_enter Try.func240, Try.ntmps240
    go_wp2
    go_ret
    exact ⟨rfl, rfl⟩
  | some ad =>
    go_enter Try.func240, Try.ntmps240
    go_wp2
    go_ret
    exact ⟨rfl, rfl⟩
theorem st_good {w w' : World} {bs : List Nat} {x : Nat} {e : Ending} {L : List MissM} {a : Int} {A : Option Addr} {c : Nat} (h : stRd bs x = (0, a, L)) (hb : Below w.heap.size w w') (he : e = .returned (.tuple #[.agg #[.int .i64 a, .slice A L.length c], .int .i64 0])) (h1 : L.length ≤ c) (h2 : c ≤ 9223372036854775807) (hs : MSrc w' A L) : StRAns w bs x e w' :=
  ⟨hb, fun _ => by rw [h]; exact ⟨A, c, he, h1, h2, hs⟩, fun h0 => by rw [h] at h0; exact absurd rfl h0⟩
def StJ (w : World) (A : Option Addr) (n cap : Nat) (bs : List Nat) (x : Nat) (a' : Act) (w' : World) : Prop := ∃ (p gb q i : Nat) (acc : List MissM) (mv : Value) (more : Bool), Fr [some (.slice A n cap), some (.int .i64 x), none, none, some (.pointer (some ⟨w.heap.size, 0, none⟩)), some (.int .i64 0), none, some (.pointer (some ⟨p, 0, none⟩)), none, none, some (.pointer (some ⟨q, 0, none⟩)), some (.bool more), none, none, none, none, none, none, none, none, none, none, none, none, none, none, none, none, none, none, none, none, none, none, none, none, none, none, none, none, none, none, none, none, none, none, none, none, none, none, none, none, none, none, none, none, none, none, none, none, none, none, none, none, none, none, none, none, none, none, none, none, none, none, none, none, none, none, none, none, none, none, none, none, none, none, none, none, none, none, none, none, none, none, none, none, none, none] a' ∧ Hid (StL w bs p gb q ((val (seg bs (0 + 4) x) : Nat) : Int) acc mv i w') ∧ Hid (LoopEq bs x acc i more) ∧ Hid (0 + 4 + x + 1 ≤ 8 * bs.length)
def StMu (a' : Act) (w' : World) : Nat := 40 - stLen ((w'.cell? ⟨ptrBlk (a'.tmps.getD 10 undef), 1, none⟩).getD undef)
set_option maxRecDepth 100000 in
set_option maxHeartbeats 12800000 in
theorem sread_walk {A : Option Addr} {bs : List Nat} (x n cap : Nat) (w : World) (hn : bs.length = n) (hm : n ≤ 8192) (hc : n ≤ cap) (hs : Src w A (bts bs)) (hb : ∀ b ∈ bs, b < 256) (hf : faultS bs x = 0) :
    Calls Try.prog 193 #[.slice A n cap, .int .i64 x] w (StRAns w bs x) := by
  obtain ⟨hx, hpos⟩ := fault_x hf
  have hF := sfault_any x n cap (w.alloc (.cells #[.int .i64 0, .slice none 0 0] 201)) hn (st_src_later hs (bl_alloc (Below.refl _ _) _)) hb
  rw [hf] at hF
  have HF := Lib.hid hF
  have hRD := read_any A cap bs (w.alloc (.cells #[.int .i64 0, .slice none 0 0] 201)) (by omega) (by omega) (st_src_later hs (bl_alloc (Below.refl _ _) _)) hb
  rw [hn] at hRD
  have HRD := Lib.hid hRD
  have HFZ := Lib.hid hf
  have HN := Lib.hid hn
  have HX := Lib.hid hx
  have hx16 : x ≤ 16 := by omega
  have ROW := Lib.hid (Row.made w 201 #[.int .i64 0, .slice none 0 0])
  have HSZ := Lib.hid (size_1 w (.cells #[.int .i64 0, .slice none 0 0] 201))
  clear hF hRD hf hs hb hn hx
  go_enter Try.func193, Try.ntmps193
  go_wp2
  refine st_scope_through 0 (fun a' w' => StJ w A n cap bs x a' w') (fun a' w' => StMu a' w') rfl ?_ ?_
  · intro hrest
    by_cases hsh : 8 * bs.length < 0 + 4 + x + 1
    · have HE := Lib.hid (stRd_short HFZ.out hsh)
      go_wp2_with (first
        | (go_at_call 235; (with_reducible refine HF.out.mono ?_); rintro e w1 ⟨rfl, rfl⟩)
        | (go_at_call 229; (with_reducible refine HRD.out.mono ?_); rintro e w2 ⟨p, gb, rfl, hp, hgb, hr2, hb2⟩; rw [HSZ.out] at hp; (have HB2 := Lib.hid (bl_step (bl_alloc (Below.refl w.heap.size w) _) hb2); have ROW2 := Lib.hid (ROW.out.later hb2); have HS2 := Lib.hid (StR.start (B := w.heap.size + 1) hr2 hp); have HG := Lib.hid ((HS2.out.more (bl_alloc (Below.refl _ _) (.cells #[.int .i64 4, .int .i64 x, .int .i64 1] 3))).get_no (g := w2.heap.size) (n := 3) (cap := 3) (W := [4, x, 1]) (row_at2 w2 _ 3 _ rfl) rfl (by omega) (by intro y hy; simp at hy; omega) (by simp; omega)); clear hr2 hb2 hgb))
        | (go_at_call 236; (with_reducible refine HG.out.mono ?_); rintro e w3 ⟨rfl, hk3⟩; (have HK3 := Lib.hid hk3; have ROW3 := Lib.hid (hk3.row ROW2.out (by decide)); clear hk3; obtain ⟨⟨c0, c1⟩, f0, f1⟩ := cells2 ROW3.out)))
      simp only [Exit.jump]
      obtain ⟨dd, hdd⟩ := understat_parts
      refine bodyPost_ret (st_results_two rfl _ _ w.heap.size 201 #[.int .i64 0, .slice none 0 0] dd rfl (row_set2 ROW3.out) hdd Try.infostat) rfl ?_
      exact st_bad HE.out (by decide) (below_set2 (HB2.out.trans (HK3.out.1.mono (Nat.le_succ _))) _ _) rfl
    · have hsg : segs bs 0 [4, x, 1] = [val (seg bs 0 4), val (seg bs (0 + 4) x), (bitAt bs (0 + 4 + x)).toNat] := by
        simp only [segs]
        rw [val_one (i := 0 + 4 + x) (by omega)]
      have hsum : 0 + [4, x, 1].sum = 0 + 4 + x + 1 := by simp; omega
      have HSG := Lib.hid hsg
      have HSUM := Lib.hid hsum
      have HLE := Lib.hid (LoopEq.start bs x)
      have HFIT := Lib.hid (show 0 + 4 + x + 1 ≤ 8 * bs.length by omega)
      clear hsg hsum
      generalize hmo0 : bitAt bs (0 + 4 + x) = more at *
      generalize hak0 : val (seg bs (0 + 4) x) = ack at *
      have hmo := Lib.hid hmo0
      have hak := Lib.hid hak0
      clear hmo0 hak0
      have hbi := bit_is more
      go_wp2_with (first
        | (go_at_call 235; (with_reducible refine HF.out.mono ?_); rintro e w1 ⟨rfl, rfl⟩)
        | (go_at_call 229; (with_reducible refine HRD.out.mono ?_); rintro e w2 ⟨p, gb, rfl, hp, hgb, hr2, hb2⟩; rw [HSZ.out] at hp; (have HB2 := Lib.hid (bl_step (bl_alloc (Below.refl w.heap.size w) _) hb2); have ROW2 := Lib.hid (ROW.out.later hb2); have HS2 := Lib.hid (StR.start (B := w.heap.size + 1) hr2 hp); have hg0 := ((HS2.out.more (bl_alloc (Below.refl _ _) (.cells #[.int .i64 4, .int .i64 x, .int .i64 1] 3))).get (g := w2.heap.size) (n := 3) (cap := 3) (W := [4, x, 1]) (row_at2 w2 _ 3 _ rfl) rfl (by omega) (by intro y hy; simp at hy; omega) (by simp; omega)); rw [HSG.out, HSUM.out] at hg0; have HG := Lib.hid hg0; clear hr2 hb2 hgb hg0))
        | (go_at_call 236; (with_reducible refine HG.out.mono ?_); rintro e w3 ⟨g3, rfl, hrow3, hg3, hs3⟩; (have HS3 := Lib.hid hs3; have HROW3 := Lib.hid hrow3; have ROW3 := Lib.hid (hs3.2.1.row ROW2.out (by decide)); clear hrow3 hg3 hs3)))
      have d1 := HROW3.out.drawn.read (i := 1) (x := .int .i64 ack) rfl
      have d2 := HROW3.out.drawn.read (i := 2) (x := .int .i64 more.toNat) rfl
      go_region_held3 (fun w' => w'.cell? ⟨g3, 1, none⟩ = some (.int .i64 ack) ∧ w'.cell? ⟨g3, 2, none⟩ = some (.int .i64 more.toNat)) (first | assumption | exact ⟨d1, d2⟩ | exact ⟨cell_more _ d1, cell_more _ d2⟩ | go_keep) (fail)
      go_wp2
      go_step3
      rename_i Q9 K9 h9
      refine h9 _ _ (hrest _ _ ⟨p, gb, w3.heap.size, 0 + 4 + x + 1, [], .slice none 0 0, more, ?_, Lib.hid ?_, HLE, HFIT⟩)
      · simp only [Fr, Holes]
        repeat apply Exists.intro
        rfl
      · have hw := ROW3.out.inside
        rw [hak.out]
        exact ⟨HS3.out.1.later (bl_drew (bl_alloc (Below.refl _ _) _)), (ROW3.out.more _).drawn, (Row.made w3 _ _).drawn, OwnM.nil _ _, ((HB2.out.trans (HS3.out.2.1.1.mono (Nat.le_succ _))).alloc (Nat.le_of_lt hw) _).drew, hp, hw⟩
  · rintro a' w' ⟨p, gb, q, i, acc, mv, more, hfr, HST, HLE, HFIT⟩
    simp only [Fr, Holes] at hfr
    repeat (obtain ⟨_, hfr⟩ := hfr)
    have hpA := HST.out.above.1
    obtain ⟨⟨z0, z1⟩, y0, y1⟩ := cells2 HST.out.res
    obtain ⟨⟨b0, b1⟩, v0, v1⟩ := cells2 HST.out.box
    have HNF := Lib.hid (show ¬ 8 * bs.length < 0 + 4 + x + 1 by have := HFIT.out; omega)
    clear HF HRD
    cases more
    · have HD := Lib.hid HLE.out.done
      have HALL := Lib.hid (stRd_all HFZ.out HNF.out HD.out)
      obtain ⟨Am, cm, rfl, hcm1, hcm2⟩ := HST.out.own.form
      cases hro : restOk bs i
      · have HR := Lib.hid (srest_no w' HST.out.rd hro)
        have HE := Lib.hid (show stRd bs x = (3, 0, []) by rw [HALL.out, if_pos rfl, hro]; rfl)
        clear hro
        go_wp2_with (go_at_call 239; (with_reducible refine HR.out.mono ?_); rintro e w1 ⟨Ar, nr, er, rfl, ho1, hcase⟩; (have HK1 := Lib.hid (got_keep (B := w.heap.size + 1) HST.out.rd hpA ho1); clear ho1; have RS1 := Lib.hid (HK1.out.row HST.out.res (by decide)); obtain ⟨⟨s0, s1⟩, t0, t1⟩ := cells2 RS1.out; rcases hcase with ⟨rfl, hn0⟩ | rfl))
        · have hn1 : decide (0 < nr) = true := by simpa using hn0
          go_wp2
          simp only [Exit.jump]
          obtain ⟨dd, hdd⟩ := understat_parts
          refine bodyPost_ret (st_results_two rfl _ _ w.heap.size 201 #[.int .i64 0, .slice none 0 0] dd rfl (row_set2 RS1.out) hdd Try.infostat) rfl ?_
          exact st_bad HE.out (by decide) (below_set2 (HST.out.below.trans (HK1.out.1.mono (Nat.le_succ _))) _ _) rfl
        · go_wp2
          simp only [Exit.jump]
          obtain ⟨dd, hdd⟩ := understat_parts
          refine bodyPost_ret (st_results_two rfl _ _ w.heap.size 201 #[.int .i64 0, .slice none 0 0] dd rfl (row_set2 RS1.out) hdd Try.infostat) rfl ?_
          exact st_bad HE.out (by decide) (below_set2 (HST.out.below.trans (HK1.out.1.mono (Nat.le_succ _))) _ _) rfl
      · have HR := Lib.hid (srest_yes w' HST.out.rd hro)
        have HE := Lib.hid (show stRd bs x = (0, ((val (seg bs (0 + 4) x) : Nat) : Int), acc) by rw [HALL.out, if_pos rfl, hro]; rfl)
        have HCL := Lib.hid (fun W => sclip_same Am acc.length cm W hcm1 hcm2)
        have HAL := Lib.hid (show acc.length ≤ 32 from HLE.out.1)
        clear hro
        generalize hal0 : acc.length = al at *
        have hal := Lib.hid hal0
        clear hal0
        generalize val (seg bs (0 + 4) x) = ack at *
        go_wp2_with (first
          | (go_at_call 239; (with_reducible refine HR.out.mono ?_); rintro e w1 ⟨gr, rfl, ho1⟩; (have HK1 := Lib.hid (got_keep (B := w.heap.size + 1) HST.out.rd hpA ho1); clear ho1; have RS1 := Lib.hid (HK1.out.row HST.out.res (by decide)); have RB1 := Lib.hid (HK1.out.row HST.out.box (by decide)); obtain ⟨⟨s0, s1⟩, t0, t1⟩ := cells2 RS1.out; obtain ⟨⟨q0, q1⟩, r0, r1⟩ := cells2 RB1.out))
          | (go_at_call 240; (with_reducible refine (HCL.out _).mono ?_); rintro e wx ⟨rfl, rfl⟩; (have RS2 := Lib.hid (RS1.out.elsewhere (p := ⟨q, 1, none⟩) (Nat.ne_of_lt HST.out.above.2) (.slice Am al al)); have RB2 := Lib.hid (RB1.out.written 1 (.slice Am al al)); obtain ⟨⟨S0, S1⟩, T0, T1⟩ := cells2 RS2.out; obtain ⟨⟨Q0, Q1⟩, -⟩ := cells2 RB2.out)))
        simp only [Exit.jump]
        obtain ⟨dd, hdd⟩ := understat_parts
        have OW := (((HST.out.own.keepR HK1.out).set (j := 1) RB1.out (by decide) (.slice Am al al)).set (j := 0) RS2.out (by decide) (.int .i64 ack)).set (j := 1) (RS2.out.written 0 _) (by decide) (.slice Am al al)
        refine bodyPost_ret (st_results_two rfl _ _ w.heap.size 201 #[.int .i64 ack, .slice Am al al] dd rfl (row_set2 RS2.out) hdd Try.infostat) rfl ?_
        exact st_good (A := Am) (c := al) HE.out (below_set2 ((HST.out.below.trans (HK1.out.1.mono (Nat.le_succ _))).setCell (p := ⟨q, 1, none⟩) (Nat.le_of_lt HST.out.above.2) _) _ _) (by rw [hal.out]; rfl) (Nat.le_of_eq hal.out) (by have := HAL.out; omega) (OwnM.src OW)
    · have HMS := Lib.hid (smiss_any (B := w.heap.size + 1) x w' HST.out.rd hpA hx16)
      cases hrd : rdMiss bs x i with
      | none =>
        have HE := Lib.hid (show stRd bs x = (8, 0, []) by rw [stRd_all HFZ.out HNF.out (HLE.out.none hrd)]; rfl)
        have HMN := Lib.hid (HMS.out.mono (R' := fun e w2 => e = .returned (.tuple #[.agg #[.int .i64 0, .bool false, .int .i64 0, .int .i64 0], .bool false, .int .i64 8]) ∧ KeepR (w.heap.size + 1) w' w2) fun _ _ h => ⟨h.2.1 hrd, h.2.2⟩)
        clear hrd HMS
        go_wp2_with (go_at_call 237; (with_reducible refine HMN.out.mono ?_); rintro e w1 ⟨rfl, hk1⟩; (have HK1 := Lib.hid hk1; clear hk1; have RS1 := Lib.hid ((HK1.out.row HST.out.res (by decide)).more (.cells #[.int .i64 0, .bool false, .int .i64 0, .int .i64 0] 311)); obtain ⟨⟨s0, s1⟩, t0, t1⟩ := cells2 RS1.out))
        simp only [Exit.jump]
        obtain ⟨dd, hdd⟩ := understat_parts
        refine bodyPost_ret (st_results_two rfl _ _ w.heap.size 201 #[.int .i64 0, .slice none 0 0] dd rfl (row_set2 RS1.out) hdd Try.infostat) rfl ?_
        exact st_bad HE.out (by decide) (below_set2 (bl_alloc (HST.out.below.trans (HK1.out.1.mono (Nat.le_succ _))) _) _ _) rfl
      | some y =>
        obtain ⟨m, follows, j⟩ := y
        have HMN := Lib.hid (HMS.out.mono (R' := fun e w2 => e = .returned (.tuple #[.agg #[.int .i64 m.sn, .bool m.part, .int .i64 m.fr, .int .i64 m.to], .bool follows, .int .i64 0]) ∧ RRep w2 p gb bs j ∧ KeepR (w.heap.size + 1) w' w2) fun _ _ h => ⟨(h.1 _ _ _ hrd).1, (h.1 _ _ _ hrd).2, h.2.2⟩)
        obtain ⟨Am, cm, rfl, hcm1, hcm2⟩ := HST.out.own.form
        have HPL := Lib.hid (fun W => splaced_any m x W)
        unfold MissM.v at HPL
        have hal32 : acc.length ≤ 32 := HLE.out.1
        clear HMS
        by_cases hlong : follows = true ∧ acc.length = 31
        · obtain ⟨rfl, h31⟩ := hlong
          have HE := Lib.hid (show stRd bs x = (2, 0, []) by rw [stRd_all HFZ.out HNF.out (HLE.out.long hrd h31)]; rfl)
          have h31a : (acc.length == 31) = true := by simpa using h31
          have h31b : ((acc.length : Int) == 31) = true := by simp; omega
          clear hrd h31
          go_wp2_with (go_at_call 237; (with_reducible refine HMN.out.mono ?_); rintro e w1 ⟨rfl, hr1, hk1⟩; (have HST1 := Lib.hid (HST.out.keep hr1 hk1); clear hr1 hk1; have HST2 := Lib.hid (HST1.out.more (bl_alloc (Below.refl _ _) (.cells #[.int .i64 m.sn, .bool m.part, .int .i64 m.fr, .int .i64 m.to] 311))); have RM2 := Lib.hid (Row.made w1 311 #[.int .i64 m.sn, .bool m.part, .int .i64 m.fr, .int .i64 m.to]); obtain ⟨⟨s0, s1⟩, t0, t1⟩ := cells2 HST2.out.res; obtain ⟨⟨q0, q1⟩, r0, r1⟩ := cells2 HST2.out.box; obtain ⟨⟨m0, m1, m2, m3⟩, -⟩ := cells4 RM2.out))
          simp only [Exit.jump]
          obtain ⟨dd, hdd⟩ := understat_parts
          refine bodyPost_ret (st_results_two rfl _ _ w.heap.size 201 #[.int .i64 0, .slice none 0 0] dd rfl (row_set2 HST2.out.res) hdd Try.infostat) rfl ?_
          exact st_bad HE.out (by decide) (below_set2 HST2.out.below _ _) rfl
        · cases hpl : placedB m x
          · have HE := Lib.hid (show stRd bs x = (3, 0, []) by rw [stRd_all HFZ.out HNF.out (HLE.out.form hrd (fun h h2 => hlong ⟨h, h2⟩) hpl)]; rfl)
            rw [hpl] at HPL
            have h31 : follows = true → acc.length ≠ 31 := fun h h2 => hlong ⟨h, h2⟩
            clear hrd hlong hpl
            cases follows
            · clear h31
              go_wp2_with (first
                | (go_at_call 237; (with_reducible refine HMN.out.mono ?_); rintro e w1 ⟨rfl, hr1, hk1⟩; (have HST1 := Lib.hid (HST.out.keep hr1 hk1); clear hr1 hk1; have HST2 := Lib.hid (HST1.out.more (bl_alloc (Below.refl _ _) (.cells #[.int .i64 m.sn, .bool m.part, .int .i64 m.fr, .int .i64 m.to] 311))); have RM2 := Lib.hid (Row.made w1 311 #[.int .i64 m.sn, .bool m.part, .int .i64 m.fr, .int .i64 m.to]); obtain ⟨⟨s0, s1⟩, t0, t1⟩ := cells2 HST2.out.res; obtain ⟨⟨q0, q1⟩, r0, r1⟩ := cells2 HST2.out.box; obtain ⟨⟨m0, m1, m2, m3⟩, -⟩ := cells4 RM2.out))
                | (go_at_call 238; (with_reducible refine (HPL.out _).mono ?_); rintro e w3 ⟨rfl, hb3⟩; (have HST3 := Lib.hid (HST2.out.more hb3); clear hb3 s0 s1 t0 t1; obtain ⟨⟨s0, s1⟩, t0, t1⟩ := cells2 HST3.out.res)))
              simp only [Exit.jump]
              obtain ⟨dd, hdd⟩ := understat_parts
              refine bodyPost_ret (st_results_two rfl _ _ w.heap.size 201 #[.int .i64 0, .slice none 0 0] dd rfl (row_set2 HST3.out.res) hdd Try.infostat) rfl ?_
              exact st_bad HE.out (by decide) (below_set2 HST3.out.below _ _) rfl
            · have h31 := h31 rfl
              have h31a : (acc.length == 31) = false := by simpa using h31
              have h31b : ((acc.length : Int) == 31) = false := by simp; omega
              clear h31
              go_wp2_with (first
                | (go_at_call 237; (with_reducible refine HMN.out.mono ?_); rintro e w1 ⟨rfl, hr1, hk1⟩; (have HST1 := Lib.hid (HST.out.keep hr1 hk1); clear hr1 hk1; have HST2 := Lib.hid (HST1.out.more (bl_alloc (Below.refl _ _) (.cells #[.int .i64 m.sn, .bool m.part, .int .i64 m.fr, .int .i64 m.to] 311))); have RM2 := Lib.hid (Row.made w1 311 #[.int .i64 m.sn, .bool m.part, .int .i64 m.fr, .int .i64 m.to]); obtain ⟨⟨s0, s1⟩, t0, t1⟩ := cells2 HST2.out.res; obtain ⟨⟨q0, q1⟩, r0, r1⟩ := cells2 HST2.out.box; obtain ⟨⟨m0, m1, m2, m3⟩, -⟩ := cells4 RM2.out))
                | (go_at_call 238; (with_reducible refine (HPL.out _).mono ?_); rintro e w3 ⟨rfl, hb3⟩; (have HST3 := Lib.hid (HST2.out.more hb3); clear hb3 s0 s1 t0 t1; obtain ⟨⟨s0, s1⟩, t0, t1⟩ := cells2 HST3.out.res)))
              simp only [Exit.jump]
              obtain ⟨dd, hdd⟩ := understat_parts
              refine bodyPost_ret (st_results_two rfl _ _ w.heap.size 201 #[.int .i64 0, .slice none 0 0] dd rfl (row_set2 HST3.out.res) hdd Try.infostat) rfl ?_
              exact st_bad HE.out (by decide) (below_set2 HST3.out.below _ _) rfl
          · have HLN := Lib.hid (HLE.out.next hrd (fun h h2 => hlong ⟨h, h2⟩) hpl)
            rw [hpl] at HPL
            have h31 : follows = true → acc.length ≠ 31 := fun h h2 => hlong ⟨h, h2⟩
            have hal31 : acc.length ≤ 31 := by
              have h := HLN.out.1
              simp at h
              omega
            clear hrd hlong hpl
            cases follows
            · clear h31
              go_wp2_with (first
                | (go_at_call 237; (with_reducible refine HMN.out.mono ?_); rintro e w1 ⟨rfl, hr1, hk1⟩; (have HST1 := Lib.hid (HST.out.keep hr1 hk1); clear hr1 hk1; have HST2 := Lib.hid (HST1.out.more (bl_alloc (Below.refl _ _) (.cells #[.int .i64 m.sn, .bool m.part, .int .i64 m.fr, .int .i64 m.to] 311))); have RM2 := Lib.hid (Row.made w1 311 #[.int .i64 m.sn, .bool m.part, .int .i64 m.fr, .int .i64 m.to]); obtain ⟨⟨s0, s1⟩, t0, t1⟩ := cells2 HST2.out.res; obtain ⟨⟨q0, q1⟩, r0, r1⟩ := cells2 HST2.out.box; obtain ⟨⟨m0, m1, m2, m3⟩, -⟩ := cells4 RM2.out))
                | (go_at_call 238; (with_reducible refine (HPL.out _).mono ?_); rintro e w3 ⟨rfl, hb3⟩; (have HST3 := Lib.hid (HST2.out.more hb3); have RM3 := Lib.hid (RM2.out.later hb3); clear hb3 s0 s1 t0 t1 q0 q1 r0 r1 m0 m1 m2 m3; obtain ⟨⟨q0, q1⟩, r0, r1⟩ := cells2 HST3.out.box; obtain ⟨⟨m0, m1, m2, m3⟩, -⟩ := cells4 RM3.out; obtain ⟨g5, c5, w5, hrun, hcq, hfq, hst5⟩ := HST3.out.next m (by omega); have HST5 := Lib.hid hst5; clear hst5))
                | (at_builtin; refine wpList_run rfl (.tmp 74) (.tmp 76) 199 rfl (.slice Am acc.length cm) (.slice (some ⟨w3.heap.size, 0, none⟩) 1 1) (by rfl) (by rfl) hrun ?_))
              go_step3
              refine ⟨rfl, ⟨p, gb, q, j, acc ++ [m], _, _, ?_, HST5, HLN, HFIT⟩, ?_⟩
              · simp only [Fr, Holes]
                repeat apply Exists.intro
                rfl
              · have h5 := HST5.out.box.read (i := 1) rfl
                have h0 := HST.out.box.read (i := 1) rfl
                unfold StMu
                simp only [Array.getD_eq_getD_getElem?]
                simp [ptrBlk, h5, h0, stLen]
                omega
            · have h31 := h31 rfl
              have h31a : (acc.length == 31) = false := by simpa using h31
              have h31b : ((acc.length : Int) == 31) = false := by simp; omega
              clear h31
              go_wp2_with (first
                | (go_at_call 237; (with_reducible refine HMN.out.mono ?_); rintro e w1 ⟨rfl, hr1, hk1⟩; (have HST1 := Lib.hid (HST.out.keep hr1 hk1); clear hr1 hk1; have HST2 := Lib.hid (HST1.out.more (bl_alloc (Below.refl _ _) (.cells #[.int .i64 m.sn, .bool m.part, .int .i64 m.fr, .int .i64 m.to] 311))); have RM2 := Lib.hid (Row.made w1 311 #[.int .i64 m.sn, .bool m.part, .int .i64 m.fr, .int .i64 m.to]); obtain ⟨⟨s0, s1⟩, t0, t1⟩ := cells2 HST2.out.res; obtain ⟨⟨q0, q1⟩, r0, r1⟩ := cells2 HST2.out.box; obtain ⟨⟨m0, m1, m2, m3⟩, -⟩ := cells4 RM2.out))
                | (go_at_call 238; (with_reducible refine (HPL.out _).mono ?_); rintro e w3 ⟨rfl, hb3⟩; (have HST3 := Lib.hid (HST2.out.more hb3); have RM3 := Lib.hid (RM2.out.later hb3); clear hb3 s0 s1 t0 t1 q0 q1 r0 r1 m0 m1 m2 m3; obtain ⟨⟨q0, q1⟩, r0, r1⟩ := cells2 HST3.out.box; obtain ⟨⟨m0, m1, m2, m3⟩, -⟩ := cells4 RM3.out; obtain ⟨g5, c5, w5, hrun, hcq, hfq, hst5⟩ := HST3.out.next m (by omega); have HST5 := Lib.hid hst5; clear hst5))
                | (at_builtin; refine wpList_run rfl (.tmp 74) (.tmp 76) 199 rfl (.slice Am acc.length cm) (.slice (some ⟨w3.heap.size, 0, none⟩) 1 1) (by rfl) (by rfl) hrun ?_))
              go_step3
              refine ⟨rfl, ⟨p, gb, q, j, acc ++ [m], _, _, ?_, HST5, HLN, HFIT⟩, ?_⟩
              · simp only [Fr, Holes]
                repeat apply Exists.intro
                rfl
              · have h5 := HST5.out.box.read (i := 1) rfl
                have h0 := HST.out.box.read (i := 1) rfl
                unfold StMu
                simp only [Array.getD_eq_getD_getElem?]
                simp [ptrBlk, h5, h0, stLen]
                omega
end Go.Proofs.Ytbcjfdhphpckfaa
namespace Go.Proofs.Ytbcjfdhphpckfaa
open Go.RowKit

def StWAns (w : World) (ack : Int) (L : List MissM) (x : Nat) (e : Ending) (w' : World) : Prop :=
  ∃ g, e = .returned (.tuple #[.slice (some ⟨g, 0, none⟩) (stBytes ack L x).length (stBytes ack L x).length, .int .i64 0]) ∧ w.heap.size ≤ g ∧ Row w' g 5 (bts (stBytes ack L x)).toArray ∧ Below w.heap.size w w'
theorem StW.below {B p : Nat} {w0 w : World} {kp : List (Nat × Nat)} (h : StW B w0 p kp w) : Below B w0 w := h.2.1.1
theorem StW.len_le {ack : Int} {L : List MissM} {x : Nat} (h : rightB ack L x = true) {kp r : List (Nat × Nat)} (e : statusP ack L x = kp ++ r) : (bitsP kp).length ≤ 2000 := by
  have h1 := len_statusP ack L x
  obtain ⟨hx, hok, _, hl, _⟩ := rightB_parts h
  have h2 := (bitsS_bd hok L).2
  rw [e, bitsP_append, List.length_append] at h1
  omega
theorem byt_stw {B p n : Nat} {w0 w : World} {kp : List (Nat × Nat)} (h : StW B w0 p kp w) (ht : (bitsP kp).length ≤ 60000) (hn : (pack (bitsP kp)).length = n) :
    Calls Try.prog 201 #[.pointer (some ⟨p, 0, none⟩)] w fun e w' => ∃ g, e = .returned (.slice (some ⟨g, 0, none⟩) n n) ∧ w.heap.size ≤ g ∧ Row w' g 5 (bts (pack (bitsP kp))).toArray ∧ Below w.heap.size w w' := by
  obtain ⟨⟨sv, hr⟩, _⟩ := h
  have h1 := bytes_any hr (by omega)
  rw [← length_pack, hn] at h1
  exact h1
end Go.Proofs.Ytbcjfdhphpckfaa
namespace Go.Proofs.Ytbcjfdhphpckfaa
open Go.RowKit

theorem sread_any {A : Option Addr} {bs : List Nat} (x n cap : Nat) (w : World) (hn : bs.length = n) (hm : n ≤ 8192) (hc : n ≤ cap) (hs : Src w A (bts bs)) (hb : ∀ b ∈ bs, b < 256) :
    Calls Try.prog 193 #[.slice A n cap, .int .i64 x] w (StRAns w bs x) := by
  by_cases hf : faultS bs x = 0
  · exact sread_walk x n cap w hn hm hc hs hb hf
  · exact sread_fault x n cap w hn hs hb hf
theorem msrc_of {W : World} {g : Nat} {L : List MissM} {cs : Array Value} (h : Row W g 311 cs) (e : cs = (mcells L).toArray) : MSrc W (some ⟨g, 0, none⟩) L := by
  subst e
  intro _
  refine ⟨g, 0, rfl, fun k m hm => ?_⟩
  obtain ⟨a, b, c, d⟩ := mcells_at hm
  rw [Nat.zero_add]
  exact ⟨h.read (by simpa using a), h.read (by simpa using b), h.read (by simpa using c), h.read (by simpa using d)⟩
def L2 : List MissM := [⟨3, true, 2, 0⟩, ⟨7, false, 0, 0⟩]
theorem right2 : rightB ((9 : Nat) : Int) L2 ((16 : Nat) : Int) = true := by decide +kernel
theorem sal3 {W : World} {g : Nat} (h : Row W g 5 (bts (stBytes 9 L2 16)).toArray) :
    Calls Try.prog 193 #[.slice (some ⟨g, 0, none⟩) (stBytes 9 L2 16).length (stBytes 9 L2 16).length, .int .i64 16] W fun e w' => ∃ b o c, e = .returned (.tuple #[.agg #[.int .i64 9, .slice (some ⟨b, o, none⟩) 2 c], .int .i64 0]) ∧ w'.cell? ⟨b, o, none⟩ = some (.int .i64 3) ∧ w'.cell? ⟨b, o + 1, none⟩ = some (.bool true) ∧ w'.cell? ⟨b, o + 2, none⟩ = some (.int .i64 2) ∧ w'.cell? ⟨b, o + 3, none⟩ = some (.int .i64 0) ∧ Below W.heap.size W w' := by
  have hl := st_len right2
  have hb : statusF ((9 : Nat) : Int) L2 ((16 : Nat) : Int) = 12 := by decide +kernel
  rw [hb] at hl
  refine (sread_any (bs := stBytes 9 L2 16) 16 _ _ W rfl (by have : ((stBytes 9 L2 16).length : Int) = 12 := hl; omega) (Nat.le_refl _) (row_src h) (pack_small _)).mono ?_
  rintro e w' ⟨h1, h2, _⟩
  have hk : stRd (stBytes 9 L2 16) 16 = (0, 9, L2) := st_back right2
  rw [hk] at h2
  obtain ⟨A, c, rfl, _, _, hs⟩ := h2 rfl
  obtain ⟨b, o, rfl, hc⟩ := hs (by decide)
  obtain ⟨c0, c1, c2, c3⟩ := hc 0 _ rfl
  simp only [Nat.zero_mul, Nat.add_zero] at c0 c1 c2 c3
  exact ⟨b, o, c, rfl, c0, c1, c2, c3, h1⟩
theorem sal4 {W : World} {g : Nat} (h : Row W g 5 #[.int .u8 128]) :
    Calls Try.prog 193 #[.slice (some ⟨g, 0, none⟩) 1 1, .int .i64 10] W fun e w' => e = .returned (.tuple #[.agg #[.int .i64 0, .slice none 0 0], .int .i64 4]) ∧ Below W.heap.size W w' := by
  refine (sread_any (bs := [128]) 10 1 1 W rfl (by omega) (by omega) (row_src (xs := bts [128]) h) (by decide)).mono ?_
  rintro e w' ⟨h1, _, h2⟩
  have hk : stRd [128] 10 = (4, 0, []) := by kernel_rfl
  rw [hk] at h2
  exact ⟨h2 (by decide), h1⟩
end Go.Proofs.Ytbcjfdhphpckfaa
namespace Go.Proofs.Ytbcjfdhphpckfaa
open Go.RowKit

end Go.Proofs.Ytbcjfdhphpckfaa
namespace Go.Proofs.Ytbcjfdhphpckfaa
open Go.RowKit

end Go.Proofs.Ytbcjfdhphpckfaa
