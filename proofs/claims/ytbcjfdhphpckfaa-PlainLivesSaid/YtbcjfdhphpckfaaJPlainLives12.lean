/-
  status: one miss is read, whatever the bits. status: a list of misses of a call's own, while it grows. status: a status is read: what stands at the jump. status: a status is read: its bytes, or why they are none.
-/
import Derived.Test.YtbcjfdhphpckfaaJPlainLives11
import Derived.Laws.ResultCell
import Derived.Test.YtbcjfdhphpckfaaJPlainLives06
import Derived.BigRegion
namespace Go.Proofs.Ytbcjfdhphpckfaa
open Go.RowKit

set_option maxRecDepth 100000 in
set_option maxHeartbeats 3200000 in
theorem smiss_cut {B p gb i : Nat} {bs : List Nat} (x : Nat) (w : World) (hr : RRep w p gb bs i) (hp : B ≤ p) (hx : x ≤ 16) (hf : i + x + 1 + 1 ≤ 8 * bs.length) (hf2 : 8 * bs.length < i + x + 1 + 1 + pbN x + pbN x) (hpt : bitAt bs (i + x + 1) = true) :
    Calls Try.prog 237 #[.pointer (some ⟨p, 0, none⟩), .int .i64 x] w fun e w' => e = .returned (.tuple #[.agg #[.int .i64 0, .bool false, .int .i64 0, .int .i64 0], .bool false, .int .i64 8]) ∧ KeepR B w w' := by
  have ROW := Lib.hid (Row.made w 311 #[.int .i64 0, .bool false, .int .i64 0, .int .i64 0])
  have HSZ := Lib.hid (show (w.alloc (.cells #[.int .i64 0, .bool false, .int .i64 0, .int .i64 0] 311)).heap.size = w.heap.size + 1 by simp)
  have HBL := Lib.hid (show B ≤ w.heap.size by have := hr.1.inside; omega)
  have HK0 := Lib.hid ((KeepR.refl B w).alloc HBL.out (.cells #[.int .i64 0, .bool false, .int .i64 0, .int .i64 0] 311))
  have ST0 := Lib.hid (StR.start (B := B) (hr.later (bl_alloc (Below.refl _ _) (.cells #[.int .i64 0, .bool false, .int .i64 0, .int .i64 0] 311))) hp)
  have hsg : segs bs i [x, 1, 1] = [val (seg bs i x), (bitAt bs (i + x)).toNat, (bitAt bs (i + x + 1)).toNat] := by
    simp only [segs]
    rw [val_one (by omega), val_one (by omega)]
  rw [hpt] at hsg
  have hG := (ST0.out.more (bl_alloc (Below.refl _ _) (.cells #[.int .i64 x, .int .i64 1, .int .i64 1] 3))).get (g := w.heap.size + 1) (n := 3) (cap := 3) (W := [x, 1, 1]) (row_at2 _ _ 3 _ HSZ.out) rfl (by omega) (by intro y hy; simp at hy; omega) (by simp; omega)
  rw [hsg, show i + [x, 1, 1].sum = i + x + 1 + 1 by simp; omega] at hG
  have HG := Lib.hid hG
  have HG2 := Lib.hid (fun W (hst : StR B W p gb bs (i + x + 1 + 1) W) => (hst.more (bl_alloc (Below.refl _ _) (.cells #[.int .i64 (pbN x : Nat), .int .i64 (pbN x : Nat)] 3))).get_no (g := W.heap.size) (n := 2) (cap := 2) (W := [pbN x, pbN x]) (row_at2 _ _ 3 #[.int .i64 (pbN x : Nat), .int .i64 (pbN x : Nat)] rfl) rfl (by omega) (by have := pbN_bd x; intro y hy; simp at hy; omega) (by simp; omega))
  have HPB := Lib.hid (fun W => splace_any x W)
  rw [pbN_cast] at HPB
  generalize pbN x = pb at *
  generalize val (seg bs i x) = sn at *
  generalize bitAt bs (i + x) = more at *
  have hbi := bit_is more
  clear hr hf hf2 hsg hpt hG
  go_enter Try.func237, Try.ntmps237
  go_wp2_with (go_at_call 236; (with_reducible refine HG.out.mono ?_); rintro e w1 ⟨g1, rfl, hrow1, hg1, hs1⟩; (have KP := Lib.hid (HK0.out.trans hs1.2.1); have ST1 := Lib.hid hs1; have ROW1 := Lib.hid (hs1.2.1.row ROW.out (by decide)); have ROWH := Lib.hid hrow1; clear hs1 hg1 hrow1))
  have d0 := ROWH.out.drawn.read (i := 0) (x := .int .i64 sn) rfl
  have d2 := ROWH.out.drawn.read (i := 2) (x := .int .i64 1) rfl
  go_region_held3 (fun w' => w'.cell? ⟨g1, 0, none⟩ = some (.int .i64 sn) ∧ w'.cell? ⟨g1, 2, none⟩ = some (.int .i64 1)) (first | assumption | exact ⟨d0, d2⟩ | exact ⟨cell_more _ d0, cell_more _ d2⟩ | go_keep) (fail)
  have HROWM := Lib.hid (show Row (w1.alloc (.cells #[.int .i64 sn, .bool true, .int .i64 0, .int .i64 0] 311)).drew w1.heap.size 311 #[.int .i64 sn, .bool true, .int .i64 0, .int .i64 0] from (Row.made w1 _ _).drawn)
  have HROWR := Lib.hid (show Row (w1.alloc (.cells #[.int .i64 sn, .bool true, .int .i64 0, .int .i64 0] 311)).drew w.heap.size 311 #[.int .i64 0, .bool false, .int .i64 0, .int .i64 0] from (ROW1.out.more _).drawn)
  have HROWH := Lib.hid (show Row (w1.alloc (.cells #[.int .i64 sn, .bool true, .int .i64 0, .int .i64 0] 311)).drew g1 3 (intsR [sn, more.toNat, 1]).toArray from (ROWH.out.more _).drawn)
  have HRR := Lib.hid (show StR B (w.alloc (.cells #[.int .i64 0, .bool false, .int .i64 0, .int .i64 0] 311)) p gb bs (i + x + 1 + 1) (w1.alloc (.cells #[.int .i64 sn, .bool true, .int .i64 0, .int .i64 0] 311)).drew from ST1.out.more (bl_drew (bl_alloc (Below.refl _ _) _)))
  have hne : w.heap.size < w1.heap.size := ROW1.out.inside
  have hqA := ST1.out.2.1.2.1
  rw [HSZ.out] at hqA
  clear d0 d2
  generalize w1.heap.size = q at *
  generalize (w1.alloc (.cells #[.int .i64 sn, .bool true, .int .i64 0, .int .i64 0] 311)).drew = W2 at *
  have e1 := HROWM.out.read (i := 1) (x := .bool true) rfl
  have HC2 := Lib.hid (HG2.out W2 (StR.start HRR.out.1 hp))
  go_wp2_with (first
    | (go_at_call 268; (with_reducible refine (HPB.out _).mono ?_); rintro e vx ⟨rfl, rfl⟩)
    | (go_at_call 236; (with_reducible refine HC2.out.mono ?_); rintro e w5 ⟨rfl, hk5⟩; (have HK5 := Lib.hid hk5; have HR5 := Lib.hid (hk5.row HROWR.out (by decide)); clear hk5; clear e1; obtain ⟨⟨c0, c1, c2, c3⟩, f0, f1, f2, f3⟩ := cells4 HR5.out)))
  obtain ⟨dd, hdd⟩ := undermiss_parts
  refine bodyPost_ret (st_results_three rfl _ _ w.heap.size 311 #[.int .i64 0, .bool false, .int .i64 0, .int .i64 0] dd rfl (row_set4 HR5.out) hdd Try.infomiss) rfl ?_
  exact ⟨rfl, ((HK0.out.trans HRR.out.2.1).trans HK5.out).set4 HBL.out (Nat.le_refl _) _ _ _ _⟩
def MissOk (B : Nat) (w : World) (p gb : Nat) (bs : List Nat) (x i : Nat) (e : Ending) (w' : World) : Prop :=
  (∀ m more j, rdMiss bs x i = some (m, more, j) → e = .returned (.tuple #[m.v, .bool more, .int .i64 0]) ∧ RRep w' p gb bs j) ∧ (rdMiss bs x i = none → e = .returned (.tuple #[.agg #[.int .i64 0, .bool false, .int .i64 0, .int .i64 0], .bool false, .int .i64 8])) ∧ KeepR B w w'
theorem smiss_any {B p gb i : Nat} {bs : List Nat} (x : Nat) (w : World) (hr : RRep w p gb bs i) (hp : B ≤ p) (hx : x ≤ 16) :
    Calls Try.prog 237 #[.pointer (some ⟨p, 0, none⟩), .int .i64 x] w (MissOk B w p gb bs x i) := by
  by_cases h1 : 8 * bs.length < i + x + 1 + 1
  · have e : rdMiss bs x i = none := by unfold rdMiss; rw [if_pos h1]
    exact (smiss_short x w hr hp hx h1).mono fun _ _ h => ⟨(fun m more j hj => by rw [e] at hj; cases hj), fun _ => h.1, h.2⟩
  · cases hpt : bitAt bs (i + x + 1)
    · have e : rdMiss bs x i = some (⟨((val (seg bs i x) : Nat) : Int), false, 0, 0⟩, bitAt bs (i + x), i + x + 1 + 1) := by unfold rdMiss; rw [if_neg h1, hpt]; rfl
      refine (smiss_whole x w hr hp hx (by omega) hpt).mono fun _ _ h => ⟨fun m more j hj => ?_, (fun hn => by rw [e] at hn; cases hn), h.2.2⟩
      rw [e] at hj
      injection hj with hj
      injection hj with j1 hj
      injection hj with j2 j3
      subst j1 j2 j3
      exact ⟨h.1, h.2.1⟩
    · by_cases h2 : 8 * bs.length < i + x + 1 + 1 + pbN x + pbN x
      · have e : rdMiss bs x i = none := by unfold rdMiss; rw [if_neg h1, if_pos hpt, if_pos h2]
        exact (smiss_cut x w hr hp hx (by omega) h2 hpt).mono fun _ _ h => ⟨(fun m more j hj => by rw [e] at hj; cases hj), fun _ => h.1, h.2⟩
      · have e : rdMiss bs x i = some (⟨((val (seg bs i x) : Nat) : Int), true, ((val (seg bs (i + x + 1 + 1) (pbN x)) : Nat) : Int), endF ((val (seg bs (i + x + 1 + 1 + pbN x) (pbN x)) : Nat) : Int) x⟩, bitAt bs (i + x), i + x + 1 + 1 + pbN x + pbN x) := by unfold rdMiss; rw [if_neg h1, if_pos hpt, if_neg h2]
        refine (smiss_part x w hr hp hx (by omega) hpt).mono fun _ _ h => ⟨fun m more j hj => ?_, (fun hn => by rw [e] at hn; cases hn), h.2.2⟩
        rw [e] at hj
        injection hj with hj
        injection hj with j1 hj
        injection hj with j2 j3
        subst j1 j2 j3
        exact ⟨h.1, h.2.1⟩
end Go.Proofs.Ytbcjfdhphpckfaa
namespace Go.Proofs.Ytbcjfdhphpckfaa
open Go.RowKit

theorem Try.infomiss2 : (Try.prog.info? 311).map (fun i => (i.zero, i.size, i.bytes)) = some (some (.agg #[.int .i64 0, .bool false, .int .i64 0, .int .i64 0]), 4, 32) := by kernel_rfl
def mcells (L : List MissM) : List Value := L.flatMap fun m => [.int .i64 m.sn, .bool m.part, .int .i64 m.fr, .int .i64 m.to]
theorem mcells_cons (m : MissM) (t : List MissM) : mcells (m :: t) = .int .i64 m.sn :: .bool m.part :: .int .i64 m.fr :: .int .i64 m.to :: mcells t := rfl
theorem mcells_append (a b : List MissM) : mcells (a ++ b) = mcells a ++ mcells b := by simp [mcells]
theorem len_mcells (L : List MissM) : (mcells L).length = L.length * 4 := by
  induction L with
  | nil => rfl
  | cons m t ih => rw [mcells_cons]; simp [ih]; omega
theorem mcells_at {L : List MissM} {k : Nat} {m : MissM} (h : L[k]? = some m) : (mcells L)[k * 4]? = some (.int .i64 m.sn) ∧ (mcells L)[k * 4 + 1]? = some (.bool m.part) ∧ (mcells L)[k * 4 + 2]? = some (.int .i64 m.fr) ∧ (mcells L)[k * 4 + 3]? = some (.int .i64 m.to) := by
  induction L generalizing k with
  | nil => simp at h
  | cons z r ih =>
    cases k with
    | zero => simp at h; subst h; exact ⟨rfl, rfl, rfl, rfl⟩
    | succ k =>
      have h2 := ih (k := k) (by simpa using h)
      rw [mcells_cons, show (k + 1) * 4 = k * 4 + 1 + 1 + 1 + 1 by omega]
      simpa using h2
def OwnM (B : Nat) (w : World) (v : Value) (L : List MissM) : Prop := w.ownsRow B 311 4 v L.length (mcells L)
theorem OwnM.nil (B : Nat) (w : World) : OwnM B w (.slice none 0 0) [] := World.ownsRow_nil _ _ _ _
theorem OwnM.form {B : Nat} {w : World} {v : Value} {L : List MissM} (h : OwnM B w v L) : ∃ A c, v = .slice A L.length c ∧ L.length ≤ c ∧ c ≤ 9223372036854775807 := by
  rcases h.2 with ⟨rfl, h0⟩ | ⟨g, cap, cur, rfl, _, _, h1, h2, _⟩
  · exact ⟨none, 0, by rw [h0], by omega, by omega⟩
  · exact ⟨_, cap, rfl, h1, by unfold maxLen at h2; omega⟩
theorem OwnM.src {B : Nat} {w : World} {A : Option Addr} {n c : Nat} {L : List MissM} (h : OwnM B w (.slice A n c) L) : MSrc w A L := by
  intro h0
  obtain ⟨g, cap', hv, _, _⟩ := World.ownsRow.form h h0
  injection hv with hA _ _
  subst hA
  have hc := World.ownsRow.cells h (g := g) rfl
  refine ⟨g, 0, rfl, fun k m hm => ?_⟩
  obtain ⟨a, b, c, d⟩ := mcells_at hm
  have q := fun j u hu => hc j u hu
  refine ⟨?_, ?_, ?_, ?_⟩
  · have := q _ _ a; rw [add_zero_addr] at this; rw [Nat.zero_add]; exact this
  · have := q _ _ b; rw [add_zero_addr] at this; rw [Nat.zero_add]; exact this
  · have := q _ _ c; rw [add_zero_addr] at this; rw [Nat.zero_add]; exact this
  · have := q _ _ d; rw [add_zero_addr] at this; rw [Nat.zero_add]; exact this
theorem OwnM.next {B : Nat} {w : World} {v : Value} {L : List MissM} (h : OwnM B w v L) (hB : B ≤ w.heap.size) (m : MissM) (hl : L.length ≤ 1000) :
    ∃ g c w3, (Builtin.append_ #[199, 199] 199 #[v, .slice (some ⟨w.heap.size, 0, none⟩) 1 1]).run Try.prog (w.alloc (.cells #[.int .i64 m.sn, .bool m.part, .int .i64 m.fr, .int .i64 m.to] 311)) = .ok (.slice (some ⟨g, 0, none⟩) (L.length + 1) c) w3 ∧
      OwnM B w3 (.slice (some ⟨g, 0, none⟩) (L.length + 1) c) (L ++ [m]) ∧ Only (fun k => v.ownBlock = some k) w w3 := by
  obtain ⟨i0, hi, hi0, hi1, hi2⟩ := info_parts Try.infomiss2
  obtain ⟨g, cap, w3, hr3, h2, h3, _, _⟩ := run_append_lies (P := Try.prog) (w.alloc (.cells #[.int .i64 m.sn, .bool m.part, .int .i64 m.fr, .int .i64 m.to] 311)) 199 199 B 311 i0 _ 4 32 Try.underlying199 hi hi0 hi1 hi2 rfl (by omega) v L.length _ (World.ownsRow.alloc h _) ⟨w.heap.size, 0, none⟩ 1 1 [.int .i64 m.sn, .bool m.part, .int .i64 m.fr, .int .i64 m.to] rfl
    (World.news_of_block (cs := #[.int .i64 m.sn, .bool m.part, .int .i64 m.fr, .int .i64 m.to]) (heap_alloc_new w _)) (by intro u hu; simp at hu; rcases hu with rfl | rfl | rfl | rfl <;> rfl) (by omega) (by unfold maxLen; omega) (by omega) (by simp; omega) _ rfl
  refine ⟨g, cap, w3, hr3, ?_, ((Only.refl (fun k => v.ownBlock = some k) w).alloc (.cells #[.int .i64 m.sn, .bool m.part, .int .i64 m.fr, .int .i64 m.to] 311)).grown h3 (fun k hk => .inl hk)⟩
  unfold OwnM
  rw [List.length_append, mcells_append]
  exact h2
end Go.Proofs.Ytbcjfdhphpckfaa
namespace Go.Proofs.Ytbcjfdhphpckfaa
open Go.RowKit

theorem st_scope_through {P : Program} {a : Act} {w : World} {Q : Exit → Act → World → Prop} {c tail : Code} (l : Nat) (J : Act → World → Prop) (μ : Act → World → Nat) (hf : findLabel c l = some (.seq .skip tail))
    (first : (∀ a w, J a w → tail.wp P (Exit.jump l J Q) a w) → c.wp P (Exit.jump l J Q) a w)
    (pass : ∀ a w, J a w → tail.wp P (Exit.jump l (fun a' w' => J a' w' ∧ μ a' w' < μ a w) Q) a w) : (Code.scope c).wp P Q a w := by
  refine wp_scope_jumps l J μ hf (first fun a w h b k cs => ?_) (fun a w h => wp_seq (wp_skip (pass a w h)))
  obtain ⟨e, a', w', hq, harr⟩ := pass a w h b k cs
  refine ⟨e, a', w', ?_, harr⟩
  cases e <;> simp only [Exit.jump] at hq ⊢
  all_goals first | exact hq | exact ⟨hq.1, hq.2.1⟩
theorem srest_yes {p g : Nat} {bs : List Nat} {i : Nat} (w : World) (hr : RRep w p g bs i) (h : restOk bs i = true) :
    Calls Try.prog 239 #[.pointer (some ⟨p, 0, none⟩)] w fun e w' => ∃ g', e = .returned (.tuple #[.slice (some ⟨g', 0, none⟩) 0 0, .int .i64 0]) ∧ Only (fun k => k = p) w w' := by
  obtain ⟨h1, h2⟩ := restOk_iff.1 h
  refine (rest_ok w hr h2).mono ?_
  rintro e w' ⟨g', rfl, _, _, _, ho⟩
  exact ⟨g', by rw [h1, Nat.sub_self], ho⟩
def RestNo (w : World) (p : Nat) (e : Ending) (w' : World) : Prop := ∃ (A : Option Addr) (n : Nat) (er : Int), e = .returned (.tuple #[.slice A n n, .int .i64 er]) ∧ Only (fun k => k = p) w w' ∧ ((er = 0 ∧ 0 < n) ∨ er = 3)
theorem srest_no {p g : Nat} {bs : List Nat} {i : Nat} (w : World) (hr : RRep w p g bs i) (h : restOk bs i = false) :
    Calls Try.prog 239 #[.pointer (some ⟨p, 0, none⟩)] w (RestNo w p) := by
  have hi := hr.2.2.1
  rcases first_one (bitAt bs) (8 * up i - i) i with h1 | ⟨j, h1, h2, h3, h4⟩
  · have h' : ∀ k, i ≤ k → k < 8 * up i → bitAt bs k = false := fun k hk1 hk2 => h1 k hk1 (by omega)
    have hne : bs.length ≠ up i := fun e => by
      have := restOk_iff.2 ⟨e, h'⟩
      rw [h] at this
      cases this
    have hup : up i ≤ bs.length := by unfold up; omega
    refine (rest_ok w hr h').mono ?_
    rintro e w' ⟨g', rfl, _, _, _, ho⟩
    exact ⟨_, _, _, rfl, ho, .inl ⟨rfl, by omega⟩⟩
  · refine (rest_form w hr j h1 (by omega) h3 h4).mono ?_
    rintro e w' ⟨rfl, rfl⟩
    exact ⟨_, _, _, rfl, Only.refl _ _, .inr rfl⟩
theorem OwnM.keepR {B B' : Nat} {w w' : World} {v : Value} {L : List MissM} (h : OwnM B w v L) (k : KeepR B' w w') : OwnM B w' v L := by
  refine ⟨h.1, ?_⟩
  rcases h.2 with h0 | ⟨g, cap, cur, rfl, hb, hh, h1⟩
  · exact .inl h0
  · exact .inr ⟨g, cap, cur, rfl, hb, k.row hh (by decide), h1⟩
theorem OwnM.later {B : Nat} {w w' : World} {v : Value} {L : List MissM} (h : OwnM B w v L) (k : Below w.heap.size w w') : OwnM B w' v L := own_only h (.of_below k) (fun _ _ h => h)
/-- what stands at the jump -/
structure StL (w : World) (bs : List Nat) (p gb q : Nat) (ack : Int) (acc : List MissM) (mv : Value) (i : Nat) (w' : World) : Prop where
  rd : RRep w' p gb bs i
  res : Row w' w.heap.size 201 #[.int .i64 0, .slice none 0 0]
  box : Row w' q 201 #[.int .i64 ack, mv]
  own : OwnM (w.heap.size + 1) w' mv acc
  below : Below w.heap.size w w'
  above : w.heap.size + 1 ≤ p ∧ w.heap.size < q
section
variable {w w1 w2 : World} {bs : List Nat} {p gb q i j : Nat} {ack : Int} {acc : List MissM} {mv : Value}
theorem StL.keep (h : StL w bs p gb q ack acc mv i w1) (hr : RRep w2 p gb bs j) (k : KeepR (w.heap.size + 1) w1 w2) : StL w bs p gb q ack acc mv j w2 :=
  ⟨hr, k.row h.res (by decide), k.row h.box (by decide), h.own.keepR k, h.below.trans (k.1.mono (Nat.le_succ _)), h.above⟩
theorem StL.more (h : StL w bs p gb q ack acc mv i w1) (hb : Below w1.heap.size w1 w2) : StL w bs p gb q ack acc mv i w2 :=
  ⟨h.rd.later hb, h.res.later hb, h.box.later hb, h.own.later hb, bl_step h.below hb, h.above⟩
theorem StL.size (h : StL w bs p gb q ack acc mv i w1) : w.heap.size + 1 ≤ w1.heap.size := h.res.inside
/-- one miss more -/
theorem StL.next (h : StL w bs p gb q ack acc mv i w1) (m : MissM) (hl : acc.length ≤ 1000) :
    ∃ g c w3, (Builtin.append_ #[199, 199] 199 #[mv, .slice (some ⟨w1.heap.size, 0, none⟩) 1 1]).run Try.prog (w1.alloc (.cells #[.int .i64 m.sn, .bool m.part, .int .i64 m.fr, .int .i64 m.to] 311)) = .ok (.slice (some ⟨g, 0, none⟩) (acc.length + 1) c) w3 ∧
      w3.cell? ⟨q, 1, none⟩ = some mv ∧ w3.frozen? ⟨q, 1, none⟩ = false ∧
      StL w bs p gb q ack (acc ++ [m]) (.slice (some ⟨g, 0, none⟩) (acc.length + 1) c) i (w3.setCell ⟨q, 1, none⟩ (.slice (some ⟨g, 0, none⟩) (acc.length + 1) c)) := by
  obtain ⟨g, c, w3, h1, h2, h3⟩ := h.own.next h.size m hl
  have hne : ∀ k t cs, Row w1 k t cs → t ≠ 311 → ¬ mv.ownBlock = some k := fun k t cs hk ht => own_apart h.own hk (Ne.symm ht)
  have hb : Row w3 q 201 #[.int .i64 ack, mv] := h.box.only h3 (hne _ _ _ h.box (by decide))
  have hs : Row w3 w.heap.size 201 #[.int .i64 0, .slice none 0 0] := h.res.only h3 (hne _ _ _ h.res (by decide))
  have hr : RRep w3 p gb bs i := h.rd.only h3 (hne _ _ _ h.rd.1 (by decide)) (hne _ _ _ h.rd.2.1 (by decide))
  have hqr : p ≠ q := hr.1.apart hb (by decide)
  have hqg : gb ≠ q := hr.2.1.apart hb (by decide)
  refine ⟨g, c, w3, h1, hb.read rfl, hb.free _, ?_, ?_, ?_, ?_, ?_, h.above⟩
  · exact ⟨hr.1.elsewhere (p := ⟨q, 1, none⟩) hqr _, hr.2.1.elsewhere (p := ⟨q, 1, none⟩) hqg _, hr.2.2⟩
  · exact hs.elsewhere (p := ⟨q, 1, none⟩) (Nat.ne_of_lt h.above.2) _
  · exact hb.written 1 _
  · exact own_only h2 ((Only.refl (fun k => k = q) w3).set (p := ⟨q, 1, none⟩) (.inl rfl) _) (fun k hk hS => own_apart h2 hb (by decide) (by rw [hk]; exact congrArg some hS))
  · exact (h.below.trans (h3.below (Nat.le_of_succ_le h.size) (fun k hk hS => by have := (h.own.lt k hS).1; omega))).setCell (p := ⟨q, 1, none⟩) (Nat.le_of_lt h.above.2) _
end
theorem sclip_any {B : Nat} {W : World} {v : Value} {L : List MissM} (hown : OwnM B W v L) :
    Calls Try.prog 240 #[v] W fun e w' => (∃ A, e = .returned (.slice A L.length L.length) ∧ MSrc W A L) ∧ W = w' := by
  obtain ⟨A, c, rfl, hc, hcm⟩ := hown.form
  have HS := Lib.hid (OwnM.src hown)
  generalize hn : L.length = n at *
  have HN := Lib.hid hn
  clear hown hn
  cases A with
  | none =>
    go_enter Try.func240, Try.ntmps240
    go_wp2
    go_ret
    exact ⟨⟨_, rfl, HS.out⟩, rfl⟩
  | some ad =>
    go_enter Try.func240, Try.ntmps240
    go_wp2
    go_ret
    exact ⟨⟨_, rfl, HS.out⟩, rfl⟩
theorem Try.infostat : (Try.prog.info? 201).map (·.size) = some 2 := by kernel_rfl
theorem Try.understat : (Try.prog.underlying 201).map (fun d => match d with | .struct _ => true | _ => false) = some true := by kernel_rfl
theorem understat_parts : ∃ fs, Try.prog.underlying 201 = some (.struct fs) := by
  obtain ⟨d, hd, h⟩ := Option.map_eq_some_iff.1 Try.understat
  cases d with
  | struct fs => exact ⟨fs, hd⟩
  | _ => simp at h
theorem st_results_two {fn : Func} {p u : Tmp} {ty : TypeId} (h : fn.results = #[.cell p ty, .tmp u]) (tmps : Array Value) (w : World) (g : Nat) (t : TypeId) (cs : Array Value) (fs : Array Field)
    (hp : tmps.getD p undef = .pointer (some ⟨g, 0, none⟩)) (hg : Row w g t cs)
    (hu : Try.prog.underlying ty = some (.struct fs)) (hi : (Try.prog.info? ty).map (·.size) = some cs.size) :
    (results fn tmps).run Try.prog w = .ok (.tuple #[.agg cs, tmps.getD u undef]) w := by
  rw [results_cell_tmp h, hp]
  simp only [asAddr, Sem.run_pure, Result.andThen_ok, run_loadVar_row w g t ty cs (0, 0) (.struct fs) hg hu rfl hi]
end Go.Proofs.Ytbcjfdhphpckfaa
namespace Go.Proofs.Ytbcjfdhphpckfaa
open Go.RowKit

def stLen : Value → Nat
  | .slice _ n _ => n
  | _ => 0
def ptrBlk : Value → Nat
  | .pointer (some a) => a.block
  | _ => 0
def StRAns (w : World) (bs : List Nat) (x : Nat) (e : Ending) (w' : World) : Prop :=
  Below w.heap.size w w' ∧ ((stRd bs x).1 = 0 → ∃ A c, e = .returned (.tuple #[.agg #[.int .i64 (stRd bs x).2.1, .slice A (stRd bs x).2.2.length c], .int .i64 0]) ∧ (stRd bs x).2.2.length ≤ c ∧ c ≤ 9223372036854775807 ∧ MSrc w' A (stRd bs x).2.2) ∧
    ((stRd bs x).1 ≠ 0 → e = .returned (.tuple #[.agg #[.int .i64 0, .slice none 0 0], .int .i64 (stRd bs x).1]))
theorem st_bad {w w' : World} {bs : List Nat} {x : Nat} {c : Int} {e : Ending} {L : List MissM} {a : Int} (h : stRd bs x = (c, a, L)) (h0 : c ≠ 0) (hb : Below w.heap.size w w') (he : e = .returned (.tuple #[.agg #[.int .i64 0, .slice none 0 0], .int .i64 c])) : StRAns w bs x e w' :=
  ⟨hb, fun h1 => by rw [h] at h1; exact absurd h1 h0, fun _ => by rw [h]; exact he⟩
theorem cells2 {w : World} {g : Nat} {t : TypeId} {a b : Value} (hr : Row w g t #[a, b]) : (w.cell? ⟨g, 0, none⟩ = some a ∧ w.cell? ⟨g, 1, none⟩ = some b) ∧ (w.frozen? ⟨g, 0, none⟩ = false ∧ w.frozen? ⟨g, 1, none⟩ = false) :=
  ⟨⟨hr.read rfl, hr.read rfl⟩, hr.free _, hr.free _⟩
theorem row_set2 {w : World} {g : Nat} {t : TypeId} {a b a' b' : Value} (h : Row w g t #[a, b]) : Row ((w.setCell ⟨g, 0, none⟩ a').setCell ⟨g, 1, none⟩ b') g t #[a', b'] := (h.written 0 a').written 1 b'
theorem below_set2 {w w1 : World} (h : Below w.heap.size w w1) (a b : Value) : Below w.heap.size w ((w1.setCell ⟨w.heap.size, 0, none⟩ a).setCell ⟨w.heap.size, 1, none⟩ b) := (h.setCell (p := ⟨w.heap.size, 0, none⟩) (Nat.le_refl _) a).setCell (p := ⟨w.heap.size, 1, none⟩) (Nat.le_refl _) b
/-- the loop goes on with this -/
def LoopEq (bs : List Nat) (x : Nat) (acc : List MissM) (i : Nat) (more : Bool) : Prop := acc.length ≤ 32 ∧ (acc.length = 32 → more = false) ∧ rdAll bs x (32 - acc.length) acc i more = rdAll bs x 32 [] (0 + 4 + x + 1) (bitAt bs (0 + 4 + x))
section
variable {bs : List Nat} {x i j : Nat} {acc : List MissM} {m : MissM} {more : Bool}
theorem LoopEq.start (bs : List Nat) (x : Nat) : LoopEq bs x [] (0 + 4 + x + 1) (bitAt bs (0 + 4 + x)) := ⟨by simp, by simp, rfl⟩
theorem LoopEq.none (h : LoopEq bs x acc i true) (e : rdMiss bs x i = none) : rdAll bs x 32 [] (0 + 4 + x + 1) (bitAt bs (0 + 4 + x)) = (8, [], 0) := by
  obtain ⟨h1, h2, h3⟩ := h
  have h4 : acc.length ≠ 32 := fun h => by have := h2 h; cases this
  rw [show 32 - acc.length = (31 - acc.length) + 1 by omega, rdAll, e] at h3
  exact h3.symm
theorem LoopEq.long (h : LoopEq bs x acc i true) (e : rdMiss bs x i = some (m, true, j)) (hl : acc.length = 31) : rdAll bs x 32 [] (0 + 4 + x + 1) (bitAt bs (0 + 4 + x)) = (2, [], 0) := by
  obtain ⟨h1, h2, h3⟩ := h
  rw [show 32 - acc.length = 0 + 1 by omega, rdAll, e] at h3
  simpa using h3.symm
theorem LoopEq.form (h : LoopEq bs x acc i true) (e : rdMiss bs x i = some (m, more, j)) (hl : more = true → acc.length ≠ 31) (hp : placedB m x = false) : rdAll bs x 32 [] (0 + 4 + x + 1) (bitAt bs (0 + 4 + x)) = (3, [], 0) := by
  obtain ⟨h1, h2, h3⟩ := h
  have h4 : acc.length ≠ 32 := fun h => by have := h2 h; cases this
  have h5 : (more && (31 - acc.length == 0)) = false := by
    cases more
    · rfl
    · have := hl rfl
      simp
      omega
  rw [show 32 - acc.length = (31 - acc.length) + 1 by omega, rdAll, e] at h3
  simp only [h5, hp, Bool.false_eq_true, if_false] at h3
  exact h3.symm
theorem LoopEq.next (h : LoopEq bs x acc i true) (e : rdMiss bs x i = some (m, more, j)) (hl : more = true → acc.length ≠ 31) (hp : placedB m x = true) : LoopEq bs x (acc ++ [m]) j more := by
  obtain ⟨h1, h2, h3⟩ := h
  have h4 : acc.length ≠ 32 := fun h => by have := h2 h; cases this
  have h5 : (more && (31 - acc.length == 0)) = false := by
    cases more
    · rfl
    · have := hl rfl
      simp
      omega
  rw [show 32 - acc.length = (31 - acc.length) + 1 by omega, rdAll, e] at h3
  simp only [h5, hp, Bool.false_eq_true, if_false, if_true] at h3
  refine ⟨by simp; omega, fun h6 => ?_, ?_⟩
  · simp at h6
    cases more
    · rfl
    · exact absurd (by omega) (hl rfl)
  · rw [← h3, List.length_append, List.length_singleton, show 32 - (acc.length + 1) = 31 - acc.length by omega]
theorem LoopEq.done (h : LoopEq bs x acc i false) : rdAll bs x 32 [] (0 + 4 + x + 1) (bitAt bs (0 + 4 + x)) = (0, acc, i) := by
  rw [← h.2.2]
  cases (32 - acc.length) <;> rfl
end
/-- a code of an error, not of its loop -/
theorem stRd_fault {bs : List Nat} {x : Nat} (h : faultS bs x ≠ 0) : stRd bs x = (faultS bs x, 0, []) := by
  unfold faultS at h ⊢
  unfold stRd
  split
  · rfl
  · rename_i h1
    rw [if_neg h1] at h
    split
    · rfl
    · rename_i h2
      rw [if_neg h2] at h
      split
      · rfl
      · rename_i h3
        rw [if_neg h3] at h
        split
        · rfl
        · rename_i h4
          rw [if_neg h4] at h
          exact absurd rfl h
theorem stRd_short {bs : List Nat} {x : Nat} (h : faultS bs x = 0) (hs : 8 * bs.length < 0 + 4 + x + 1) : stRd bs x = (8, 0, []) := by
  unfold faultS at h
  unfold stRd
  repeat' split at h
  all_goals first | exact absurd h (by decide) | skip
  rename_i h1 h2 h3 h4
  rw [if_neg h1, if_neg h2, if_neg h3, if_neg h4, if_pos hs]
theorem stRd_all {bs : List Nat} {x : Nat} (h : faultS bs x = 0) (hs : ¬ 8 * bs.length < 0 + 4 + x + 1) {c : Int} {L : List MissM} {j : Nat} (e : rdAll bs x 32 [] (0 + 4 + x + 1) (bitAt bs (0 + 4 + x)) = (c, L, j)) :
    stRd bs x = if c = 0 then (if restOk bs j = true then (0, ((val (seg bs (0 + 4) x) : Nat) : Int), L) else (3, 0, [])) else (c, 0, []) := by
  unfold faultS at h
  unfold stRd
  repeat' split at h
  all_goals first | exact absurd h (by decide) | skip
  rename_i h1 h2 h3 h4
  rw [if_neg h1, if_neg h2, if_neg h3, if_neg h4, if_neg hs, e]
theorem st_src_later {w v : World} {A : Option Addr} {xs : List Value} (h : Src w A xs) (hb : Below w.heap.size w v) : Src v A xs := by
  intro h0
  obtain ⟨ad, e, hc⟩ := h h0
  exact ⟨ad, e, fun j u hu => cell_below hb (hc j u hu)⟩
set_option maxRecDepth 100000 in
set_option maxHeartbeats 3200000 in
theorem sread_fault {A : Option Addr} {bs : List Nat} (x n cap : Nat) (w : World) (hn : bs.length = n) (hs : Src w A (bts bs)) (hb : ∀ b ∈ bs, b < 256) (hf : faultS bs x ≠ 0) :
    Calls Try.prog 193 #[.slice A n cap, .int .i64 x] w (StRAns w bs x) := by
  have HE := Lib.hid (stRd_fault hf)
  have HNE := Lib.hid hf
  have HF := Lib.hid (sfault_any x n cap (w.alloc (.cells #[.int .i64 0, .slice none 0 0] 201)) hn (st_src_later hs (bl_alloc (Below.refl _ _) _)) hb)
  have hb0 : (faultS bs x != 0) = true := by simpa using hf
  have ROW := Lib.hid (Row.made w 201 #[.int .i64 0, .slice none 0 0])
  obtain ⟨⟨c0, c1⟩, f0, f1⟩ := cells2 ROW.out
  clear hf hs hb hn
  generalize faultS bs x = f at *
  go_enter Try.func193, Try.ntmps193
  go_wp2
  refine st_scope_through 0 (fun _ _ => False) (fun _ _ => 0) rfl (fun _ => ?_) (fun _ _ h => h.elim)
  go_wp2_with (go_at_call 235; (with_reducible refine HF.out.mono ?_); rintro e w1 ⟨rfl, rfl⟩)
  simp only [Exit.jump]
  obtain ⟨dd, hdd⟩ := understat_parts
  refine bodyPost_ret (st_results_two rfl _ _ w.heap.size 201 #[.int .i64 0, .slice none 0 0] dd rfl ROW.out hdd Try.infostat) rfl ?_
  exact st_bad HE.out HNE.out (bl_alloc (Below.refl _ _) _) rfl
end Go.Proofs.Ytbcjfdhphpckfaa
