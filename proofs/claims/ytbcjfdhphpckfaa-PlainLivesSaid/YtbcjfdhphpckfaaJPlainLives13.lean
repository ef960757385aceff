/-
  status: a status is read: the walk. status: a status is written: its bytes, or why it has none. What status answers to fixed calls. status: a status as the document's. status: a status as the document's, walked. status: how the statuses that a statement draws read. pdu: numbers keep to their limits.
-/
import Derived.Test.YtbcjfdhphpckfaaJPlainLives12
import Derived.Test.YtbcjfdhphpckfaaJPlainLives11
import Derived.Test.YtbcjfdhphpckfaaJPlainLives05
import Derived.Test.YtbcjfdhphpckfaaJPlainLives09
import Derived.SizedLaws
import Derived.Deep.Matrix
import Derived.Lib.SmallJoins
import Derived.OpenShut
import Derived.Deep.Slices
namespace Go.Proofs.Ytbcjfdhphpckfaa
open Go.RowKit

theorem fault_x {bs : List Nat} {x : Nat} (h : faultS bs x = 0) : (x = 10 ∨ x = 16) ∧ 0 < bs.length := by
  unfold faultS at h
  repeat' split at h
  all_goals first | exact absurd h (by decide) | skip
  rename_i h1 h2 h3 h4
  have := okS_nat (show okS (x : Int) = true by simpa using h1)
  omega
theorem OwnM.set {B g j : Nat} {w : World} {v : Value} {L : List MissM} {t : TypeId} {cs : Array Value} (h : OwnM B w v L) (hg : Row w g t cs) (ht : t ≠ 311) (x : Value) : OwnM B (w.setCell ⟨g, j, none⟩ x) v L :=
  own_only h ((Only.refl (fun k => k = g) w).set (p := ⟨g, j, none⟩) (.inl rfl) _) (fun k hk hS => own_apart h hg (Ne.symm ht) (by rw [hk]; exact congrArg some hS))
theorem sclip_same (A : Option Addr) (n c : Nat) (W : World) (hn : n ≤ c) (_ : c ≤ 9223372036854775807) :
    Calls Try.prog 240 #[.slice A n c] W fun e w' => e = .returned (.slice A n n) ∧ W = w' := by
  cases A with
  | none =>
    go_enter Try.func240, Try.ntmps240
    go_wp2
    go_ret
    exact ⟨rfl, rfl⟩
  | some ad =>
    go_enter Try.func240, Try.ntmps240
    go_wp2
    go_ret
    exact ⟨rfl, rfl⟩
theorem st_good {w w' : World} {bs : List Nat} {x : Nat} {e : Ending} {L : List MissM} {a : Int} {A : Option Addr} {c : Nat} (h : stRd bs x = (0, a, L)) (hb : Below w.heap.size w w') (he : e = .returned (.tuple #[.agg #[.int .i64 a, .slice A L.length c], .int .i64 0])) (h1 : L.length ≤ c) (h2 : c ≤ 9223372036854775807) (hs : MSrc w' A L) : StRAns w bs x e w' :=
  ⟨hb, fun _ => by rw [h]; exact ⟨A, c, he, h1, h2, hs⟩, fun h0 => by rw [h] at h0; exact absurd rfl h0⟩
def StJ (w : World) (A : Option Addr) (n cap : Nat) (bs : List Nat) (x : Nat) (a' : Act) (w' : World) : Prop := ∃ (p gb q i : Nat) (acc : List MissM) (mv : Value) (more : Bool), Fr [some (.slice A n cap), some (.int .i64 x), none, none, some (.pointer (some ⟨w.heap.size, 0, none⟩)), some (.int .i64 0), none, some (.pointer (some ⟨p, 0, none⟩)), none, none, some (.pointer (some ⟨q, 0, none⟩)), some (.bool more), none, none, none, none, none, none, none, none, none, none, none, none, none, none, none, none, none, none, none, none, none, none, none, none, none, none, none, none, none, none, none, none, none, none, none, none, none, none, none, none, none, none, none, none, none, none, none, none, none, none, none, none, none, none, none, none, none, none, none, none, none, none, none, none, none, none, none, none, none, none, none, none, none, none, none, none, none, none, none, none, none, none, none, none, none, none] a' ∧ Hid (StL w bs p gb q ((val (seg bs (0 + 4) x) : Nat) : Int) acc mv i w') ∧ Hid (LoopEq bs x acc i more) ∧ Hid (0 + 4 + x + 1 ≤ 8 * bs.length)
def StMu (a' : Act) (w' : World) : Nat := 40 - stLen ((w'.cell? ⟨ptrBlk (a'.tmps.getD 10 undef), 1, none⟩).getD undef)
set_option maxRecDepth 100000 in
set_option maxHeartbeats 12800000 in
theorem sread_walk {A : Option Addr} {bs : List Nat} (x n cap : Nat) (w : World) (hn : bs.length = n) (hm : n ≤ 8192) (hc : n ≤ cap) (hs : Src w A (bts bs)) (hb : ∀ b ∈ bs, b < 256) (hf : faultS bs x = 0) :
    Calls Try.prog 193 #[.slice A n cap, .int .i64 x] w (StRAns w bs x) := by
  obtain ⟨hx, hpos⟩ := fault_x hf
  have hF := sfault_any x n cap (w.alloc (.cells #[.int .i64 0, .slice none 0 0] 201)) hn (st_src_later hs (bl_alloc (Below.refl _ _) _)) hb
  rw [hf] at hF
  have HF := Lib.hid hF
  have hRD := read_any A cap bs (w.alloc (.cells #[.int .i64 0, .slice none 0 0] 201)) (by omega) (by omega) (st_src_later hs (bl_alloc (Below.refl _ _) _)) hb
  rw [hn] at hRD
  have HRD := Lib.hid hRD
  have HFZ := Lib.hid hf
  have HN := Lib.hid hn
  have HX := Lib.hid hx
  have hx16 : x ≤ 16 := by omega
  have ROW := Lib.hid (Row.made w 201 #[.int .i64 0, .slice none 0 0])
  have HSZ := Lib.hid (size_1 w (.cells #[.int .i64 0, .slice none 0 0] 201))
  clear hF hRD hf hs hb hn hx
  go_enter Try.func193, Try.ntmps193
  go_wp2
  refine st_scope_through 0 (fun a' w' => StJ w A n cap bs x a' w') (fun a' w' => StMu a' w') rfl ?_ ?_
  · intro hrest
    by_cases hsh : 8 * bs.length < 0 + 4 + x + 1
    · have HE := Lib.hid (stRd_short HFZ.out hsh)
      go_wp2_with (first
        | (go_at_call 235; (with_reducible refine HF.out.mono ?_); rintro e w1 ⟨rfl, rfl⟩)
        | (go_at_call 229; (with_reducible refine HRD.out.mono ?_); rintro e w2 ⟨p, gb, rfl, hp, hgb, hr2, hb2⟩; rw [HSZ.out] at hp; (have HB2 := Lib.hid (bl_step (bl_alloc (Below.refl w.heap.size w) _) hb2); have ROW2 := Lib.hid (ROW.out.later hb2); have HS2 := Lib.hid (StR.start (B := w.heap.size + 1) hr2 hp); have HG := Lib.hid ((HS2.out.more (bl_alloc (Below.refl _ _) (.cells #[.int .i64 4, .int .i64 x, .int .i64 1] 3))).get_no (g := w2.heap.size) (n := 3) (cap := 3) (W := [4, x, 1]) (row_at2 w2 _ 3 _ rfl) rfl (by omega) (by intro y hy; simp at hy; omega) (by simp; omega)); clear hr2 hb2 hgb))
        | (go_at_call 236; (with_reducible refine HG.out.mono ?_); rintro e w3 ⟨rfl, hk3⟩; (have HK3 := Lib.hid hk3; have ROW3 := Lib.hid (hk3.row ROW2.out (by decide)); clear hk3; obtain ⟨⟨c0, c1⟩, f0, f1⟩ := cells2 ROW3.out)))
      simp only [Exit.jump]
      obtain ⟨dd, hdd⟩ := understat_parts
      refine bodyPost_ret (st_results_two rfl _ _ w.heap.size 201 #[.int .i64 0, .slice none 0 0] dd rfl (row_set2 ROW3.out) hdd Try.infostat) rfl ?_
      exact st_bad HE.out (by decide) (below_set2 (HB2.out.trans (HK3.out.1.mono (Nat.le_succ _))) _ _) rfl
    · have hsg : segs bs 0 [4, x, 1] = [val (seg bs 0 4), val (seg bs (0 + 4) x), (bitAt bs (0 + 4 + x)).toNat] := by
        simp only [segs]
        rw [val_one (i := 0 + 4 + x) (by omega)]
      have hsum : 0 + [4, x, 1].sum = 0 + 4 + x + 1 := by simp; omega
      have HSG := Lib.hid hsg
      have HSUM := Lib.hid hsum
      have HLE := Lib.hid (LoopEq.start bs x)
      have HFIT := Lib.hid (show 0 + 4 + x + 1 ≤ 8 * bs.length by omega)
      clear hsg hsum
      generalize hmo0 : bitAt bs (0 + 4 + x) = more at *
      generalize hak0 : val (seg bs (0 + 4) x) = ack at *
      have hmo := Lib.hid hmo0
      have hak := Lib.hid hak0
      clear hmo0 hak0
      have hbi := bit_is more
      go_wp2_with (first
        | (go_at_call 235; (with_reducible refine HF.out.mono ?_); rintro e w1 ⟨rfl, rfl⟩)
        | (go_at_call 229; (with_reducible refine HRD.out.mono ?_); rintro e w2 ⟨p, gb, rfl, hp, hgb, hr2, hb2⟩; rw [HSZ.out] at hp; (have HB2 := Lib.hid (bl_step (bl_alloc (Below.refl w.heap.size w) _) hb2); have ROW2 := Lib.hid (ROW.out.later hb2); have HS2 := Lib.hid (StR.start (B := w.heap.size + 1) hr2 hp); have hg0 := ((HS2.out.more (bl_alloc (Below.refl _ _) (.cells #[.int .i64 4, .int .i64 x, .int .i64 1] 3))).get (g := w2.heap.size) (n := 3) (cap := 3) (W := [4, x, 1]) (row_at2 w2 _ 3 _ rfl) rfl (by omega) (by intro y hy; simp at hy; omega) (by simp; omega)); rw [HSG.out, HSUM.out] at hg0; have HG := Lib.hid hg0; clear hr2 hb2 hgb hg0))
        | (go_at_call 236; (with_reducible refine HG.out.mono ?_); rintro e w3 ⟨g3, rfl, hrow3, hg3, hs3⟩; (have HS3 := Lib.hid hs3; have HROW3 := Lib.hid hrow3; have ROW3 := Lib.hid (hs3.2.1.row ROW2.out (by decide)); clear hrow3 hg3 hs3)))
      have d1 := HROW3.out.drawn.read (i := 1) (x := .int .i64 ack) rfl
      have d2 := HROW3.out.drawn.read (i := 2) (x := .int .i64 more.toNat) rfl
      go_region_held3 (fun w' => w'.cell? ⟨g3, 1, none⟩ = some (.int .i64 ack) ∧ w'.cell? ⟨g3, 2, none⟩ = some (.int .i64 more.toNat)) (first | assumption | exact ⟨d1, d2⟩ | exact ⟨cell_more _ d1, cell_more _ d2⟩ | go_keep) (fail)
      go_wp2
      go_step3
      rename_i Q9 K9 h9
      refine h9 _ _ (hrest _ _ ⟨p, gb, w3.heap.size, 0 + 4 + x + 1, [], .slice none 0 0, more, ?_, Lib.hid ?_, HLE, HFIT⟩)
      · simp only [Fr, Holes]
        repeat apply Exists.intro
        rfl
      · have hw := ROW3.out.inside
        rw [hak.out]
        exact ⟨HS3.out.1.later (bl_drew (bl_alloc (Below.refl _ _) _)), (ROW3.out.more _).drawn, (Row.made w3 _ _).drawn, OwnM.nil _ _, ((HB2.out.trans (HS3.out.2.1.1.mono (Nat.le_succ _))).alloc (Nat.le_of_lt hw) _).drew, hp, hw⟩
  · rintro a' w' ⟨p, gb, q, i, acc, mv, more, hfr, HST, HLE, HFIT⟩
    simp only [Fr, Holes] at hfr
    repeat (obtain ⟨_, hfr⟩ := hfr)
    have hpA := HST.out.above.1
    obtain ⟨⟨z0, z1⟩, y0, y1⟩ := cells2 HST.out.res
    obtain ⟨⟨b0, b1⟩, v0, v1⟩ := cells2 HST.out.box
    have HNF := Lib.hid (show ¬ 8 * bs.length < 0 + 4 + x + 1 by have := HFIT.out; omega)
    clear HF HRD
    cases more
    · have HD := Lib.hid HLE.out.done
      have HALL := Lib.hid (stRd_all HFZ.out HNF.out HD.out)
      obtain ⟨Am, cm, rfl, hcm1, hcm2⟩ := HST.out.own.form
      cases hro : restOk bs i
      · have HR := Lib.hid (srest_no w' HST.out.rd hro)
        have HE := Lib.hid (show stRd bs x = (3, 0, []) by rw [HALL.out, if_pos rfl, hro]; rfl)
        clear hro
        go_wp2_with (go_at_call 239; (with_reducible refine HR.out.mono ?_); rintro e w1 ⟨Ar, nr, er, rfl, ho1, hcase⟩; (have HK1 := Lib.hid (got_keep (B := w.heap.size + 1) HST.out.rd hpA ho1); clear ho1; have RS1 := Lib.hid (HK1.out.row HST.out.res (by decide)); obtain ⟨⟨s0, s1⟩, t0, t1⟩ := cells2 RS1.out; rcases hcase with ⟨rfl, hn0⟩ | rfl))
        · have hn1 : decide (0 < nr) = true := by simpa using hn0
          go_wp2
          simp only [Exit.jump]
          obtain ⟨dd, hdd⟩ := understat_parts
          refine bodyPost_ret (st_results_two rfl _ _ w.heap.size 201 #[.int .i64 0, .slice none 0 0] dd rfl (row_set2 RS1.out) hdd Try.infostat) rfl ?_
          exact st_bad HE.out (by decide) (below_set2 (HST.out.below.trans (HK1.out.1.mono (Nat.le_succ _))) _ _) rfl
        · go_wp2
          simp only [Exit.jump]
          obtain ⟨dd, hdd⟩ := understat_parts
          refine bodyPost_ret (st_results_two rfl _ _ w.heap.size 201 #[.int .i64 0, .slice none 0 0] dd rfl (row_set2 RS1.out) hdd Try.infostat) rfl ?_
          exact st_bad HE.out (by decide) (below_set2 (HST.out.below.trans (HK1.out.1.mono (Nat.le_succ _))) _ _) rfl
      · have HR := Lib.hid (srest_yes w' HST.out.rd hro)
        have HE := Lib.hid (show stRd bs x = (0, ((val (seg bs (0 + 4) x) : Nat) : Int), acc) by rw [HALL.out, if_pos rfl, hro]; rfl)
        have HCL := Lib.hid (fun W => sclip_same Am acc.length cm W hcm1 hcm2)
        have HAL := Lib.hid (show acc.length ≤ 32 from HLE.out.1)
        clear hro
        generalize hal0 : acc.length = al at *
        have hal := Lib.hid hal0
        clear hal0
        generalize val (seg bs (0 + 4) x) = ack at *
        go_wp2_with (first
          | (go_at_call 239; (with_reducible refine HR.out.mono ?_); rintro e w1 ⟨gr, rfl, ho1⟩; (have HK1 := Lib.hid (got_keep (B := w.heap.size + 1) HST.out.rd hpA ho1); clear ho1; have RS1 := Lib.hid (HK1.out.row HST.out.res (by decide)); have RB1 := Lib.hid (HK1.out.row HST.out.box (by decide)); obtain ⟨⟨s0, s1⟩, t0, t1⟩ := cells2 RS1.out; obtain ⟨⟨q0, q1⟩, r0, r1⟩ := cells2 RB1.out))
          | (go_at_call 240; (with_reducible refine (HCL.out _).mono ?_); rintro e wx ⟨rfl, rfl⟩; (have RS2 := Lib.hid (RS1.out.elsewhere (p := ⟨q, 1, none⟩) (Nat.ne_of_lt HST.out.above.2) (.slice Am al al)); have RB2 := Lib.hid (RB1.out.written 1 (.slice Am al al)); obtain ⟨⟨S0, S1⟩, T0, T1⟩ := cells2 RS2.out; obtain ⟨⟨Q0, Q1⟩, -⟩ := cells2 RB2.out)))
        simp only [Exit.jump]
        obtain ⟨dd, hdd⟩ := understat_parts
        have OW := (((HST.out.own.keepR HK1.out).set (j := 1) RB1.out (by decide) (.slice Am al al)).set (j := 0) RS2.out (by decide) (.int .i64 ack)).set (j := 1) (RS2.out.written 0 _) (by decide) (.slice Am al al)
        refine bodyPost_ret (st_results_two rfl _ _ w.heap.size 201 #[.int .i64 ack, .slice Am al al] dd rfl (row_set2 RS2.out) hdd Try.infostat) rfl ?_
        exact st_good (A := Am) (c := al) HE.out (below_set2 ((HST.out.below.trans (HK1.out.1.mono (Nat.le_succ _))).setCell (p := ⟨q, 1, none⟩) (Nat.le_of_lt HST.out.above.2) _) _ _) (by rw [hal.out]; rfl) (Nat.le_of_eq hal.out) (by have := HAL.out; omega) (OwnM.src OW)
    · have HMS := Lib.hid (smiss_any (B := w.heap.size + 1) x w' HST.out.rd hpA hx16)
      cases hrd : rdMiss bs x i with
      | none =>
        have HE := Lib.hid (show stRd bs x = (8, 0, []) by rw [stRd_all HFZ.out HNF.out (HLE.out.none hrd)]; rfl)
        have HMN := Lib.hid (HMS.out.mono (R' := fun e w2 => e = .returned (.tuple #[.agg #[.int .i64 0, .bool false, .int .i64 0, .int .i64 0], .bool false, .int .i64 8]) ∧ KeepR (w.heap.size + 1) w' w2) fun _ _ h => ⟨h.2.1 hrd, h.2.2⟩)
        clear hrd HMS
        go_wp2_with (go_at_call 237; (with_reducible refine HMN.out.mono ?_); rintro e w1 ⟨rfl, hk1⟩; (have HK1 := Lib.hid hk1; clear hk1; have RS1 := Lib.hid ((HK1.out.row HST.out.res (by decide)).more (.cells #[.int .i64 0, .bool false, .int .i64 0, .int .i64 0] 311)); obtain ⟨⟨s0, s1⟩, t0, t1⟩ := cells2 RS1.out))
        simp only [Exit.jump]
        obtain ⟨dd, hdd⟩ := understat_parts
        refine bodyPost_ret (st_results_two rfl _ _ w.heap.size 201 #[.int .i64 0, .slice none 0 0] dd rfl (row_set2 RS1.out) hdd Try.infostat) rfl ?_
        exact st_bad HE.out (by decide) (below_set2 (bl_alloc (HST.out.below.trans (HK1.out.1.mono (Nat.le_succ _))) _) _ _) rfl
      | some y =>
        obtain ⟨m, follows, j⟩ := y
        have HMN := Lib.hid (HMS.out.mono (R' := fun e w2 => e = .returned (.tuple #[.agg #[.int .i64 m.sn, .bool m.part, .int .i64 m.fr, .int .i64 m.to], .bool follows, .int .i64 0]) ∧ RRep w2 p gb bs j ∧ KeepR (w.heap.size + 1) w' w2) fun _ _ h => ⟨(h.1 _ _ _ hrd).1, (h.1 _ _ _ hrd).2, h.2.2⟩)
        obtain ⟨Am, cm, rfl, hcm1, hcm2⟩ := HST.out.own.form
        have HPL := Lib.hid (fun W => splaced_any m x W)
        unfold MissM.v at HPL
        have hal32 : acc.length ≤ 32 := HLE.out.1
        clear HMS
        by_cases hlong : follows = true ∧ acc.length = 31
        · obtain ⟨rfl, h31⟩ := hlong
          have HE := Lib.hid (show stRd bs x = (2, 0, []) by rw [stRd_all HFZ.out HNF.out (HLE.out.long hrd h31)]; rfl)
          have h31a : (acc.length == 31) = true := by simpa using h31
          have h31b : ((acc.length : Int) == 31) = true := by simp; omega
          clear hrd h31
          go_wp2_with (go_at_call 237; (with_reducible refine HMN.out.mono ?_); rintro e w1 ⟨rfl, hr1, hk1⟩; (have HST1 := Lib.hid (HST.out.keep hr1 hk1); clear hr1 hk1; have HST2 := Lib.hid (HST1.out.more (bl_alloc (Below.refl _ _) (.cells #[.int .i64 m.sn, .bool m.part, .int .i64 m.fr, .int .i64 m.to] 311))); have RM2 := Lib.hid (Row.made w1 311 #[.int .i64 m.sn, .bool m.part, .int .i64 m.fr, .int .i64 m.to]); obtain ⟨⟨s0, s1⟩, t0, t1⟩ := cells2 HST2.out.res; obtain ⟨⟨q0, q1⟩, r0, r1⟩ := cells2 HST2.out.box; obtain ⟨⟨m0, m1, m2, m3⟩, -⟩ := cells4 RM2.out))
          simp only [Exit.jump]
          obtain ⟨dd, hdd⟩ := understat_parts
          refine bodyPost_ret (st_results_two rfl _ _ w.heap.size 201 #[.int .i64 0, .slice none 0 0] dd rfl (row_set2 HST2.out.res) hdd Try.infostat) rfl ?_
          exact st_bad HE.out (by decide) (below_set2 HST2.out.below _ _) rfl
        · cases hpl : placedB m x
          · have HE := Lib.hid (show stRd bs x = (3, 0, []) by rw [stRd_all HFZ.out HNF.out (HLE.out.form hrd (fun h h2 => hlong ⟨h, h2⟩) hpl)]; rfl)
            rw [hpl] at HPL
            have h31 : follows = true → acc.length ≠ 31 := fun h h2 => hlong ⟨h, h2⟩
            clear hrd hlong hpl
            cases follows
            · clear h31
              go_wp2_with (first
                | (go_at_call 237; (with_reducible refine HMN.out.mono ?_); rintro e w1 ⟨rfl, hr1, hk1⟩; (have HST1 := Lib.hid (HST.out.keep hr1 hk1); clear hr1 hk1; have HST2 := Lib.hid (HST1.out.more (bl_alloc (Below.refl _ _) (.cells #[.int .i64 m.sn, .bool m.part, .int .i64 m.fr, .int .i64 m.to] 311))); have RM2 := Lib.hid (Row.made w1 311 #[.int .i64 m.sn, .bool m.part, .int .i64 m.fr, .int .i64 m.to]); obtain ⟨⟨s0, s1⟩, t0, t1⟩ := cells2 HST2.out.res; obtain ⟨⟨q0, q1⟩, r0, r1⟩ := cells2 HST2.out.box; obtain ⟨⟨m0, m1, m2, m3⟩, -⟩ := cells4 RM2.out))
                | (go_at_call 238; (with_reducible refine (HPL.out _).mono ?_); rintro e w3 ⟨rfl, hb3⟩; (have HST3 := Lib.hid (HST2.out.more hb3); clear hb3 s0 s1 t0 t1; obtain ⟨⟨s0, s1⟩, t0, t1⟩ := cells2 HST3.out.res)))
              simp only [Exit.jump]
              obtain ⟨dd, hdd⟩ := understat_parts
              refine bodyPost_ret (st_results_two rfl _ _ w.heap.size 201 #[.int .i64 0, .slice none 0 0] dd rfl (row_set2 HST3.out.res) hdd Try.infostat) rfl ?_
              exact st_bad HE.out (by decide) (below_set2 HST3.out.below _ _) rfl
            · have h31 := h31 rfl
              have h31a : (acc.length == 31) = false := by simpa using h31
              have h31b : ((acc.length : Int) == 31) = false := by simp; omega
              clear h31
              go_wp2_with (first
                | (go_at_call 237; (with_reducible refine HMN.out.mono ?_); rintro e w1 ⟨rfl, hr1, hk1⟩; (have HST1 := Lib.hid (HST.out.keep hr1 hk1); clear hr1 hk1; have HST2 := Lib.hid (HST1.out.more (bl_alloc (Below.refl _ _) (.cells #[.int .i64 m.sn, .bool m.part, .int .i64 m.fr, .int .i64 m.to] 311))); have RM2 := Lib.hid (Row.made w1 311 #[.int .i64 m.sn, .bool m.part, .int .i64 m.fr, .int .i64 m.to]); obtain ⟨⟨s0, s1⟩, t0, t1⟩ := cells2 HST2.out.res; obtain ⟨⟨q0, q1⟩, r0, r1⟩ := cells2 HST2.out.box; obtain ⟨⟨m0, m1, m2, m3⟩, -⟩ := cells4 RM2.out))
                | (go_at_call 238; (with_reducible refine (HPL.out _).mono ?_); rintro e w3 ⟨rfl, hb3⟩; (have HST3 := Lib.hid (HST2.out.more hb3); clear hb3 s0 s1 t0 t1; obtain ⟨⟨s0, s1⟩, t0, t1⟩ := cells2 HST3.out.res)))
              simp only [Exit.jump]
              obtain ⟨dd, hdd⟩ := understat_parts
              refine bodyPost_ret (st_results_two rfl _ _ w.heap.size 201 #[.int .i64 0, .slice none 0 0] dd rfl (row_set2 HST3.out.res) hdd Try.infostat) rfl ?_
              exact st_bad HE.out (by decide) (below_set2 HST3.out.below _ _) rfl
          · have HLN := Lib.hid (HLE.out.next hrd (fun h h2 => hlong ⟨h, h2⟩) hpl)
            rw [hpl] at HPL
            have h31 : follows = true → acc.length ≠ 31 := fun h h2 => hlong ⟨h, h2⟩
            have hal31 : acc.length ≤ 31 := by
              have h := HLN.out.1
              simp at h
              omega
            clear hrd hlong hpl
            cases follows
            · clear h31
              go_wp2_with (first
                | (go_at_call 237; (with_reducible refine HMN.out.mono ?_); rintro e w1 ⟨rfl, hr1, hk1⟩; (have HST1 := Lib.hid (HST.out.keep hr1 hk1); clear hr1 hk1; have HST2 := Lib.hid (HST1.out.more (bl_alloc (Below.refl _ _) (.cells #[.int .i64 m.sn, .bool m.part, .int .i64 m.fr, .int .i64 m.to] 311))); have RM2 := Lib.hid (Row.made w1 311 #[.int .i64 m.sn, .bool m.part, .int .i64 m.fr, .int .i64 m.to]); obtain ⟨⟨s0, s1⟩, t0, t1⟩ := cells2 HST2.out.res; obtain ⟨⟨q0, q1⟩, r0, r1⟩ := cells2 HST2.out.box; obtain ⟨⟨m0, m1, m2, m3⟩, -⟩ := cells4 RM2.out))
                | (go_at_call 238; (with_reducible refine (HPL.out _).mono ?_); rintro e w3 ⟨rfl, hb3⟩; (have HST3 := Lib.hid (HST2.out.more hb3); have RM3 := Lib.hid (RM2.out.later hb3); clear hb3 s0 s1 t0 t1 q0 q1 r0 r1 m0 m1 m2 m3; obtain ⟨⟨q0, q1⟩, r0, r1⟩ := cells2 HST3.out.box; obtain ⟨⟨m0, m1, m2, m3⟩, -⟩ := cells4 RM3.out; obtain ⟨g5, c5, w5, hrun, hcq, hfq, hst5⟩ := HST3.out.next m (by omega); have HST5 := Lib.hid hst5; clear hst5))
                | (at_builtin; refine wpList_run rfl (.tmp 74) (.tmp 76) 199 rfl (.slice Am acc.length cm) (.slice (some ⟨w3.heap.size, 0, none⟩) 1 1) (by rfl) (by rfl) hrun ?_))
              go_step3
              refine ⟨rfl, ⟨p, gb, q, j, acc ++ [m], _, _, ?_, HST5, HLN, HFIT⟩, ?_⟩
              · simp only [Fr, Holes]
                repeat apply Exists.intro
                rfl
              · have h5 := HST5.out.box.read (i := 1) rfl
                have h0 := HST.out.box.read (i := 1) rfl
                unfold StMu
                simp only [Array.getD_eq_getD_getElem?]
                simp [ptrBlk, h5, h0, stLen]
                omega
            · have h31 := h31 rfl
              have h31a : (acc.length == 31) = false := by simpa using h31
              have h31b : ((acc.length : Int) == 31) = false := by simp; omega
              clear h31
              go_wp2_with (first
                | (go_at_call 237; (with_reducible refine HMN.out.mono ?_); rintro e w1 ⟨rfl, hr1, hk1⟩; (have HST1 := Lib.hid (HST.out.keep hr1 hk1); clear hr1 hk1; have HST2 := Lib.hid (HST1.out.more (bl_alloc (Below.refl _ _) (.cells #[.int .i64 m.sn, .bool m.part, .int .i64 m.fr, .int .i64 m.to] 311))); have RM2 := Lib.hid (Row.made w1 311 #[.int .i64 m.sn, .bool m.part, .int .i64 m.fr, .int .i64 m.to]); obtain ⟨⟨s0, s1⟩, t0, t1⟩ := cells2 HST2.out.res; obtain ⟨⟨q0, q1⟩, r0, r1⟩ := cells2 HST2.out.box; obtain ⟨⟨m0, m1, m2, m3⟩, -⟩ := cells4 RM2.out))
                | (go_at_call 238; (with_reducible refine (HPL.out _).mono ?_); rintro e w3 ⟨rfl, hb3⟩; (have HST3 := Lib.hid (HST2.out.more hb3); have RM3 := Lib.hid (RM2.out.later hb3); clear hb3 s0 s1 t0 t1 q0 q1 r0 r1 m0 m1 m2 m3; obtain ⟨⟨q0, q1⟩, r0, r1⟩ := cells2 HST3.out.box; obtain ⟨⟨m0, m1, m2, m3⟩, -⟩ := cells4 RM3.out; obtain ⟨g5, c5, w5, hrun, hcq, hfq, hst5⟩ := HST3.out.next m (by omega); have HST5 := Lib.hid hst5; clear hst5))
                | (at_builtin; refine wpList_run rfl (.tmp 74) (.tmp 76) 199 rfl (.slice Am acc.length cm) (.slice (some ⟨w3.heap.size, 0, none⟩) 1 1) (by rfl) (by rfl) hrun ?_))
              go_step3
              refine ⟨rfl, ⟨p, gb, q, j, acc ++ [m], _, _, ?_, HST5, HLN, HFIT⟩, ?_⟩
              · simp only [Fr, Holes]
                repeat apply Exists.intro
                rfl
              · have h5 := HST5.out.box.read (i := 1) rfl
                have h0 := HST.out.box.read (i := 1) rfl
                unfold StMu
                simp only [Array.getD_eq_getD_getElem?]
                simp [ptrBlk, h5, h0, stLen]
                omega
end Go.Proofs.Ytbcjfdhphpckfaa
namespace Go.Proofs.Ytbcjfdhphpckfaa
open Go.RowKit

def StWAns (w : World) (ack : Int) (L : List MissM) (x : Nat) (e : Ending) (w' : World) : Prop :=
  ∃ g, e = .returned (.tuple #[.slice (some ⟨g, 0, none⟩) (stBytes ack L x).length (stBytes ack L x).length, .int .i64 0]) ∧ w.heap.size ≤ g ∧ Row w' g 5 (bts (stBytes ack L x)).toArray ∧ Below w.heap.size w w'
theorem StW.below {B p : Nat} {w0 w : World} {kp : List (Nat × Nat)} (h : StW B w0 p kp w) : Below B w0 w := h.2.1.1
theorem StW.len_le {ack : Int} {L : List MissM} {x : Nat} (h : rightB ack L x = true) {kp r : List (Nat × Nat)} (e : statusP ack L x = kp ++ r) : (bitsP kp).length ≤ 2000 := by
  have h1 := len_statusP ack L x
  obtain ⟨hx, hok, _, hl, _⟩ := rightB_parts h
  have h2 := (bitsS_bd hok L).2
  rw [e, bitsP_append, List.length_append] at h1
  omega
theorem byt_stw {B p n : Nat} {w0 w : World} {kp : List (Nat × Nat)} (h : StW B w0 p kp w) (ht : (bitsP kp).length ≤ 60000) (hn : (pack (bitsP kp)).length = n) :
    Calls Try.prog 201 #[.pointer (some ⟨p, 0, none⟩)] w fun e w' => ∃ g, e = .returned (.slice (some ⟨g, 0, none⟩) n n) ∧ w.heap.size ≤ g ∧ Row w' g 5 (bts (pack (bitsP kp))).toArray ∧ Below w.heap.size w w' := by
  obtain ⟨⟨sv, hr⟩, _⟩ := h
  have h1 := bytes_any hr (by omega)
  rw [← length_pack, hn] at h1
  exact h1
end Go.Proofs.Ytbcjfdhphpckfaa
namespace Go.Proofs.Ytbcjfdhphpckfaa
open Go.RowKit

theorem sread_any {A : Option Addr} {bs : List Nat} (x n cap : Nat) (w : World) (hn : bs.length = n) (hm : n ≤ 8192) (hc : n ≤ cap) (hs : Src w A (bts bs)) (hb : ∀ b ∈ bs, b < 256) :
    Calls Try.prog 193 #[.slice A n cap, .int .i64 x] w (StRAns w bs x) := by
  by_cases hf : faultS bs x = 0
  · exact sread_walk x n cap w hn hm hc hs hb hf
  · exact sread_fault x n cap w hn hs hb hf
theorem msrc_of {W : World} {g : Nat} {L : List MissM} {cs : Array Value} (h : Row W g 311 cs) (e : cs = (mcells L).toArray) : MSrc W (some ⟨g, 0, none⟩) L := by
  subst e
  intro _
  refine ⟨g, 0, rfl, fun k m hm => ?_⟩
  obtain ⟨a, b, c, d⟩ := mcells_at hm
  rw [Nat.zero_add]
  exact ⟨h.read (by simpa using a), h.read (by simpa using b), h.read (by simpa using c), h.read (by simpa using d)⟩
def L2 : List MissM := [⟨3, true, 2, 0⟩, ⟨7, false, 0, 0⟩]
theorem right2 : rightB ((9 : Nat) : Int) L2 ((16 : Nat) : Int) = true := by decide +kernel
theorem sal3 {W : World} {g : Nat} (h : Row W g 5 (bts (stBytes 9 L2 16)).toArray) :
    Calls Try.prog 193 #[.slice (some ⟨g, 0, none⟩) (stBytes 9 L2 16).length (stBytes 9 L2 16).length, .int .i64 16] W fun e w' => ∃ b o c, e = .returned (.tuple #[.agg #[.int .i64 9, .slice (some ⟨b, o, none⟩) 2 c], .int .i64 0]) ∧ w'.cell? ⟨b, o, none⟩ = some (.int .i64 3) ∧ w'.cell? ⟨b, o + 1, none⟩ = some (.bool true) ∧ w'.cell? ⟨b, o + 2, none⟩ = some (.int .i64 2) ∧ w'.cell? ⟨b, o + 3, none⟩ = some (.int .i64 0) ∧ Below W.heap.size W w' := by
  have hl := st_len right2
  have hb : statusF ((9 : Nat) : Int) L2 ((16 : Nat) : Int) = 12 := by decide +kernel
  rw [hb] at hl
  refine (sread_any (bs := stBytes 9 L2 16) 16 _ _ W rfl (by have : ((stBytes 9 L2 16).length : Int) = 12 := hl; omega) (Nat.le_refl _) (row_src h) (pack_small _)).mono ?_
  rintro e w' ⟨h1, h2, _⟩
  have hk : stRd (stBytes 9 L2 16) 16 = (0, 9, L2) := st_back right2
  rw [hk] at h2
  obtain ⟨A, c, rfl, _, _, hs⟩ := h2 rfl
  obtain ⟨b, o, rfl, hc⟩ := hs (by decide)
  obtain ⟨c0, c1, c2, c3⟩ := hc 0 _ rfl
  simp only [Nat.zero_mul, Nat.add_zero] at c0 c1 c2 c3
  exact ⟨b, o, c, rfl, c0, c1, c2, c3, h1⟩
theorem sal4 {W : World} {g : Nat} (h : Row W g 5 #[.int .u8 128]) :
    Calls Try.prog 193 #[.slice (some ⟨g, 0, none⟩) 1 1, .int .i64 10] W fun e w' => e = .returned (.tuple #[.agg #[.int .i64 0, .slice none 0 0], .int .i64 4]) ∧ Below W.heap.size W w' := by
  refine (sread_any (bs := [128]) 10 1 1 W rfl (by omega) (by omega) (row_src (xs := bts [128]) h) (by decide)).mono ?_
  rintro e w' ⟨h1, _, h2⟩
  have hk : stRd [128] 10 = (4, 0, []) := by kernel_rfl
  rw [hk] at h2
  exact ⟨h2 (by decide), h1⟩
end Go.Proofs.Ytbcjfdhphpckfaa
namespace Go.Proofs.Ytbcjfdhphpckfaa
open Go.RowKit

end Go.Proofs.Ytbcjfdhphpckfaa
namespace Go.Proofs.Ytbcjfdhphpckfaa
open Go.RowKit

end Go.Proofs.Ytbcjfdhphpckfaa
namespace Go.Proofs.Ytbcjfdhphpckfaa
open Go.ChangeShapes Go.WideShapes Go.ChangeAt Go.RowKit Go.Deep

theorem Try.cells311 : Try.prog.cellsOf 311 = 4 := by kernel_rfl
theorem Try.cells3s : Try.prog.cellsOf 3 = 1 := by kernel_rfl
theorem Try.cells4s : Try.prog.cellsOf 4 = 1 := by kernel_rfl
set_option maxRecDepth 100000 in
theorem miss_cells {H : Type} {enc : TypeId × Value → H} {W : World} {base fuel : Nat} {sp : Nat → Bool} {held : Bool} {cs : List Value} {x : DataW H × List MemPlace}
    (h : DataW.trod enc Try.prog W base sp held fuel 311 cs = some x) : ∃ m : MissM, cs = [.int .i64 m.sn, .bool m.part, .int .i64 m.fr, .int .i64 m.to] := by
  obtain ⟨xs, n, _, _, hl, hxs, hf⟩ := DataW.trod_struct Try.underlying311 h
  have h0 := hf 0 _ rfl
  have h1 := hf 1 _ rfl
  have h2 := hf 2 _ rfl
  have h3 := hf 3 _ rfl
  rw [Try.cells311] at hl
  match cs, hl with
  | [c0, c1, c2, c3], _ =>
    have hxs' : xs.length = 4 := by simpa using hxs
    match xs, hxs' with
    | [y0, y1, y2, y3], _ =>
      have h0' : DataW.trod enc Try.prog W base sp held n 3 (([c0, c1, c2, c3].drop 0).take (Try.prog.cellsOf 3)) = some y0 := h0
      have h1' : DataW.trod enc Try.prog W base sp held n 4 (([c0, c1, c2, c3].drop 1).take (Try.prog.cellsOf 4)) = some y1 := h1
      have h2' : DataW.trod enc Try.prog W base sp held n 3 (([c0, c1, c2, c3].drop 2).take (Try.prog.cellsOf 3)) = some y2 := h2
      have h3' : DataW.trod enc Try.prog W base sp held n 3 (([c0, c1, c2, c3].drop 3).take (Try.prog.cellsOf 3)) = some y3 := h3
      rw [Try.cells3s] at h0' h2' h3'
      rw [Try.cells4s] at h1'
      obtain ⟨a, ea, _, _⟩ := DataW.trod_int Try.underlying3 h0'
      obtain ⟨b, eb, _⟩ := DataW.trod_bool Try.underlying4 h1'
      obtain ⟨c, ec, _, _⟩ := DataW.trod_int Try.underlying3 h2'
      obtain ⟨d, ed, _, _⟩ := DataW.trod_int Try.underlying3 h3'
      simp at ea eb ec ed
      exact ⟨⟨a, b, c, d⟩, by rw [ea, eb, ec, ed]⟩
theorem spot_none {w : World} {a : Addr} {x : Value} (h : w.cell? a = some x) : a.spot = none := by
  unfold World.cell? at h
  split at h
  · split at h
    · cases h
    · rename_i h1
      simpa using h1
  · cases h
theorem add_plain (b o j : Nat) : (⟨b, o, none⟩ : Addr).add j = ⟨b, o + j, none⟩ := by
  unfold Addr.add
  split
  · rename_i h
    subst h
    rfl
  · rfl
theorem misses_cells {H : Type} {enc : TypeId × Value → H} {W : World} {fuel : Nat} {v : Value} {y : DataW H × List MemPlace} (hf : DataW.trod enc Try.prog W 0 (fun _ => true) true fuel 199 [v] = some y) :
    ∃ (A : Option Addr) (cap : Nat) (L : List MissM), v = .slice A L.length cap ∧ L.length ≤ cap ∧ cap ≤ 9223372036854775807 ∧ MSrc W A L := by
  rcases open_slice Try.underlying199 hf with ⟨hcs, _⟩ | ⟨a, len, cap, m, n, D, Pl, hcs, _, hl, hm, hmm, _, hcell⟩
  · have e : v = .slice none 0 0 := by simpa using hcs
    rw [e]
    exact ⟨none, 0, [], rfl, Nat.le_refl _, by omega, fun h0 => absurd h0 (by simp)⟩
  · have e : v = .slice (some a) len cap := by simpa using hcs
    rw [e]
    have hm' : m = cap := by simpa using hmm
    have each : ∀ i, i < len → ∃ q : MissM, W.cell? (a.add (i * 4)) = some (.int .i64 q.sn) ∧ W.cell? (a.add (i * 4 + 1)) = some (.bool q.part) ∧ W.cell? (a.add (i * 4 + 2)) = some (.int .i64 q.fr) ∧ W.cell? (a.add (i * 4 + 3)) = some (.int .i64 q.to) := by
      intro i hi
      obtain ⟨cs', hc, ht⟩ := hcell i (by omega)
      rw [Try.cells311] at hc
      obtain ⟨q, rfl⟩ := miss_cells ht
      obtain ⟨_, _, hg⟩ := World.cells?_some hc
      have g0 := hg 0 (by omega)
      have g1 := hg 1 (by omega)
      have g2 := hg 2 (by omega)
      have g3 := hg 3 (by omega)
      rw [Go.Deep.add_add] at g0 g1 g2 g3
      exact ⟨q, g0, g1, g2, g3⟩
    let q : Nat → MissM := fun i => if h : i < len then (each i h).choose else ⟨0, false, 0, 0⟩
    have hq : ∀ i, i < len → W.cell? (a.add (i * 4)) = some (.int .i64 (q i).sn) ∧ W.cell? (a.add (i * 4 + 1)) = some (.bool (q i).part) ∧ W.cell? (a.add (i * 4 + 2)) = some (.int .i64 (q i).fr) ∧ W.cell? (a.add (i * 4 + 3)) = some (.int .i64 (q i).to) := by
      intro i hi
      have e : q i = (each i hi).choose := by simp [q, hi]
      rw [e]
      exact (each i hi).choose_spec
    refine ⟨some a, cap, (List.range len).map q, by simp, by simpa using hl, by unfold maxLen at hm; exact hm, fun h0 => ?_⟩
    have h0' : 0 < len := by simpa using h0
    have hs : a.spot = none := by
      have h1 := spot_none (hq 0 h0').1
      simpa [Addr.add] using h1
    obtain ⟨b, o, s⟩ := a
    simp only at hs
    subst hs
    refine ⟨b, o, rfl, fun k m hk => ?_⟩
    have hkl : k < len := by
      have := (List.getElem?_eq_some_iff.1 hk).1
      simpa using this
    rw [List.getElem?_map, List.getElem?_range hkl] at hk
    simp only [Option.map_some, Option.some.injEq] at hk
    subst hk
    obtain ⟨c0, c1, c2, c3⟩ := hq k hkl
    refine ⟨?_, ?_, ?_, ?_⟩
    · rwa [add_plain] at c0
    · rwa [add_plain, ← Nat.add_assoc] at c1
    · rwa [add_plain, ← Nat.add_assoc] at c2
    · rwa [add_plain, ← Nat.add_assoc] at c3
theorem st_agg_field {H : Type} {enc : TypeId × Value → H} {P : Program} {w : World} {base b0 : Nat} {spare : Nat → Bool} {held : Bool} {r : Reach} {t : TypeId} {fs : Array Field} {v : Value} {d : DataW H} {p : List MemPlace}
    (hs : P.underlying t = some (.struct fs)) (hone : oneCellFields P fs = true) (hC : P.cellsOf t = fs.size) (hv : Value.okWide P w r b0 t v) (h : DataW.Trod enc P w base spare held t v d p) :
    ∃ cs : Array Value, v = .agg cs ∧ cs.size = fs.size ∧ ∃ n, ∀ (j : Nat) (f : Field), fs[j]? = some f → ∃ (x : Value) (y : DataW H × List MemPlace), cs[j]? = some x ∧ DataW.trod enc P w base spare held n f.type [x] = some y := by
  obtain ⟨cs, rfl, hsz⟩ := okWide_struct hs hv
  obtain ⟨fuel, hf⟩ := h
  obtain ⟨xs, n, _, _, _, hlen, hg⟩ := DataW.trod_struct hs hf
  refine ⟨cs, rfl, hsz.trans hC, n, fun j f hj => ?_⟩
  obtain ⟨ho, hk⟩ := hone_of hone j f hj
  have hjl : j < fs.size := (Array.getElem?_eq_some_iff.1 hj).1
  have hjc : j < cs.size := by rw [hsz, hC]; exact hjl
  have hjx : j < xs.length := by omega
  refine ⟨cs[j], xs[j], Array.getElem?_eq_getElem hjc, ?_⟩
  have h1 := hg j f hj
  rw [ho, hk, List.getElem?_eq_getElem hjx] at h1
  have e : ((Value.agg cs).cells.toList.drop j).take 1 = [cs[j]] := by
    simp only [Value.cells]
    rw [List.drop_eq_getElem_cons (by simpa using hjc)]
    simp
  rw [← e]
  exact h1
set_option maxRecDepth 100000 in
theorem status_arg {H : Type} {enc : TypeId × Value → H} {W : World} {base : Nat} {v : Value} {d : DataW H} {p : List MemPlace} (hok : Value.okWide Try.prog W .any base 201 v)
    (h : DataW.Trod enc Try.prog W 0 (fun _ => true) true 201 v d p) : ∃ (ack : Int) (A : Option Addr) (cap : Nat) (L : List MissM), v = .agg #[.int .i64 ack, .slice A L.length cap] ∧ L.length ≤ cap ∧ cap ≤ 9223372036854775807 ∧ MSrc W A L := by
  obtain ⟨cs, rfl, hsz, n, hf⟩ := st_agg_field Try.underlying201 (by kernel_rfl) (by kernel_rfl) hok h
  obtain ⟨x0, y0, e0, h0⟩ := hf 0 _ rfl
  obtain ⟨x1, y1, e1, h1⟩ := hf 1 _ rfl
  have hcs : cs = #[x0, x1] := by
    have hsz7 : cs.size = 2 := hsz
    apply Array.ext (by rw [hsz7]; rfl)
    intro i hi _
    have h7 : i < 2 := by omega
    have key : ∀ k x, cs[k]? = some x → ∀ (hk : k < cs.size), cs[k] = x := fun k x hx hk => by
      rw [Array.getElem?_eq_getElem hk] at hx
      injection hx
    rcases i with _ | _ | i
    · exact key 0 _ e0 hi
    · exact key 1 _ e1 hi
    · omega
  subst hcs
  obtain ⟨a0, g0, _⟩ := DataW.trod_int Try.underlying3 h0
  injection g0 with g0
  subst g0
  obtain ⟨A, cap, L, rfl, q1, q2, q3⟩ := misses_cells h1
  exact ⟨a0, A, cap, L, rfl, q1, q2, q3⟩
set_option maxRecDepth 100000 in
theorem miss_arg {H : Type} {enc : TypeId × Value → H} {W : World} {base : Nat} {v : Value} {d : DataW H} {p : List MemPlace} (hok : Value.okWide Try.prog W .any base 311 v)
    (h : DataW.Trod enc Try.prog W 0 (fun _ => true) true 311 v d p) : ∃ m : MissM, v = m.v := by
  obtain ⟨cs, rfl, hsz⟩ := okWide_struct Try.underlying311 hok
  obtain ⟨fuel, hf⟩ := h
  obtain ⟨m, hm⟩ := miss_cells hf
  refine ⟨m, ?_⟩
  unfold MissM.v
  congr 1
  apply Array.toList_inj.1
  simpa [Value.cells] using hm
end Go.Proofs.Ytbcjfdhphpckfaa
namespace Go.Proofs.Ytbcjfdhphpckfaa
open Go.RowKit

def inB (n l m : Int) : Bool := decide (l ≤ n) && decide (n ≤ m)
def limV (l : List (Int × Int × Int)) : List Value := l.flatMap fun x => [.int .i64 x.1, .int .i64 x.2.1, .int .i64 x.2.2]
theorem limV_cons (x : Int × Int × Int) (t : List (Int × Int × Int)) : limV (x :: t) = .int .i64 x.1 :: .int .i64 x.2.1 :: .int .i64 x.2.2 :: limV t := rfl
theorem limV_at {l : List (Int × Int × Int)} {k : Nat} {x : Int × Int × Int} (h : l[k]? = some x) : (limV l)[k * 3]? = some (.int .i64 x.1) ∧ (limV l)[k * 3 + 1]? = some (.int .i64 x.2.1) ∧ (limV l)[k * 3 + 2]? = some (.int .i64 x.2.2) := by
  induction l generalizing k with
  | nil => simp at h
  | cons z r ih =>
    cases k with
    | zero => simp at h; subst h; exact ⟨rfl, rfl, rfl⟩
    | succ k =>
      have h2 := ih (k := k) (by simpa using h)
      rw [limV_cons, show (k + 1) * 3 = k * 3 + 1 + 1 + 1 by omega]
      simpa using h2
def limB (x : Int × Int × Int) : Bool := inB x.1 x.2.1 x.2.2
set_option maxRecDepth 100000 in
set_option maxHeartbeats 1600000 in
theorem pwithin_any {g : Nat} {l : List (Int × Int × Int)} {cs : Array Value} (n cap : Nat) (w : World) (hn : l.length = n) (hn9 : n ≤ 100) (hr : Row w g 257 cs) (hc : cs = (limV l).toArray) :
    Calls Try.prog 185 #[.slice (some ⟨g, 0, none⟩) n cap] w fun e w' => e = .returned (.bool (l.all limB)) ∧ Below w.heap.size w w' := by
  subst hc
  have HR := Lib.hid hr
  have HL := Lib.hid hn
  clear hr hn
  go_enter Try.func185, Try.ntmps185
  go_wp2
  go_loopw [7] (fun i wr => ∃ k : Nat, k ≤ n ∧ i = .int .i64 k ∧ Hid (l.all limB = (l.drop k).all limB) ∧ Hid (Below w.heap.size w wr)) (fun i _ => n - (intOf i).toNat)
  case atStart => exact ⟨0, by omega, rfl, Lib.hid (by simp), Lib.hid (Below.refl _ _)⟩
  case round =>
    obtain ⟨k, hk, rfl, HK, HB⟩ := hrel
    by_cases hlt : k < n
    · obtain ⟨⟨x, lo, hi⟩, hx⟩ : ∃ r, l[k]? = some r := ⟨_, List.getElem?_eq_getElem (by rw [HL.out]; exact hlt)⟩
      obtain ⟨e0, e1, e2⟩ := limV_at hx
      have RG := HR.out.later HB.out
      have f0 : wr.cell? ⟨g, k * 3, none⟩ = some (.int .i64 x) := RG.read (by simpa using e0)
      have f1 : wr.cell? ⟨g, k * 3 + 1, none⟩ = some (.int .i64 lo) := RG.read (by simpa using e1)
      have f2 : wr.cell? ⟨g, k * 3 + 2, none⟩ = some (.int .i64 hi) := RG.read (by simpa using e2)
      have HD := Lib.hid (show l.drop k = (x, lo, hi) :: l.drop (k + 1) by
        obtain ⟨h1, h2⟩ := List.getElem?_eq_some_iff.1 hx
        rw [List.drop_eq_getElem_cons h1, h2])
      have hkI : (k : Int) < (n : Int) := by omega
      have RM := Row.made wr 257 #[.int .i64 x, .int .i64 lo, .int .i64 hi]
      have m0 := RM.read (i := 0) rfl
      have m1 := RM.read (i := 1) rfl
      have m2 := RM.read (i := 2) rfl
      clear hx e0 e1 e2 RG RM
      by_cases h1 : x < lo
      · have h1' : decide (x < lo) = true := decide_eq_true h1
        have HF := Lib.hid (show limB (x, lo, hi) = false by unfold limB inB; simp; omega)
        clear h1
        go_wp2
        go_ret
        exact ⟨ret_bool (by rw [HK.out, HD.out]; simp [HF.out]), bl_alloc HB.out _⟩
      · have h1' : decide (x < lo) = false := decide_eq_false h1
        by_cases h2 : hi < x
        · have h2' : decide (hi < x) = true := decide_eq_true h2
          have HF := Lib.hid (show limB (x, lo, hi) = false by unfold limB inB; simp; omega)
          clear h1 h2
          go_wp2
          go_ret
          exact ⟨ret_bool (by rw [HK.out, HD.out]; simp [HF.out]), bl_alloc HB.out _⟩
        · have h2' : decide (hi < x) = false := decide_eq_false h2
          have HF := Lib.hid (show limB (x, lo, hi) = true by unfold limB inB; simp; omega)
          clear h1 h2
          go_wp2
          go_roundw
          case rel => exact ⟨k + 1, by omega, by go_num, Lib.hid (by rw [HK.out, HD.out]; simp [HF.out]), Lib.hid (bl_alloc HB.out _)⟩
          case measure => simp [intOf]; omega
    · have hkn : k = n := by omega
      subst hkn
      go_wp2
      go_ret
      exact ⟨ret_bool (by rw [HK.out, List.drop_of_length_le (by rw [HL.out]; exact Nat.le_refl _)]; rfl), HB.out⟩
end Go.Proofs.Ytbcjfdhphpckfaa
