/-
  status: a status is read: the walk. status: a status is written: its bytes, or why it has none. What status answers to fixed calls.
-/
import Derived.Test.YtolinlnnbdjimaaJStatusGrows10
import Derived.Test.YtolinlnnbdjimaaJStatusGrows08
import Derived.Test.YtolinlnnbdjimaaJStatusGrows03
namespace Go.Proofs.Ytolinlnnbdjimaa
open Go.RowKit

theorem fault_x {bs : List Nat} {x : Nat} (h : faultS bs x = 0) : (x = 10 ∨ x = 16) ∧ 0 < bs.length := by
  unfold faultS at h
  repeat' split at h
  all_goals first | exact absurd h (by decide) | skip
  rename_i h1 h2 h3 h4
  have := okS_nat (show okS (x : Int) = true by simpa using h1)
  omega
theorem OwnM.set {B g j : Nat} {w : World} {v : Value} {L : List MissM} {t : TypeId} {cs : Array Value} (h : OwnM B w v L) (hg : Row w g t cs) (ht : t ≠ 26) (x : Value) : OwnM B (w.setCell ⟨g, j, none⟩ x) v L :=
  own_only h ((Only.refl (fun k => k = g) w).set (p := ⟨g, j, none⟩) (.inl rfl) _) (fun k hk hS => own_apart h hg (Ne.symm ht) (by rw [hk]; exact congrArg some hS))
theorem sclip_same (A : Option Addr) (n c : Nat) (W : World) (hn : n ≤ c) (_ : c ≤ 9223372036854775807) :
    Calls Try.prog 152 #[.slice A n c] W fun e w' => e = .returned (.slice A n n) ∧ W = w' := by
  cases A with
  | none =>
    go_enter Try.func152, Try.ntmps152
    go_wp2
    go_ret
    exact ⟨rfl, rfl⟩
  | some ad =>
    go_enter Try.func152, Try.ntmps152
    go_wp2
    go_ret
    exact ⟨rfl, rfl⟩
theorem st_good {w w' : World} {bs : List Nat} {x : Nat} {e : Ending} {L : List MissM} {a : Int} {A : Option Addr} {c : Nat} (h : stRd bs x = (0, a, L)) (hb : Below w.heap.size w w') (he : e = .returned (.tuple #[.agg #[.int .i64 a, .slice A L.length c], .int .i64 0])) (h1 : L.length ≤ c) (h2 : c ≤ 9223372036854775807) (hs : MSrc w' A L) : StRAns w bs x e w' :=
  ⟨hb, fun _ => by rw [h]; exact ⟨A, c, he, h1, h2, hs⟩, fun h0 => by rw [h] at h0; exact absurd rfl h0⟩
def StJ (w : World) (A : Option Addr) (n cap : Nat) (bs : List Nat) (x : Nat) (a' : Act) (w' : World) : Prop := ∃ (p gb q i : Nat) (acc : List MissM) (mv : Value) (more : Bool), Fr [some (.slice A n cap), some (.int .i64 x), none, none, some (.pointer (some ⟨w.heap.size, 0, none⟩)), some (.int .i64 0), none, some (.pointer (some ⟨p, 0, none⟩)), none, none, some (.pointer (some ⟨q, 0, none⟩)), some (.bool more), none, none, none, none, none, none, none, none, none, none, none, none, none, none, none, none, none, none, none, none, none, none, none, none, none, none, none, none, none, none, none, none, none, none, none, none, none, none, none, none, none, none, none, none, none, none, none, none, none, none, none, none, none, none, none, none, none, none, none, none, none, none, none, none, none, none, none, none, none, none, none, none, none, none, none, none, none, none, none, none, none, none, none, none, none, none] a' ∧ Hid (StL w bs p gb q ((val (seg bs (0 + 4) x) : Nat) : Int) acc mv i w') ∧ Hid (LoopEq bs x acc i more) ∧ Hid (0 + 4 + x + 1 ≤ 8 * bs.length)
def StMu (a' : Act) (w' : World) : Nat := 40 - stLen ((w'.cell? ⟨ptrBlk (a'.tmps.getD 10 undef), 1, none⟩).getD undef)
set_option maxRecDepth 100000 in
set_option maxHeartbeats 12800000 in
theorem sread_walk {A : Option Addr} {bs : List Nat} (x n cap : Nat) (w : World) (hn : bs.length = n) (hm : n ≤ 8192) (hc : n ≤ cap) (hs : Src w A (bts bs)) (hb : ∀ b ∈ bs, b < 256) (hf : faultS bs x = 0) :
    Calls Try.prog 70 #[.slice A n cap, .int .i64 x] w (StRAns w bs x) := by
  obtain ⟨hx, hpos⟩ := fault_x hf
  have hF := sfault_any x n cap (w.alloc (.cells #[.int .i64 0, .slice none 0 0] 24)) hn (st_src_later hs (bl_alloc (Below.refl _ _) _)) hb
  rw [hf] at hF
  have HF := Lib.hid hF
  have hRD := read_any A cap bs (w.alloc (.cells #[.int .i64 0, .slice none 0 0] 24)) (by omega) (by omega) (st_src_later hs (bl_alloc (Below.refl _ _) _)) hb
  rw [hn] at hRD
  have HRD := Lib.hid hRD
  have HFZ := Lib.hid hf
  have HN := Lib.hid hn
  have HX := Lib.hid hx
  have hx16 : x ≤ 16 := by omega
  have ROW := Lib.hid (Row.made w 24 #[.int .i64 0, .slice none 0 0])
  have HSZ := Lib.hid (size_1 w (.cells #[.int .i64 0, .slice none 0 0] 24))
  clear hF hRD hf hs hb hn hx
  go_enter Try.func70, Try.ntmps70
  go_wp2
  refine st_scope_through 0 (fun a' w' => StJ w A n cap bs x a' w') (fun a' w' => StMu a' w') rfl ?_ ?_
  · intro hrest
    by_cases hsh : 8 * bs.length < 0 + 4 + x + 1
    · have HE := Lib.hid (stRd_short HFZ.out hsh)
      go_wp2_with (first
        | (go_at_call 148; (with_reducible refine HF.out.mono ?_); rintro e w1 ⟨rfl, rfl⟩)
        | (go_at_call 136; (with_reducible refine HRD.out.mono ?_); rintro e w2 ⟨p, gb, rfl, hp, hgb, hr2, hb2⟩; rw [HSZ.out] at hp; (have HB2 := Lib.hid (bl_step (bl_alloc (Below.refl w.heap.size w) _) hb2); have ROW2 := Lib.hid (ROW.out.later hb2); have HS2 := Lib.hid (StR.start (B := w.heap.size + 1) hr2 hp); have HG := Lib.hid ((HS2.out.more (bl_alloc (Below.refl _ _) (.cells #[.int .i64 4, .int .i64 x, .int .i64 1] 3))).get_no (g := w2.heap.size) (n := 3) (cap := 3) (W := [4, x, 1]) (row_at2 w2 _ 3 _ rfl) rfl (by omega) (by intro y hy; simp at hy; omega) (by simp; omega)); clear hr2 hb2 hgb))
        | (go_at_call 149; (with_reducible refine HG.out.mono ?_); rintro e w3 ⟨rfl, hk3⟩; (have HK3 := Lib.hid hk3; have ROW3 := Lib.hid (hk3.row ROW2.out (by decide)); clear hk3; obtain ⟨⟨c0, c1⟩, f0, f1⟩ := cells2 ROW3.out)))
      simp only [Exit.jump]
      obtain ⟨dd, hdd⟩ := understat_parts
      refine bodyPost_ret (st_results_two rfl _ _ w.heap.size 24 #[.int .i64 0, .slice none 0 0] dd rfl (row_set2 ROW3.out) hdd Try.infostat) rfl ?_
      exact st_bad HE.out (by decide) (below_set2 (HB2.out.trans (HK3.out.1.mono (Nat.le_succ _))) _ _) rfl
    · have hsg : segs bs 0 [4, x, 1] = [val (seg bs 0 4), val (seg bs (0 + 4) x), (bitAt bs (0 + 4 + x)).toNat] := by
        simp only [segs]
        rw [val_one (i := 0 + 4 + x) (by omega)]
      have hsum : 0 + [4, x, 1].sum = 0 + 4 + x + 1 := by simp; omega
      have HSG := Lib.hid hsg
      have HSUM := Lib.hid hsum
      have HLE := Lib.hid (LoopEq.start bs x)
      have HFIT := Lib.hid (show 0 + 4 + x + 1 ≤ 8 * bs.length by omega)
      clear hsg hsum
      generalize hmo0 : bitAt bs (0 + 4 + x) = more at *
      generalize hak0 : val (seg bs (0 + 4) x) = ack at *
      have hmo := Lib.hid hmo0
      have hak := Lib.hid hak0
      clear hmo0 hak0
      have hbi := bit_is more
      go_wp2_with (first
        | (go_at_call 148; (with_reducible refine HF.out.mono ?_); rintro e w1 ⟨rfl, rfl⟩)
        | (go_at_call 136; (with_reducible refine HRD.out.mono ?_); rintro e w2 ⟨p, gb, rfl, hp, hgb, hr2, hb2⟩; rw [HSZ.out] at hp; (have HB2 := Lib.hid (bl_step (bl_alloc (Below.refl w.heap.size w) _) hb2); have ROW2 := Lib.hid (ROW.out.later hb2); have HS2 := Lib.hid (StR.start (B := w.heap.size + 1) hr2 hp); have hg0 := ((HS2.out.more (bl_alloc (Below.refl _ _) (.cells #[.int .i64 4, .int .i64 x, .int .i64 1] 3))).get (g := w2.heap.size) (n := 3) (cap := 3) (W := [4, x, 1]) (row_at2 w2 _ 3 _ rfl) rfl (by omega) (by intro y hy; simp at hy; omega) (by simp; omega)); rw [HSG.out, HSUM.out] at hg0; have HG := Lib.hid hg0; clear hr2 hb2 hgb hg0))
        | (go_at_call 149; (with_reducible refine HG.out.mono ?_); rintro e w3 ⟨g3, rfl, hrow3, hg3, hs3⟩; (have HS3 := Lib.hid hs3; have HROW3 := Lib.hid hrow3; have ROW3 := Lib.hid (hs3.2.1.row ROW2.out (by decide)); clear hrow3 hg3 hs3)))
      have d1 := HROW3.out.drawn.read (i := 1) (x := .int .i64 ack) rfl
      have d2 := HROW3.out.drawn.read (i := 2) (x := .int .i64 more.toNat) rfl
      go_region_held3 (fun w' => w'.cell? ⟨g3, 1, none⟩ = some (.int .i64 ack) ∧ w'.cell? ⟨g3, 2, none⟩ = some (.int .i64 more.toNat)) (first | assumption | exact ⟨d1, d2⟩ | exact ⟨cell_more _ d1, cell_more _ d2⟩ | go_keep) (fail)
      go_wp2
      go_step3
      rename_i Q9 K9 h9
      refine h9 _ _ (hrest _ _ ⟨p, gb, w3.heap.size, 0 + 4 + x + 1, [], .slice none 0 0, more, ?_, Lib.hid ?_, HLE, HFIT⟩)
      · simp only [Fr, Holes]
        repeat apply Exists.intro
        rfl
      · have hw := ROW3.out.inside
        rw [hak.out]
        exact ⟨HS3.out.1.later (bl_drew (bl_alloc (Below.refl _ _) _)), (ROW3.out.more _).drawn, (Row.made w3 _ _).drawn, OwnM.nil _ _, ((HB2.out.trans (HS3.out.2.1.1.mono (Nat.le_succ _))).alloc (Nat.le_of_lt hw) _).drew, hp, hw⟩
  · rintro a' w' ⟨p, gb, q, i, acc, mv, more, hfr, HST, HLE, HFIT⟩
    simp only [Fr, Holes] at hfr
    repeat (obtain ⟨_, hfr⟩ := hfr)
    have hpA := HST.out.above.1
    obtain ⟨⟨z0, z1⟩, y0, y1⟩ := cells2 HST.out.res
    obtain ⟨⟨b0, b1⟩, v0, v1⟩ := cells2 HST.out.box
    have HNF := Lib.hid (show ¬ 8 * bs.length < 0 + 4 + x + 1 by have := HFIT.out; omega)
    clear HF HRD
    cases more
    · have HD := Lib.hid HLE.out.done
      have HALL := Lib.hid (stRd_all HFZ.out HNF.out HD.out)
      obtain ⟨Am, cm, rfl, hcm1, hcm2⟩ := HST.out.own.form
      cases hro : restOk bs i
      · have HR := Lib.hid (srest_no w' HST.out.rd hro)
        have HE := Lib.hid (show stRd bs x = (3, 0, []) by rw [HALL.out, if_pos rfl, hro]; rfl)
        clear hro
        go_wp2_with (go_at_call 151; (with_reducible refine HR.out.mono ?_); rintro e w1 ⟨Ar, nr, er, rfl, ho1, hcase⟩; (have HK1 := Lib.hid (got_keep (B := w.heap.size + 1) HST.out.rd hpA ho1); clear ho1; have RS1 := Lib.hid (HK1.out.row HST.out.res (by decide)); obtain ⟨⟨s0, s1⟩, t0, t1⟩ := cells2 RS1.out; rcases hcase with ⟨rfl, hn0⟩ | rfl))
        · have hn1 : decide (0 < nr) = true := by simpa using hn0
          go_wp2
          simp only [Exit.jump]
          obtain ⟨dd, hdd⟩ := understat_parts
          refine bodyPost_ret (st_results_two rfl _ _ w.heap.size 24 #[.int .i64 0, .slice none 0 0] dd rfl (row_set2 RS1.out) hdd Try.infostat) rfl ?_
          exact st_bad HE.out (by decide) (below_set2 (HST.out.below.trans (HK1.out.1.mono (Nat.le_succ _))) _ _) rfl
        · go_wp2
          simp only [Exit.jump]
          obtain ⟨dd, hdd⟩ := understat_parts
          refine bodyPost_ret (st_results_two rfl _ _ w.heap.size 24 #[.int .i64 0, .slice none 0 0] dd rfl (row_set2 RS1.out) hdd Try.infostat) rfl ?_
          exact st_bad HE.out (by decide) (below_set2 (HST.out.below.trans (HK1.out.1.mono (Nat.le_succ _))) _ _) rfl
      · have HR := Lib.hid (srest_yes w' HST.out.rd hro)
        have HE := Lib.hid (show stRd bs x = (0, ((val (seg bs (0 + 4) x) : Nat) : Int), acc) by rw [HALL.out, if_pos rfl, hro]; rfl)
        have HCL := Lib.hid (fun W => sclip_same Am acc.length cm W hcm1 hcm2)
        have HAL := Lib.hid (show acc.length ≤ 32 from HLE.out.1)
        clear hro
        generalize hal0 : acc.length = al at *
        have hal := Lib.hid hal0
        clear hal0
        generalize val (seg bs (0 + 4) x) = ack at *
        go_wp2_with (first
          | (go_at_call 151; (with_reducible refine HR.out.mono ?_); rintro e w1 ⟨gr, rfl, ho1⟩; (have HK1 := Lib.hid (got_keep (B := w.heap.size + 1) HST.out.rd hpA ho1); clear ho1; have RS1 := Lib.hid (HK1.out.row HST.out.res (by decide)); have RB1 := Lib.hid (HK1.out.row HST.out.box (by decide)); obtain ⟨⟨s0, s1⟩, t0, t1⟩ := cells2 RS1.out; obtain ⟨⟨q0, q1⟩, r0, r1⟩ := cells2 RB1.out))
          | (go_at_call 152; (with_reducible refine (HCL.out _).mono ?_); rintro e wx ⟨rfl, rfl⟩; (have RS2 := Lib.hid (RS1.out.elsewhere (p := ⟨q, 1, none⟩) (Nat.ne_of_lt HST.out.above.2) (.slice Am al al)); have RB2 := Lib.hid (RB1.out.written 1 (.slice Am al al)); obtain ⟨⟨S0, S1⟩, T0, T1⟩ := cells2 RS2.out; obtain ⟨⟨Q0, Q1⟩, -⟩ := cells2 RB2.out)))
        simp only [Exit.jump]
        obtain ⟨dd, hdd⟩ := understat_parts
        have OW := (((HST.out.own.keepR HK1.out).set (j := 1) RB1.out (by decide) (.slice Am al al)).set (j := 0) RS2.out (by decide) (.int .i64 ack)).set (j := 1) (RS2.out.written 0 _) (by decide) (.slice Am al al)
        refine bodyPost_ret (st_results_two rfl _ _ w.heap.size 24 #[.int .i64 ack, .slice Am al al] dd rfl (row_set2 RS2.out) hdd Try.infostat) rfl ?_
        exact st_good (A := Am) (c := al) HE.out (below_set2 ((HST.out.below.trans (HK1.out.1.mono (Nat.le_succ _))).setCell (p := ⟨q, 1, none⟩) (Nat.le_of_lt HST.out.above.2) _) _ _) (by rw [hal.out]; rfl) (Nat.le_of_eq hal.out) (by have := HAL.out; omega) (OwnM.src OW)
    · have HMS := Lib.hid (smiss_any (B := w.heap.size + 1) x w' HST.out.rd hpA hx16)
      cases hrd : rdMiss bs x i with
      | none =>
        have HE := Lib.hid (show stRd bs x = (8, 0, []) by rw [stRd_all HFZ.out HNF.out (HLE.out.none hrd)]; rfl)
        have HMN := Lib.hid (HMS.out.mono (R' := fun e w2 => e = .returned (.tuple #[.agg #[.int .i64 0, .bool false, .int .i64 0, .int .i64 0], .bool false, .int .i64 8]) ∧ KeepR (w.heap.size + 1) w' w2) fun _ _ h => ⟨h.2.1 hrd, h.2.2⟩)
        clear hrd HMS
        go_wp2_with (go_at_call 150; (with_reducible refine HMN.out.mono ?_); rintro e w1 ⟨rfl, hk1⟩; (have HK1 := Lib.hid hk1; clear hk1; have RS1 := Lib.hid ((HK1.out.row HST.out.res (by decide)).more (.cells #[.int .i64 0, .bool false, .int .i64 0, .int .i64 0] 26)); obtain ⟨⟨s0, s1⟩, t0, t1⟩ := cells2 RS1.out))
        simp only [Exit.jump]
        obtain ⟨dd, hdd⟩ := understat_parts
        refine bodyPost_ret (st_results_two rfl _ _ w.heap.size 24 #[.int .i64 0, .slice none 0 0] dd rfl (row_set2 RS1.out) hdd Try.infostat) rfl ?_
        exact st_bad HE.out (by decide) (below_set2 (bl_alloc (HST.out.below.trans (HK1.out.1.mono (Nat.le_succ _))) _) _ _) rfl
      | some y =>
        obtain ⟨m, follows, j⟩ := y
        have HMN := Lib.hid (HMS.out.mono (R' := fun e w2 => e = .returned (.tuple #[.agg #[.int .i64 m.sn, .bool m.part, .int .i64 m.fr, .int .i64 m.to], .bool follows, .int .i64 0]) ∧ RRep w2 p gb bs j ∧ KeepR (w.heap.size + 1) w' w2) fun _ _ h => ⟨(h.1 _ _ _ hrd).1, (h.1 _ _ _ hrd).2, h.2.2⟩)
        obtain ⟨Am, cm, rfl, hcm1, hcm2⟩ := HST.out.own.form
        have HPL := Lib.hid (fun W => splaced_any m x W)
        unfold MissM.v at HPL
        have hal32 : acc.length ≤ 32 := HLE.out.1
        clear HMS
        by_cases hlong : follows = true ∧ acc.length = 31
        · obtain ⟨rfl, h31⟩ := hlong
          have HE := Lib.hid (show stRd bs x = (2, 0, []) by rw [stRd_all HFZ.out HNF.out (HLE.out.long hrd h31)]; rfl)
          have h31a : (acc.length == 31) = true := by simpa using h31
          have h31b : ((acc.length : Int) == 31) = true := by simp; omega
          clear hrd h31
          go_wp2_with (go_at_call 150; (with_reducible refine HMN.out.mono ?_); rintro e w1 ⟨rfl, hr1, hk1⟩; (have HST1 := Lib.hid (HST.out.keep hr1 hk1); clear hr1 hk1; have HST2 := Lib.hid (HST1.out.more (bl_alloc (Below.refl _ _) (.cells #[.int .i64 m.sn, .bool m.part, .int .i64 m.fr, .int .i64 m.to] 26))); have RM2 := Lib.hid (Row.made w1 26 #[.int .i64 m.sn, .bool m.part, .int .i64 m.fr, .int .i64 m.to]); obtain ⟨⟨s0, s1⟩, t0, t1⟩ := cells2 HST2.out.res; obtain ⟨⟨q0, q1⟩, r0, r1⟩ := cells2 HST2.out.box; obtain ⟨⟨m0, m1, m2, m3⟩, -⟩ := cells4 RM2.out))
          simp only [Exit.jump]
          obtain ⟨dd, hdd⟩ := understat_parts
          refine bodyPost_ret (st_results_two rfl _ _ w.heap.size 24 #[.int .i64 0, .slice none 0 0] dd rfl (row_set2 HST2.out.res) hdd Try.infostat) rfl ?_
          exact st_bad HE.out (by decide) (below_set2 HST2.out.below _ _) rfl
        · cases hpl : placedB m x
          · have HE := Lib.hid (show stRd bs x = (3, 0, []) by rw [stRd_all HFZ.out HNF.out (HLE.out.form hrd (fun h h2 => hlong ⟨h, h2⟩) hpl)]; rfl)
            rw [hpl] at HPL
            have h31 : follows = true → acc.length ≠ 31 := fun h h2 => hlong ⟨h, h2⟩
            clear hrd hlong hpl
            cases follows
            · clear h31
              go_wp2_with (first
                | (go_at_call 150; (with_reducible refine HMN.out.mono ?_); rintro e w1 ⟨rfl, hr1, hk1⟩; (have HST1 := Lib.hid (HST.out.keep hr1 hk1); clear hr1 hk1; have HST2 := Lib.hid (HST1.out.more (bl_alloc (Below.refl _ _) (.cells #[.int .i64 m.sn, .bool m.part, .int .i64 m.fr, .int .i64 m.to] 26))); have RM2 := Lib.hid (Row.made w1 26 #[.int .i64 m.sn, .bool m.part, .int .i64 m.fr, .int .i64 m.to]); obtain ⟨⟨s0, s1⟩, t0, t1⟩ := cells2 HST2.out.res; obtain ⟨⟨q0, q1⟩, r0, r1⟩ := cells2 HST2.out.box; obtain ⟨⟨m0, m1, m2, m3⟩, -⟩ := cells4 RM2.out))
                | (go_at_call 142; (with_reducible refine (HPL.out _).mono ?_); rintro e w3 ⟨rfl, hb3⟩; (have HST3 := Lib.hid (HST2.out.more hb3); clear hb3 s0 s1 t0 t1; obtain ⟨⟨s0, s1⟩, t0, t1⟩ := cells2 HST3.out.res)))
              simp only [Exit.jump]
              obtain ⟨dd, hdd⟩ := understat_parts
              refine bodyPost_ret (st_results_two rfl _ _ w.heap.size 24 #[.int .i64 0, .slice none 0 0] dd rfl (row_set2 HST3.out.res) hdd Try.infostat) rfl ?_
              exact st_bad HE.out (by decide) (below_set2 HST3.out.below _ _) rfl
            · have h31 := h31 rfl
              have h31a : (acc.length == 31) = false := by simpa using h31
              have h31b : ((acc.length : Int) == 31) = false := by simp; omega
              clear h31
              go_wp2_with (first
                | (go_at_call 150; (with_reducible refine HMN.out.mono ?_); rintro e w1 ⟨rfl, hr1, hk1⟩; (have HST1 := Lib.hid (HST.out.keep hr1 hk1); clear hr1 hk1; have HST2 := Lib.hid (HST1.out.more (bl_alloc (Below.refl _ _) (.cells #[.int .i64 m.sn, .bool m.part, .int .i64 m.fr, .int .i64 m.to] 26))); have RM2 := Lib.hid (Row.made w1 26 #[.int .i64 m.sn, .bool m.part, .int .i64 m.fr, .int .i64 m.to]); obtain ⟨⟨s0, s1⟩, t0, t1⟩ := cells2 HST2.out.res; obtain ⟨⟨q0, q1⟩, r0, r1⟩ := cells2 HST2.out.box; obtain ⟨⟨m0, m1, m2, m3⟩, -⟩ := cells4 RM2.out))
                | (go_at_call 142; (with_reducible refine (HPL.out _).mono ?_); rintro e w3 ⟨rfl, hb3⟩; (have HST3 := Lib.hid (HST2.out.more hb3); clear hb3 s0 s1 t0 t1; obtain ⟨⟨s0, s1⟩, t0, t1⟩ := cells2 HST3.out.res)))
              simp only [Exit.jump]
              obtain ⟨dd, hdd⟩ := understat_parts
              refine bodyPost_ret (st_results_two rfl _ _ w.heap.size 24 #[.int .i64 0, .slice none 0 0] dd rfl (row_set2 HST3.out.res) hdd Try.infostat) rfl ?_
              exact st_bad HE.out (by decide) (below_set2 HST3.out.below _ _) rfl
          · have HLN := Lib.hid (HLE.out.next hrd (fun h h2 => hlong ⟨h, h2⟩) hpl)
            rw [hpl] at HPL
            have h31 : follows = true → acc.length ≠ 31 := fun h h2 => hlong ⟨h, h2⟩
            have hal31 : acc.length ≤ 31 := by
              have h := HLN.out.1
              simp at h
              omega
            clear hrd hlong hpl
            cases follows
            · clear h31
              go_wp2_with (first
                | (go_at_call 150; (with_reducible refine HMN.out.mono ?_); rintro e w1 ⟨rfl, hr1, hk1⟩; (have HST1 := Lib.hid (HST.out.keep hr1 hk1); clear hr1 hk1; have HST2 := Lib.hid (HST1.out.more (bl_alloc (Below.refl _ _) (.cells #[.int .i64 m.sn, .bool m.part, .int .i64 m.fr, .int .i64 m.to] 26))); have RM2 := Lib.hid (Row.made w1 26 #[.int .i64 m.sn, .bool m.part, .int .i64 m.fr, .int .i64 m.to]); obtain ⟨⟨s0, s1⟩, t0, t1⟩ := cells2 HST2.out.res; obtain ⟨⟨q0, q1⟩, r0, r1⟩ := cells2 HST2.out.box; obtain ⟨⟨m0, m1, m2, m3⟩, -⟩ := cells4 RM2.out))
                | (go_at_call 142; (with_reducible refine (HPL.out _).mono ?_); rintro e w3 ⟨rfl, hb3⟩; (have HST3 := Lib.hid (HST2.out.more hb3); have RM3 := Lib.hid (RM2.out.later hb3); clear hb3 s0 s1 t0 t1 q0 q1 r0 r1 m0 m1 m2 m3; obtain ⟨⟨q0, q1⟩, r0, r1⟩ := cells2 HST3.out.box; obtain ⟨⟨m0, m1, m2, m3⟩, -⟩ := cells4 RM3.out; obtain ⟨g5, c5, w5, hrun, hcq, hfq, hst5⟩ := HST3.out.next m (by omega); have HST5 := Lib.hid hst5; clear hst5))
                | (at_builtin; refine wpList_run rfl (.tmp 74) (.tmp 76) 22 rfl (.slice Am acc.length cm) (.slice (some ⟨w3.heap.size, 0, none⟩) 1 1) (by rfl) (by rfl) hrun ?_))
              go_step3
              refine ⟨rfl, ⟨p, gb, q, j, acc ++ [m], _, _, ?_, HST5, HLN, HFIT⟩, ?_⟩
              · simp only [Fr, Holes]
                repeat apply Exists.intro
                rfl
              · have h5 := HST5.out.box.read (i := 1) rfl
                have h0 := HST.out.box.read (i := 1) rfl
                unfold StMu
                simp only [Array.getD_eq_getD_getElem?]
                simp [ptrBlk, h5, h0, stLen]
                omega
            · have h31 := h31 rfl
              have h31a : (acc.length == 31) = false := by simpa using h31
              have h31b : ((acc.length : Int) == 31) = false := by simp; omega
              clear h31
              go_wp2_with (first
                | (go_at_call 150; (with_reducible refine HMN.out.mono ?_); rintro e w1 ⟨rfl, hr1, hk1⟩; (have HST1 := Lib.hid (HST.out.keep hr1 hk1); clear hr1 hk1; have HST2 := Lib.hid (HST1.out.more (bl_alloc (Below.refl _ _) (.cells #[.int .i64 m.sn, .bool m.part, .int .i64 m.fr, .int .i64 m.to] 26))); have RM2 := Lib.hid (Row.made w1 26 #[.int .i64 m.sn, .bool m.part, .int .i64 m.fr, .int .i64 m.to]); obtain ⟨⟨s0, s1⟩, t0, t1⟩ := cells2 HST2.out.res; obtain ⟨⟨q0, q1⟩, r0, r1⟩ := cells2 HST2.out.box; obtain ⟨⟨m0, m1, m2, m3⟩, -⟩ := cells4 RM2.out))
                | (go_at_call 142; (with_reducible refine (HPL.out _).mono ?_); rintro e w3 ⟨rfl, hb3⟩; (have HST3 := Lib.hid (HST2.out.more hb3); have RM3 := Lib.hid (RM2.out.later hb3); clear hb3 s0 s1 t0 t1 q0 q1 r0 r1 m0 m1 m2 m3; obtain ⟨⟨q0, q1⟩, r0, r1⟩ := cells2 HST3.out.box; obtain ⟨⟨m0, m1, m2, m3⟩, -⟩ := cells4 RM3.out; obtain ⟨g5, c5, w5, hrun, hcq, hfq, hst5⟩ := HST3.out.next m (by omega); have HST5 := Lib.hid hst5; clear hst5))
                | (at_builtin; refine wpList_run rfl (.tmp 74) (.tmp 76) 22 rfl (.slice Am acc.length cm) (.slice (some ⟨w3.heap.size, 0, none⟩) 1 1) (by rfl) (by rfl) hrun ?_))
              go_step3
              refine ⟨rfl, ⟨p, gb, q, j, acc ++ [m], _, _, ?_, HST5, HLN, HFIT⟩, ?_⟩
              · simp only [Fr, Holes]
                repeat apply Exists.intro
                rfl
              · have h5 := HST5.out.box.read (i := 1) rfl
                have h0 := HST.out.box.read (i := 1) rfl
                unfold StMu
                simp only [Array.getD_eq_getD_getElem?]
                simp [ptrBlk, h5, h0, stLen]
                omega
end Go.Proofs.Ytolinlnnbdjimaa
namespace Go.Proofs.Ytolinlnnbdjimaa
open Go.RowKit

def StWAns (w : World) (ack : Int) (L : List MissM) (x : Nat) (e : Ending) (w' : World) : Prop :=
  ∃ g, e = .returned (.tuple #[.slice (some ⟨g, 0, none⟩) (stBytes ack L x).length (stBytes ack L x).length, .int .i64 0]) ∧ w.heap.size ≤ g ∧ Row w' g 5 (bts (stBytes ack L x)).toArray ∧ Below w.heap.size w w'
set_option maxRecDepth 100000 in
set_option maxHeartbeats 1600000 in
theorem stwrite_bad {A : Option Addr} {L : List MissM} (ack x : Int) (n cap : Nat) (w : World) (hL : L.length = n) (hn : n ≤ 9223372036854775807) (hs : MSrc w A L) (hb : rightB ack L x = false) :
    Calls Try.prog 69 #[.agg #[.int .i64 ack, .slice A n cap], .int .i64 x] w fun e w' => e = .returned (.tuple #[.slice none 0 0, .int .i64 (if okS x then 3 else 9)]) ∧ Below w.heap.size w w' := by
  have HR := Lib.hid (fun W hb => sright_any ack x n cap W hL hn (hs.later (v := W) hb))
  rw [hb] at HR
  have HM := Lib.hid (fun W => smay_any x W)
  have R1 := Row.made w 24 #[.int .i64 ack, .slice A n cap]
  have c0 := R1.read (i := 0) rfl
  have c1 := R1.read (i := 1) rfl
  clear hs hL hb R1
  cases hx : okS x
  all_goals
    rw [hx] at HM
    clear hx
    go_enter Try.func69, Try.ntmps69
    go_wp2_with (first
      | (go_at_call 141; refine (HM.out _).mono ?_; rintro e w1 ⟨rfl, rfl⟩)
      | (go_at_call 67; refine (HR.out _ (bl_alloc (Below.refl _ _) _)).mono ?_; rintro e w2 ⟨rfl, hb2⟩))
    go_ret2
  · exact ⟨rfl, bl_alloc (Below.refl _ _) _⟩
  · exact ⟨rfl, bl_step (bl_alloc (Below.refl _ _) _) hb2⟩
theorem StW.below {B p : Nat} {w0 w : World} {kp : List (Nat × Nat)} (h : StW B w0 p kp w) : Below B w0 w := h.2.1.1
theorem StW.len_le {ack : Int} {L : List MissM} {x : Nat} (h : rightB ack L x = true) {kp r : List (Nat × Nat)} (e : statusP ack L x = kp ++ r) : (bitsP kp).length ≤ 2000 := by
  have h1 := len_statusP ack L x
  obtain ⟨hx, hok, _, hl, _⟩ := rightB_parts h
  have h2 := (bitsS_bd hok L).2
  rw [e, bitsP_append, List.length_append] at h1
  omega
theorem byt_stw {B p n : Nat} {w0 w : World} {kp : List (Nat × Nat)} (h : StW B w0 p kp w) (ht : (bitsP kp).length ≤ 60000) (hn : (pack (bitsP kp)).length = n) :
    Calls Try.prog 147 #[.pointer (some ⟨p, 0, none⟩)] w fun e w' => ∃ g, e = .returned (.slice (some ⟨g, 0, none⟩) n n) ∧ w.heap.size ≤ g ∧ Row w' g 5 (bts (pack (bitsP kp))).toArray ∧ Below w.heap.size w w' := by
  obtain ⟨⟨sv, hr⟩, _⟩ := h
  have h1 := bytes_any hr (by omega)
  rw [← length_pack, hn] at h1
  exact h1
set_option maxRecDepth 100000 in
set_option maxHeartbeats 3200000 in
theorem stwrite_ok {A : Option Addr} {L : List MissM} (ack x n cap : Nat) (w : World) (hL : L.length = n) (hs : MSrc w A L) (hb : rightB ack L x = true) :
    Calls Try.prog 69 #[.agg #[.int .i64 ack, .slice A n cap], .int .i64 x] w (StWAns w ack L x) := by
  obtain ⟨hx, hok, ha, hl, hall⟩ := rightB_parts hb
  obtain ⟨_, ha1⟩ := (okn_nat hx).1 ha
  rw [Int.toNat_natCast] at ha1
  have HR := Lib.hid (fun W hb => sright_any ack x n cap W hL (by omega) (hs.later (v := W) hb))
  rw [hb] at HR
  have HM := Lib.hid (fun W => smay_any x W)
  rw [hok] at HM
  have ROW0 := Lib.hid (Row.made w 24 #[.int .i64 ack, .slice A n cap])
  have HS := Lib.hid hs
  have HL := Lib.hid hL
  have HX := Lib.hid hx
  have HA := Lib.hid hall
  have HA1 := Lib.hid ha1
  have HRB := Lib.hid hb
  have HLE := Lib.hid (fun kp r e => StW.len_le (kp := kp) (r := r) hb e)
  have hx16 : x ≤ 16 := by omega
  have hn32 : n ≤ 32 := by omega
  have HFULL := Lib.hid (show statusP ack L x = ((([] ++ putsN [0] 4) ++ putsN [ack] x) ++ putsN [(decide (0 < L.length)).toNat] 1) ++ missesP x L by simp [statusP, headP, putsN])
  have R1 := ROW0.out
  have HMORE := Lib.hid (show decide (0 < L.length) = decide (0 < n) by rw [hL])
  clear hs hL hx hall hb hok ha hl ha1 R1
  go_enter Try.func69, Try.ntmps69
  go_wp2_with (first
    | (go_at_call 141; refine (HM.out _).mono ?_; rintro e w1 ⟨rfl, rfl⟩)
    | (go_at_call 67; refine (HR.out _ (bl_alloc (Below.refl _ _) _)).mono ?_; rintro e w2 ⟨rfl, hb2⟩; (have HB2 := Lib.hid (bl_step (bl_alloc (Below.refl w.heap.size w) _) hb2); have ROW2 := Lib.hid (ROW0.out.later hb2); clear hb2))
    | (go_at_call 143; refine (new_any w2.heap.size w2 (Nat.le_refl _)).mono ?_; rintro e w3 ⟨rfl, hr3, hb3⟩; (have ROW3 := Lib.hid (ROW2.out.later hb3); have HB3 := Lib.hid (bl_step HB2.out hb3); have ST0 := Lib.hid (StW.start (B := w2.heap.size) (kp := []) ⟨_, hr3⟩ hb3.size); have HP1 := Lib.hid ((ST0.out.alloc (.cells #[.int .i64 0] 3)).put w3.heap.size [0] 4 1 1 4 rfl (row_at w3 _ 3 #[.int .i64 0] rfl) rfl (by omega) (by omega) (by intro v hv; simp at hv; subst hv; decide) (by simp [bitsP])); clear hr3 hb3))
    | (go_at_call 144; (with_reducible refine HP1.out.mono ?_); rintro e w4 ⟨rfl, h4⟩; (have ST1 := Lib.hid h4; clear h4 HP1; have R4 := ST1.out.2.1.row ROW3.out (by decide) (by decide); have c0 := R4.read (i := 0) rfl; have c1 := R4.read (i := 1) rfl; have HP2 := Lib.hid ((ST1.out.alloc (.cells #[.int .i64 ack] 3)).put w4.heap.size [ack] x 1 1 x rfl (row_at w4 _ 3 #[.int .i64 ack] rfl) rfl (by omega) hx16 (by intro v hv; simp at hv; subst hv; exact HA1.out) (by simp [bitsP, putsN, length_unval])); clear R4))
    | (go_at_call 144; (with_reducible refine HP2.out.mono ?_); rintro e w5 ⟨rfl, h5⟩; (have ST2 := Lib.hid h5; clear h5 HP2 c0 c1; have R5 := ST2.out.2.1.row ROW3.out (by decide) (by decide); have c1 := R5.read (i := 1) rfl; clear R5; have HP3 := Lib.hid ((ST2.out.alloc (.cells #[.int .i64 (decide (0 < n)).toNat] 3)).put w5.heap.size [(decide (0 < n)).toNat] 1 1 1 1 rfl (row_at w5 _ 3 #[.int .i64 (decide (0 < n)).toNat] rfl) rfl (by omega) (by omega) (by intro v hv; simp only [List.mem_singleton] at hv; subst hv; exact bool_one _) (by have := HX.out; simp [bitsP, putsN, length_unval]; omega))))
    | (go_at_call 145; (with_reducible refine (sbit_any _ _).mono ?_); rintro e vx ⟨rfl, rfl⟩)
    | (go_at_call 144; (with_reducible refine HP3.out.mono ?_); rintro e w6 ⟨rfl, h6⟩; (have ST3 := Lib.hid h6; clear h6 HP3 c1; have R6 := ST3.out.2.1.row ROW3.out (by decide) (by decide); have c1 := R6.read (i := 1) rfl; clear R6)))
  rw [HMORE.out] at HFULL
  go_loopw [39] (fun i wr => ∃ (k : Nat) (kp : List (Nat × Nat)), k ≤ n ∧ i = .int .i64 k ∧ Hid (statusP ack L x = kp ++ missesP x (L.drop k)) ∧ Hid (StW w2.heap.size w3 w2.heap.size kp wr)) (fun i _ => n - (intOf i).toNat)
  case atStart => exact ⟨0, _, by omega, rfl, Lib.hid HFULL.out, ST3⟩
  case round =>
    obtain ⟨k, kp, hk, rfl, HK, HST⟩ := hrel
    by_cases hlt : k < n
    · obtain ⟨ab, ao, rfl, hc⟩ := HS.out (by rw [HL.out]; omega)
      obtain ⟨m, hr⟩ : ∃ r, L[k]? = some r := ⟨_, List.getElem?_eq_getElem (by rw [HL.out]; exact hlt)⟩
      obtain ⟨e0, e1, e2, e3⟩ := hc k _ hr
      have HWR := Lib.hid (show Below w.heap.size w wr from HB3.out.trans (HST.out.below.mono HB2.out.size))
      have f0 := cell_below HWR.out e0
      have f1 := cell_below HWR.out e1
      have f2 := cell_below HWR.out e2
      have f3 := cell_below HWR.out e3
      have HD := Lib.hid (show L.drop k = m :: L.drop (k + 1) by
        obtain ⟨h1, h2⟩ := List.getElem?_eq_some_iff.1 hr
        rw [List.drop_eq_getElem_cons h1, h2])
      have HMB := Lib.hid (List.all_eq_true.1 HA.out m (List.mem_of_getElem? hr))
      have R7 := HST.out.2.1.row ROW3.out (by decide) (by decide)
      have HDL := Lib.hid (show (L.drop (k + 1)).length = n - (k + 1) by rw [List.length_drop, HL.out])
      have hkI : (k : Int) < (n : Int) := by omega
      have HSTA := Lib.hid (HST.out.alloc (.cells #[.int .i64 m.sn, .bool m.part, .int .i64 m.fr, .int .i64 m.to] 26))
      have b1 : (wr.alloc (.cells #[.int .i64 m.sn, .bool m.part, .int .i64 m.fr, .int .i64 m.to] 26)).cell? ⟨w.heap.size, 1, none⟩ = some (.slice (some ⟨ab, ao, none⟩) n cap) := (R7.more _).read rfl
      have HZ := Lib.hid (HLE.out _ _ HK.out)
      have HWRT := Lib.hid (fun more => swrite_any (p := w2.heap.size) (kp := kp) x m more (wr.alloc (.cells #[.int .i64 m.sn, .bool m.part, .int .i64 m.fr, .int .i64 m.to] 26)) HSTA.out.1 (Nat.le_trans HSTA.out.2.2 HSTA.out.2.1.2.1) HX.out HMB.out (by have := HZ.out; omega))
      clear hc hr e0 e1 e2 e3 R7
      unfold MissM.v at HWRT
      by_cases hmo : k + 1 < n
      · have HMO := Lib.hid (show decide (0 < (L.drop (k + 1)).length) = true by rw [HDL.out]; simp; omega)
        have hmI : (k : Int) < (n : Int) - 1 := by omega
        go_wp2_with (go_at_call 146; (with_reducible refine (HWRT.out _).mono ?_); rintro e w8 ⟨rfl, h8⟩)
        go_roundw
        case rel => exact ⟨k + 1, _, by omega, by go_num, Lib.hid (by rw [HK.out, HD.out, missesP, HMO.out, List.append_assoc]), Lib.hid (HSTA.out.next h8)⟩
        case measure => simp [intOf]; omega
      · have HMO := Lib.hid (show decide (0 < (L.drop (k + 1)).length) = false by rw [HDL.out]; simp; omega)
        have hmI : ¬ (k : Int) < (n : Int) - 1 := by omega
        go_wp2_with (go_at_call 146; (with_reducible refine (HWRT.out _).mono ?_); rintro e w8 ⟨rfl, h8⟩)
        go_roundw
        case rel => exact ⟨k + 1, _, by omega, by go_num, Lib.hid (by rw [HK.out, HD.out, missesP, HMO.out, List.append_assoc]), Lib.hid (HSTA.out.next h8)⟩
        case measure => simp [intOf]; omega
    · have hkn : k = n := by omega
      subst hkn
      have HE := Lib.hid (show statusP ack L x = kp by rw [HK.out, List.drop_of_length_le (by rw [HL.out]; exact Nat.le_refl _)]; simp [missesP])
      have HBY := Lib.hid (byt_stw HST.out (by have := HLE.out _ _ HK.out; omega) rfl)
      go_wp2_with (go_at_call 147; (with_reducible refine HBY.out.mono ?_); rintro e w9 ⟨g, rfl, hg, hrow, hb9⟩)
      go_ret2
      have HWR := show Below w.heap.size w wr from HB3.out.trans (HST.out.below.mono HB2.out.size)
      refine ⟨g, ?_, Nat.le_trans HWR.size hg, ?_, bl_step HWR hb9⟩
      · rw [show stBytes ack L x = pack (bitsP kp) by unfold stBytes; rw [HE.out]]
        rfl
      · rw [show stBytes ack L x = pack (bitsP kp) by unfold stBytes; rw [HE.out]]
        exact hrow
end Go.Proofs.Ytolinlnnbdjimaa
namespace Go.Proofs.Ytolinlnnbdjimaa
open Go.RowKit

theorem sread_any {A : Option Addr} {bs : List Nat} (x n cap : Nat) (w : World) (hn : bs.length = n) (hm : n ≤ 8192) (hc : n ≤ cap) (hs : Src w A (bts bs)) (hb : ∀ b ∈ bs, b < 256) :
    Calls Try.prog 70 #[.slice A n cap, .int .i64 x] w (StRAns w bs x) := by
  by_cases hf : faultS bs x = 0
  · exact sread_walk x n cap w hn hm hc hs hb hf
  · exact sread_fault x n cap w hn hs hb hf
theorem msrc_of {W : World} {g : Nat} {L : List MissM} {cs : Array Value} (h : Row W g 26 cs) (e : cs = (mcells L).toArray) : MSrc W (some ⟨g, 0, none⟩) L := by
  subst e
  intro _
  refine ⟨g, 0, rfl, fun k m hm => ?_⟩
  obtain ⟨a, b, c, d⟩ := mcells_at hm
  rw [Nat.zero_add]
  exact ⟨h.read (by simpa using a), h.read (by simpa using b), h.read (by simpa using c), h.read (by simpa using d)⟩
theorem sal1 (W : World) : Calls Try.prog 69 #[.agg #[.int .i64 5, .slice none 0 0], .int .i64 10] W fun e w' => ∃ g, e = .returned (.tuple #[.slice (some ⟨g, 0, none⟩) 2 2, .int .i64 0]) ∧ W.heap.size ≤ g ∧ Row w' g 5 (bts [0, 20]).toArray ∧ Below W.heap.size W w' := by
  have h := stwrite_ok (A := none) (L := []) 5 10 0 0 W rfl (fun h => absurd h (by decide)) (by decide +kernel)
  unfold StWAns at h
  rw [show stBytes ((5 : Nat) : Int) [] 10 = [0, 20] from by decide +kernel] at h
  exact h
def L2 : List MissM := [⟨3, true, 2, 0⟩, ⟨7, false, 0, 0⟩]
theorem right2 : rightB ((9 : Nat) : Int) L2 ((16 : Nat) : Int) = true := by decide +kernel
theorem sal2 {W : World} {g : Nat} (h : Row W g 26 #[.int .i64 3, .bool true, .int .i64 2, .int .i64 0, .int .i64 7, .bool false, .int .i64 0, .int .i64 0]) :
    Calls Try.prog 69 #[.agg #[.int .i64 9, .slice (some ⟨g, 0, none⟩) 2 2], .int .i64 16] W (StWAns W 9 L2 16) :=
  stwrite_ok (A := some ⟨g, 0, none⟩) (L := L2) 9 16 2 2 W rfl (msrc_of h rfl) right2
theorem sal3 {W : World} {g : Nat} (h : Row W g 5 (bts (stBytes 9 L2 16)).toArray) :
    Calls Try.prog 70 #[.slice (some ⟨g, 0, none⟩) (stBytes 9 L2 16).length (stBytes 9 L2 16).length, .int .i64 16] W fun e w' => ∃ b o c, e = .returned (.tuple #[.agg #[.int .i64 9, .slice (some ⟨b, o, none⟩) 2 c], .int .i64 0]) ∧ w'.cell? ⟨b, o, none⟩ = some (.int .i64 3) ∧ w'.cell? ⟨b, o + 1, none⟩ = some (.bool true) ∧ w'.cell? ⟨b, o + 2, none⟩ = some (.int .i64 2) ∧ w'.cell? ⟨b, o + 3, none⟩ = some (.int .i64 0) ∧ Below W.heap.size W w' := by
  have hl := st_len right2
  have hb : statusF ((9 : Nat) : Int) L2 ((16 : Nat) : Int) = 12 := by decide +kernel
  rw [hb] at hl
  refine (sread_any (bs := stBytes 9 L2 16) 16 _ _ W rfl (by have : ((stBytes 9 L2 16).length : Int) = 12 := hl; omega) (Nat.le_refl _) (row_src h) (pack_small _)).mono ?_
  rintro e w' ⟨h1, h2, _⟩
  have hk : stRd (stBytes 9 L2 16) 16 = (0, 9, L2) := st_back right2
  rw [hk] at h2
  obtain ⟨A, c, rfl, _, _, hs⟩ := h2 rfl
  obtain ⟨b, o, rfl, hc⟩ := hs (by decide)
  obtain ⟨c0, c1, c2, c3⟩ := hc 0 _ rfl
  simp only [Nat.zero_mul, Nat.add_zero] at c0 c1 c2 c3
  exact ⟨b, o, c, rfl, c0, c1, c2, c3, h1⟩
theorem sal4 {W : World} {g : Nat} (h : Row W g 5 #[.int .u8 128]) :
    Calls Try.prog 70 #[.slice (some ⟨g, 0, none⟩) 1 1, .int .i64 10] W fun e w' => e = .returned (.tuple #[.agg #[.int .i64 0, .slice none 0 0], .int .i64 4]) ∧ Below W.heap.size W w' := by
  refine (sread_any (bs := [128]) 10 1 1 W rfl (by omega) (by omega) (row_src (xs := bts [128]) h) (by decide)).mono ?_
  rintro e w' ⟨h1, _, h2⟩
  have hk : stRd [128] 10 = (4, 0, []) := by kernel_rfl
  rw [hk] at h2
  exact ⟨h2 (by decide), h1⟩
theorem sal5 {W : World} {g : Nat} (h : Row W g 26 #[.int .i64 0, .bool false, .int .i64 1, .int .i64 0]) :
    Calls Try.prog 69 #[.agg #[.int .i64 0, .slice (some ⟨g, 0, none⟩) 1 1], .int .i64 10] W fun e w' => e = .returned (.tuple #[.slice none 0 0, .int .i64 3]) ∧ Below W.heap.size W w' :=
  stwrite_bad (A := some ⟨g, 0, none⟩) (L := [⟨0, false, 1, 0⟩]) 0 10 1 1 W rfl (by omega) (msrc_of h rfl) (by decide +kernel)
set_option maxRecDepth 100000 in
set_option maxHeartbeats 3200000 in
theorem stalive_any (w : World) : Calls Try.prog 18 #[] w fun e w' => e = .returned (.bool true) ∧ Below w.heap.size w w' := by
  go_enter Try.func18, Try.ntmps18
  go_wp2_with (first
    | (go_at_call 69; (with_reducible refine (sal1 _).mono ?_); rintro e w1 ⟨g1, rfl, hg1, hr1, hb1⟩; (have HR1 := Lib.hid hr1; have HB1 := Lib.hid hb1; have RW1 := Lib.hid (Row.made w1 26 #[.int .i64 3, .bool true, .int .i64 2, .int .i64 0, .int .i64 7, .bool false, .int .i64 0, .int .i64 0]); clear hr1 hb1 hg1))
    | (go_at_call 69; (with_reducible refine (sal2 RW1.out).mono ?_); rintro e w2 ⟨g2, rfl, hg2, hr2, hb2⟩; (have HR2 := Lib.hid hr2; have HB2 := Lib.hid (bl_step (bl_alloc (Below.refl w1.heap.size w1) _) hb2); clear hr2 hb2 hg2))
    | (go_at_call 70; (with_reducible refine (sal3 HR2.out).mono ?_); rintro e w3 ⟨b, o, c, rfl, c0, c1, c2, c3, hb3⟩; (have HB3 := Lib.hid hb3; clear hb3; have D0 := Lib.hid c0; have D1 := Lib.hid c1; have D2 := Lib.hid c2; have D3 := Lib.hid c3; clear c0 c1 c2 c3; have RS3 := Lib.hid (Row.made w3 24 #[.int .i64 9, .slice (some ⟨b, o, none⟩) 2 c])))
    | (go_at_call 70; (with_reducible refine (sal4 (g := w3.heap.size + 1) ?z1).mono ?_); rotate_left; rintro e w4 ⟨rfl, hb4⟩; (have HB4 := Lib.hid hb4; clear hb4))
    | (go_at_call 69; (with_reducible refine (sal5 ?z2).mono ?_); rotate_left; rintro e w5 ⟨rfl, hb5⟩; (have B34 := Lib.hid (bl_step (bl_alloc (bl_alloc (Below.refl w3.heap.size w3) _) _) HB4.out); have B45 := Lib.hid (bl_step (bl_alloc (bl_alloc (Below.refl w4.heap.size w4) _) _) hb5); have B35 := Lib.hid (bl_step B34.out B45.out); have B15 := Lib.hid (bl_step (bl_step HB2.out HB3.out) B35.out); have RS5 := ((RS3.out.more _).later HB4.out).later B45.out; have k0 := RS5.read (i := 0) rfl; have k1 := RS5.read (i := 1) rfl; have e0 := cell_below B35.out D0.out; have e1 := cell_below B35.out D1.out; have e2 := cell_below B35.out D2.out; have e3 := cell_below B35.out D3.out; have kc : (convert 37 9 (.slice (some ⟨g1, 0, none⟩) 2 2)).run Try.prog w5 = .ok (.string { data := #[0, 20] }) w5 := conv_str (l := [0, 20]) (HR1.out.later B15.out) (by decide); clear hb5 RS5)))
  · go_ret
    exact ⟨rfl, bl_step HB1.out B15.out⟩
  all_goals exact row_at2 _ _ _ _ (size_1 _ _)
end Go.Proofs.Ytolinlnnbdjimaa
