/-
  AmdHeads: the law walked. A law's row follows from its walk: the call returns true, and below the heap's old size the world is as it was; then every argument reads as it did. How the packets and bytes that a statement draws read. How the packets of amd that a statement draws read.
-/
import Derived.Test.YtolinlnnbdjimaaJAmdHeads18
import Derived.Test.YtolinlnnbdjimaaRows
import Derived.WalkKit
import Derived.ProofKit
import Derived.OpenShut
import Derived.Test.YtolinlnnbdjimaaJAmdHeads07
import Derived.SizedLaws
import Derived.Deep.Matrix
import Derived.Lib.SmallJoins
namespace Go.Proofs.Ytolinlnnbdjimaa
open Go.RowKit

theorem cells_amd' {w : World} {g : Nat} {a b c d e f s : Value} (hr : Row w g 32 #[a, b, c, d, e, f, s]) :
    w.cell? ⟨g, 0, none⟩ = some a ∧ w.cell? ⟨g, 1, none⟩ = some b ∧ w.cell? ⟨g, 2, none⟩ = some c ∧ w.cell? ⟨g, 3, none⟩ = some d ∧ w.cell? ⟨g, 4, none⟩ = some e ∧ w.cell? ⟨g, 5, none⟩ = some f ∧ w.cell? ⟨g, 6, none⟩ = some s :=
  ⟨hr.read rfl, hr.read rfl, hr.read rfl, hr.read rfl, hr.read rfl, hr.read rfl, hr.read rfl⟩
set_option maxRecDepth 100000 in
set_option maxHeartbeats 3200000 in
/-- the packet may not be, or the field is too long -/
theorem aheads_none {A : Option Addr} {L : List RowB} {B : Option Addr} (poll part last : Bool) (fi sn off wd : Int) (n cap nf cf : Nat) (w : World) (hL : L.length = n) (hn : n ≤ 9223372036854775807) (hs : RSrc w A L) (hm : ∀ m ∈ lens L, m ≤ 9223372036854775807)
    (hno : 4200 < nf ∨ (nf ≤ 4200 ∧ amdF part last fi sn off (lens L) wd = 0)) :
    Calls Try.prog 7 #[.agg #[.bool poll, .int .i64 fi, .int .i64 sn, .bool part, .bool last, .int .i64 off, .slice A n cap], .slice B nf cf, .int .i64 wd] w fun e w' => e = .returned (.bool true) ∧ Below w.heap.size w w' := by
  have HGR := Lib.hid (great_any n cap (w.alloc (.cells #[.bool poll, .int .i64 fi, .int .i64 sn, .bool part, .bool last, .int .i64 off, .slice A n cap] 32)) hL hn (hs.later (bl_alloc (Below.refl _ _) _)) hm)
  have HS := Lib.hid (fun W (hb : Below w.heap.size w W) => asize_any (A := A) poll part last fi sn off wd n cap W hL hn (hs.later hb) hm)
  rcases hno with h42 | ⟨h42, h0⟩
  · have h42' : (4200 : Int) < nf := by omega
    clear hs hL hm
    go_enter Try.func7, Try.ntmps7
    go_wp2_with (go_at_call 19; refine HGR.out.mono ?_; rintro e w1 ⟨⟨b, rfl, hbb⟩, rfl⟩; cases b)
    all_goals
      clear hbb
      go_wp2_with (go_at_call 20; refine (aalive_any _).mono ?_; rintro e w2 ⟨rfl, hb2⟩)
      go_ret
      exact ⟨rfl, bl_step (bl_alloc (Below.refl _ _) _) hb2⟩
  · have h42' : ¬ (4200 : Int) < nf := by omega
    rw [h0] at HS
    clear hs hL hm h0
    go_enter Try.func7, Try.ntmps7
    go_wp2_with (go_at_call 19; refine HGR.out.mono ?_; rintro e w1 ⟨⟨b, rfl, hbb⟩, rfl⟩; cases b)
    · clear hbb
      go_wp2_with (first
        | (go_at_call 24; refine (HS.out _ (bl_alloc (Below.refl _ _) _)).mono ?_; rintro e w2 ⟨rfl, hb2⟩; (have HB2 := Lib.hid (bl_step (bl_alloc (Below.refl w.heap.size w) _) hb2); clear hb2))
        | (go_at_call 20; refine (aalive_any _).mono ?_; rintro e w3 ⟨rfl, hb3⟩))
      go_ret
      exact ⟨rfl, HB2.out.trans (hb3.mono HB2.out.size)⟩
    · clear hbb
      go_wp2_with (go_at_call 20; refine (aalive_any _).mono ?_; rintro e w2 ⟨rfl, hb2⟩)
      go_ret
      exact ⟨rfl, bl_step (bl_alloc (Below.refl _ _) _) hb2⟩
set_option maxRecDepth 100000 in
set_option maxHeartbeats 6400000 in
theorem aheads_some {A : Option Addr} {L : List RowB} {r : RowB} (poll part last : Bool) (fi sn off wd : Int) (n cap nf cf : Nat) (w : World) (hL : L.length = n) (hn : n ≤ 9223372036854775807) (hs : RSrc w A L) (hm : ∀ m ∈ lens L, m ≤ 9223372036854775807)
    (hr : r.ok w) (hrn : r.bs.length = nf) (hrc : r.cap = cf) (h42 : nf ≤ 4200) (h0 : amdF part last fi sn off (lens L) wd ≠ 0) :
    Calls Try.prog 7 #[.agg #[.bool poll, .int .i64 fi, .int .i64 sn, .bool part, .bool last, .int .i64 off, .slice A n cap], .slice r.A nf cf, .int .i64 wd] w fun e w' => e = .returned (.bool true) ∧ Below w.heap.size w w' := by
  obtain ⟨q1, q2, q3, q4, q5, q6⟩ := heads_now h0
  rw [length_lens, hL] at q3 q4 q5
  obtain ⟨ad, rfl, _⟩ := hs (by rw [hL]; omega)
  have HGR := Lib.hid (great_any n cap (w.alloc (.cells #[.bool poll, .int .i64 fi, .int .i64 sn, .bool part, .bool last, .int .i64 off, .slice (some ad) n cap] 32)) hL hn (hs.later (bl_alloc (Below.refl _ _) _)) hm)
  have HS := Lib.hid (fun W (hb : Below w.heap.size w W) => asize_any (A := some ad) poll part last fi sn off wd n cap W hL hn (hs.later hb) hm)
  have HD := Lib.hid (fun W (hb : Below w.heap.size w W) => (show Calls Try.prog 30 #[.agg #[.bool poll, .int .i64 fi, .int .i64 sn, .bool part, .bool last, .int .i64 off, .slice (some ad) n cap]] W fun e w' => ∃ A' c', e = .returned (.slice A' (lens L).sum c') ∧ Below W.heap.size W w' from
    (adata_any (A := some ad) poll part last fi sn off n cap W hL hn (hs.later hb) (by omega)).mono fun e w' h => by
      obtain ⟨v, rfl, ho, hbl⟩ := h
      obtain ⟨A', c', rfl, _⟩ := ho.form
      rw [length_flat] at *
      exact ⟨A', c', rfl, hbl⟩))
  have HM := Lib.hid (fun W (hb : Below w.heap.size w W) A' c' (hso : RSrc W A' (L ++ [r])) => asize_any (A := A') (L := L ++ [r]) poll part last fi sn off wd (n + 1) c' W (by rw [List.length_append, hL]; rfl) (by omega) hso (by
    intro m hm2
    rw [lens_append, List.mem_append, List.mem_singleton] at hm2
    rcases hm2 with hm2 | rfl
    · exact hm m hm2
    · omega))
  have HMM := Lib.hid (fun h => heads_more (k := nf) h0 h)
  have hbig := amdF_big part last fi sn off (lens L ++ [nf]) wd
  have hnn := amdF_nonneg part last fi sn off (lens L ++ [nf]) wd
  have hbig1 := amdF_big part last fi sn off (lens L) wd
  have hnn1 := amdF_nonneg part last fi sn off (lens L) wd
  rw [lens_append, hrn] at HM
  have hz : (amdF part last fi sn off (lens L) wd == 0) = false := by simpa using h0
  have HP := Lib.hid (fun W => ahead_any part wd W)
  have HT := Lib.hid (fun W => ahead_any true wd W)
  have HF := Lib.hid (fun W => ahead_any false wd W)
  have hp1 := headA_nonneg part wd
  have ht1 := headA_nonneg true wd
  have hf1 := headA_nonneg false wd
  generalize amdF part last fi sn off (lens L) wd = F at *
  generalize hM : amdF part last fi sn off (lens L ++ [nf]) wd = M at *
  generalize (lens L).sum = d at *
  have HS0 := Lib.hid hs
  have HR0 := Lib.hid hr
  have HL0 := Lib.hid hL
  have HRN := Lib.hid (show r.v = .slice r.A nf cf by unfold RowB.v; rw [hrn, hrc])
  have a1 : decide (F < headA part wd + (d : Int)) = false := decide_eq_false (by omega)
  have a2 : (headA true wd - headA false wd != 2) = false := by simp; omega
  have a3 : n = 1 → (F != headA part wd + (d : Int)) = false := fun h => by have := q3 h; simp; omega
  generalize headA part wd = hp at *
  generalize headA true wd = ht at *
  generalize headA false wd = hf at *
  have h42' : ¬ (4200 : Int) < nf := by omega
  have HMF : (M == 0) = true ∨ ((M == 0) = false ∧ decide ((nf : Int) < M - F) = true ∧ decide (M - F ≤ (nf : Int) + 2) = true) := by
    by_cases h9 : M = 0
    · exact .inl (by simpa using h9)
    · have := HMM.out h9
      exact .inr ⟨by simpa using h9, decide_eq_true this.1, decide_eq_true this.2⟩
  clear HMM h0 hM q1 q2 q3 hs hm hr hrn hrc
  have ROW0 := Lib.hid (Row.made w 32 #[.bool poll, .int .i64 fi, .int .i64 sn, .bool part, .bool last, .int .i64 off, .slice (some ad) n cap])
  have key : ∀ b, ((n : Int) == 1) = b → (b = true → (F != hp + (d : Int)) = false) → Calls Try.prog 7 #[.agg #[.bool poll, .int .i64 fi, .int .i64 sn, .bool part, .bool last, .int .i64 off, .slice (some ad) n cap], .slice r.A nf cf, .int .i64 wd] w fun e w' => e = .returned (.bool true) ∧ Below w.heap.size w w' := by
    intro b hb1 hb2
    clear a3 hL
    have HB2 := Lib.hid hb2
    clear hb2
    go_enter Try.func7, Try.ntmps7
    go_wp2_with (go_at_call 19; refine HGR.out.mono ?_; rintro e w1 ⟨⟨b', rfl, hbb⟩, rfl⟩; cases b')
    · clear hbb
      have hb2 := HB2.out
      cases b
      all_goals
        first
          | (have hb3 := hb2 rfl; clear hb2)
          | clear hb2
        rcases HMF with hm0 | ⟨hm0, hm1, hm2⟩
        all_goals
          go_wp2_with (first
            | (go_at_call 24; (with_reducible refine (HS.out _ (bl_alloc (Below.refl _ _) _)).mono ?_); rintro e w2 ⟨rfl, hb2⟩; (have R2 := ROW0.out.later hb2; have RW2 := Lib.hid R2; obtain ⟨c0, c1, c2, c3, c4, c5, c6⟩ := cells_amd' R2; have HBB2 := Lib.hid (bl_step (bl_alloc (Below.refl w.heap.size w) _) hb2); clear hb2 R2))
            | (go_at_call 30; (with_reducible refine (HD.out _ HBB2.out).mono ?_); rintro e w3 ⟨A3, k3, rfl, hb3'⟩; (have R3 := RW2.out.later hb3'; have RW3 := Lib.hid R3; obtain ⟨d0, d1, d2, d3, d4, d5, d6⟩ := cells_amd' R3; have HBB3 := Lib.hid (HBB2.out.trans (hb3'.mono HBB2.out.size)); have hz3 : w.heap.size < w3.heap.size := R3.inside; have v6 : ((w3.alloc (.cells #[.bool poll, .int .i64 fi, .int .i64 sn, .bool part, .bool last, .int .i64 off, .slice (some ad) n cap] 32)).alloc (.cells #[] 37)).cell? ⟨w.heap.size, 6, none⟩ = some (.slice (some ad) n cap) := ((R3.more _).more _).read (i := 6) rfl; clear hb3' R3)
               have hb3V : Below w3.heap.size w3 ((w3.alloc (.cells #[.bool poll, .int .i64 fi, .int .i64 sn, .bool part, .bool last, .int .i64 off, .slice (some ad) n cap] 32)).alloc (.cells #[] 37)) := bl_alloc (bl_alloc (Below.refl _ _) _) _
               have hsrc := HS0.out.later HBB3.out
               obtain ⟨ad', hx, hcells⟩ := hsrc (by rw [HL0.out]; omega)
               injection hx with hx
               subst hx
               obtain ⟨gA, cA, wA, hrA, howA, hbA, honA⟩ := grow_row (ad := ad) (L := L) (B := w3.heap.size) (V0 := w3) (V := ((w3.alloc (.cells #[.bool poll, .int .i64 fi, .int .i64 sn, .bool part, .bool last, .int .i64 off, .slice (some ad) n cap] 32)).alloc (.cells #[] 37))) (n := n) (cap := cap) (s := w3.heap.size + 1) (Nat.le_succ _) hb3V.size (by
                 have h := Row.made (w3.alloc (.cells #[.bool poll, .int .i64 fi, .int .i64 sn, .bool part, .bool last, .int .i64 off, .slice (some ad) n cap] 32)) 37 #[]
                 rw [show (w3.alloc (.cells #[.bool poll, .int .i64 fi, .int .i64 sn, .bool part, .bool last, .int .i64 off, .slice (some ad) n cap] 32)).heap.size = w3.heap.size + 1 by simp] at h
                 exact h) HL0.out (by omega) (by omega) hb3V (fun j r' hr' => cell_below hb3V (hcells j r' hr').1)
               have ROWB : Row wA w3.heap.size 32 #[.bool poll, .int .i64 fi, .int .i64 sn, .bool part, .bool last, .int .i64 off, .slice (some ad) n cap] := ((Row.made w3 _ _).more _).only honA (by omega)
               obtain ⟨g5, c5, w5, hr5, how5, hon5⟩ := app_row howA hbA.size r (by omega)
               have hr5 : (Builtin.append_ #[30, 30] 30 #[.slice (some ⟨gA, 0, none⟩) n cA, .slice (some ⟨wA.heap.size, 0, none⟩) 1 1]).run Try.prog (wA.alloc (.cells #[.slice r.A nf cf] 37)) = .ok (.slice (some ⟨g5, 0, none⟩) (n + 1) c5) w5 := by
                 have e : r.v = Value.slice r.A r.bs.length r.cap := rfl
                 rw [← e, HRN.out] at hr5
                 exact hr5
               have ROW5 : Row w5 w3.heap.size 32 #[.bool poll, .int .i64 fi, .int .i64 sn, .bool part, .bool last, .int .i64 off, .slice (some ad) n cap] := ROWB.only hon5 (own_apart howA ROWB (by decide))
               have hb5 : Below w3.heap.size w3 w5 := hbA.trans (hon5.below hbA.size (fun k hk hS => by have := (howA.lt k hS).1; omega))
               obtain ⟨m0, m1, m2, m3, m4, m5, m6⟩ := cells_amd' ROW5
               have f6 := ROW5.free 6
               have ROW6 := Lib.hid (ROW5.written 6 (.slice (some ⟨g5, 0, none⟩) (n + 1) c5))
               have hb6 : Below w3.heap.size w3 (w5.setCell ⟨w3.heap.size, 6, none⟩ (.slice (some ⟨g5, 0, none⟩) (n + 1) c5)) := hb5.setCell (Nat.le_refl _) _
               have HB6 := Lib.hid (HBB3.out.trans (hb6.mono HBB3.out.size))
               have HSR6 := Lib.hid (show RSrc (w5.setCell ⟨w3.heap.size, 6, none⟩ (.slice (some ⟨g5, 0, none⟩) (n + 1) c5)) (some ⟨g5, 0, none⟩) (L ++ [r]) from rows_own (B := w3.heap.size) (n := n + 1) (c := c5) (by
                   rw [List.map_append]
                   exact own_only how5 ((Only.refl (fun k => k = w3.heap.size) w5).set (p := ⟨w3.heap.size, 6, none⟩) (.inl rfl) _) (fun k hk hS => own_apart how5 ROW5 (by decide) (by rw [hk]; exact congrArg some hS))) (fun r' hr' => by
                   rw [List.mem_append, List.mem_singleton] at hr'
                   rcases hr' with hr' | rfl
                   · exact (rows_ok HS0.out r' hr').later HB6.out
                   · exact HR0.out.later HB6.out))
               have HM6 := Lib.hid (HM.out _ HB6.out _ c5 HSR6.out)
               clear hcells hsrc hbA honA how5 hon5 ROWB ROW5 hb5 hb6 howA hb3V)
            | (go_at_call 28; (with_reducible refine (HT.out _).mono ?_); rintro e wx ⟨rfl, rfl⟩)
            | (go_at_call 28; (with_reducible refine (HF.out _).mono ?_); rintro e wx ⟨rfl, rfl⟩)
            | (go_at_call 28; (with_reducible refine (HP.out _).mono ?_); rintro e wx ⟨rfl, rfl⟩)
            | (at_builtin; refine wpList_run rfl (.tmp 62) (.tmp 64) 30 rfl (.slice (some ⟨w3.heap.size + 1, 0, none⟩) 0 0) (.slice (some ad) n cap) (by rfl) (by rfl) hrA ?_)
            | (at_builtin; refine wpList_run rfl (.tmp 65) (.tmp 67) 30 rfl (.slice (some ⟨gA, 0, none⟩) n cA) (.slice (some ⟨wA.heap.size, 0, none⟩) 1 1) (by rfl) (by rfl) hr5 ?_)
            | (go_at_call 24; (with_reducible refine HM6.out.mono ?_); rintro e w7 ⟨rfl, hb7⟩; (have HB7 := Lib.hid (HB6.out.trans (hb7.mono HB6.out.size)); clear hb7))
            | (go_at_call 20; refine (aalive_any _).mono ?_; rintro e w8 ⟨rfl, hb8⟩))
          go_ret
          exact ⟨rfl, HB7.out.trans (hb8.mono HB7.out.size)⟩
    · clear hbb
      go_wp2_with (go_at_call 20; refine (aalive_any _).mono ?_; rintro e w2 ⟨rfl, hb2⟩)
      go_ret
      exact ⟨rfl, bl_step (bl_alloc (Below.refl _ _) _) hb2⟩
  exact key _ rfl (fun h => a3 (by have : (n : Int) = 1 := by simpa using h
                                   omega))
theorem aheads_all {A B : Option Addr} (poll part last : Bool) (fi sn off wd : Int) (L : List RowB) (cap : Nat) (bs : List Nat) (cb : Nat) (w : World) (hcap : L.length ≤ cap) (hcm : cap ≤ 9223372036854775807) (hs : RSrc w A L) (hm : ∀ m ∈ lens L, m ≤ 9223372036854775807)
    (hcb : bs.length ≤ cb) (hcbm : cb ≤ 9223372036854775807) (hsb : Src w B (bts bs)) (hb : ∀ b ∈ bs, b < 256) :
    Calls Try.prog 7 #[.agg #[.bool poll, .int .i64 fi, .int .i64 sn, .bool part, .bool last, .int .i64 off, .slice A L.length cap], .slice B bs.length cb, .int .i64 wd] w fun e w' => e = .returned (.bool true) ∧ Below w.heap.size w w' := by
  rcases Nat.lt_or_ge 4200 bs.length with h | h
  · exact aheads_none poll part last fi sn off wd L.length cap bs.length cb w rfl (by omega) hs hm (.inl h)
  · by_cases h0 : amdF part last fi sn off (lens L) wd = 0
    · exact aheads_none poll part last fi sn off wd L.length cap bs.length cb w rfl (by omega) hs hm (.inr ⟨h, h0⟩)
    · exact aheads_some (r := ⟨B, cb, bs⟩) poll part last fi sn off wd L.length cap bs.length cb w rfl (by omega) hs hm ⟨hsb, hcb, hcbm, hb⟩ rfl rfl h h0
end Go.Proofs.Ytolinlnnbdjimaa
namespace Go.Proofs.Ytolinlnnbdjimaa
open Go.ChangeShapes Go.WideShapes Go.ChangeAt Go.RowKit

theorem lawOwn : ownKnob Try.prog.godebug = none := by kernel_rfl
theorem lawLaid : laidOutB Try.prog = true := by kernel_rfl

section
variable {H : Type} {enc : TypeId × Value → H} {P : Program}
/-- what was read in the old world is read in the new one -/
theorem args_stay (hl : laidOutB P = true) {W W' : World} (hb : Below W.heap.size W W') : ∀ (ts : List TypeId) (vs : List Value) (ds : List (DataW H)) (ps : List MemPlace),
    (∀ t ∈ ts, P.readableRec t = true ∧ t < P.types.size) → DataW.TrodAll enc P W 0 (fun _ => true) true ts vs ds ps → (∀ x ∈ ps, x.block < W.heap.size) →
    DataW.TrodAll enc P W' 0 (fun b => decide (b < W.heap.size)) true ts vs ds ps := by
  intro ts
  induction ts with
  | nil =>
    intro vs ds ps _ h _
    obtain ⟨rfl, rfl, rfl⟩ := trodAll_nil h
    exact trodAll_mk0
  | cons t ts ih =>
    intro vs ds ps hr h hlt
    obtain ⟨v, vs', d, ds', p, q, rfl, rfl, rfl, h1, h2⟩ := trodAll_cons h
    have ht := hr t (List.mem_cons_self ..)
    exact trodAll_cons_mk (Below.trod hl ht.1 ht.2 h1 hb fun x hx => hlt x (List.mem_append_left _ hx))
      (ih vs' ds' q (fun u hu => hr u (List.mem_cons_of_mem _ hu)) h2 fun x hx => hlt x (List.mem_append_right _ hx))

theorem law_post {f : Func} {s : ChangeSpec} {W W' : World} {args : Array Value} {ds gs : List (DataW H)} {before : List MemPlace} {B : TypeId}
    (hl : laidOutB P = true) (hr : f.params.toList.all (fun t => P.readableRec t && decide (t < P.types.size)) = true) (hv : s.vars = [])
    (hW : DataW.Whole enc P f.params.toList s.vars false W args.toList ds gs before)
    (hs : s.fn H (ds ++ gs) = { results := [.lit (.bool true)], args := ds }) (ht : f.resultTypes = #[B]) (hB : P.underlying B = some .bool)
    (hb : Below W.heap.size W W') : s.post enc P f false true false false W args (.bool true) W' := by
  have hW' := hW
  obtain ⟨p, q, hA, hV, rfl, _, _⟩ := hW
  rw [hv] at hV
  obtain ⟨rfl, rfl⟩ := trodVars_none hV
  refine ⟨ds, [], p ++ [], [], p, [], hW', ?_, ?_, ?_, hb.frame _, fun h => by cases h⟩
  · rw [hs, ht]
    exact trodAll_mk1 (shut_bool hB true)
  · rw [hs]
    exact args_stay hl hb _ _ _ _ (fun t h => by have := List.all_eq_true.1 hr t h; simpa using this) hA fun x hx => hW'.lt x (List.mem_append_left _ hx)
  · rw [hs, hv]
    exact rfl
end
end Go.Proofs.Ytolinlnnbdjimaa
namespace Go.Proofs.Ytolinlnnbdjimaa
open Go.ChangeShapes Go.WideShapes Go.ChangeAt Go.RowKit Go.Deep


theorem Try.cells5 : Try.prog.cellsOf 5 = 1 := by kernel_rfl
theorem Try.cells37 : Try.prog.cellsOf 37 = 1 := by kernel_rfl
theorem nums_src {W : World} {a : Addr} {cap len : Nat} {zs : List Int} (hl : len ≤ cap) (hz : zs.length = cap) (hc : ∀ j, j < cap → W.cell? (a.add j) = some (.int .u8 (zs.getD j 0))) (hw : ∀ n ∈ zs, (Lit.int .u8 n).wf = true) :
    ((zs.take len).map Int.toNat).length = len ∧ Src W (some a) (bts ((zs.take len).map Int.toNat)) ∧ ∀ b ∈ (zs.take len).map Int.toNat, b < 256 := by
  have hlen : ((zs.take len).map Int.toNat).length = len := by rw [List.length_map, List.length_take]; omega
  refine ⟨hlen, fun h0 => ⟨a, rfl, fun j u hu => ?_⟩, fun b hb => ?_⟩
  · have hj : j < len := by
      have h1 := (List.getElem?_eq_some_iff.1 hu).1
      rw [length_bts, hlen] at h1
      exact h1
    have h2 := hc j (by omega)
    rw [h2]
    have hjz : j < zs.length := by omega
    have hww := bounds_u8 (hw zs[j] (List.getElem_mem hjz))
    have h3 : ((zs.take len).map Int.toNat)[j]? = some zs[j].toNat := by
      rw [List.getElem?_map, List.getElem?_take, if_pos hj, List.getElem?_eq_getElem hjz]
      rfl
    have h4 := bts_at h3
    rw [h4] at hu
    injection hu with hu
    rw [← hu, List.getD_eq_getElem?_getD, List.getElem?_eq_getElem hjz]
    simp only [Option.getD_some]
    rw [Int.toNat_of_nonneg hww.1]
  · rw [List.mem_map] at hb
    obtain ⟨z, hz2, rfl⟩ := hb
    have hww := bounds_u8 (hw z (List.mem_of_mem_take hz2))
    omega
set_option maxRecDepth 100000 in
theorem bytes_arg {H : Type} {enc : TypeId × Value → H} {W : World} {base : Nat} {v : Value} {d : DataW H} {p : List MemPlace} (hok : Value.okWide Try.prog W .any base 37 v)
    (h : DataW.Trod enc Try.prog W 0 (fun _ => true) true 37 v d p) : ∃ (A : Option Addr) (cap : Nat) (l : List Nat), v = .slice A l.length cap ∧ l.length ≤ cap ∧ cap ≤ 9223372036854775807 ∧ Src W A (bts l) ∧ ∀ b ∈ l, b < 256 := by
  obtain ⟨a0, len, cap, rfl⟩ := okWide_slice Try.underlying37 hok
  obtain ⟨fuel, hf⟩ := h
  rcases open_ints Try.underlying37 Try.underlying5 Try.cells5 hf with ⟨hcs, _⟩ | ⟨a, len', cap', zs, hcs, _, hl, hm, hz, _, hcell, hwz⟩
  · simp only [Value.cells] at hcs
    have e : Value.slice a0 len cap = .slice none 0 0 := by simpa using hcs
    rw [e]
    exact ⟨none, 0, [], rfl, Nat.le_refl _, by omega, fun h0 => absurd h0 (by simp [bts]), fun b hb => by cases hb⟩
  · have e : Value.slice a0 len cap = .slice (some a) len' cap' := by simpa [Value.cells] using hcs
    rw [e]
    have hz' : zs.length = cap' := by simpa using hz
    obtain ⟨h1, h2, h3⟩ := nums_src (W := W) (a := a) hl hz' (fun j hj => hcell j (by omega)) hwz
    exact ⟨some a, cap', _, by rw [h1], by omega, by unfold maxLen at hm; exact hm, h2, h3⟩
set_option maxRecDepth 100000 in
theorem rows_cells {H : Type} {enc : TypeId × Value → H} {W : World} {fuel : Nat} {v : Value} {y : DataW H × List MemPlace} (hf : DataW.trod enc Try.prog W 0 (fun _ => true) true fuel 30 [v] = some y) :
    ∃ (A : Option Addr) (cap : Nat) (L : List RowB), v = .slice A L.length cap ∧ L.length ≤ cap ∧ cap ≤ 9223372036854775807 ∧ RSrc W A L ∧ ∀ m ∈ lens L, m ≤ 9223372036854775807 := by
  rcases open_int_rows Try.underlying30 Try.underlying37 Try.underlying5 Try.cells37 Try.cells5 hf with ⟨hcs, _⟩ | ⟨a, len', cap', A, L, C, Z, hcs, _, hl, hm, _, hx⟩
  · have e : v = .slice none 0 0 := by simpa [Value.cells] using hcs
    rw [e]
    exact ⟨none, 0, [], rfl, Nat.le_refl _, by omega, fun h0 => absurd h0 (by simp), fun m hm => by cases hm⟩
  · have e : v = .slice (some a) len' cap' := by simpa [Value.cells] using hcs
    rw [e]
    have hlen : ((List.range len').map fun k => (⟨A k, C k, ((Z k).take (L k)).map Int.toNat⟩ : RowB)).length = len' := by simp
    have hrow : ∀ k r, ((List.range len').map fun k => (⟨A k, C k, ((Z k).take (L k)).map Int.toNat⟩ : RowB))[k]? = some r → W.cell? (a.add k) = some r.v ∧ r.ok W := by
      intro k r hr
      have hk : k < len' := by
        have h1 := (List.getElem?_eq_some_iff.1 hr).1
        rw [hlen] at h1
        exact h1
      have hr' : r = ⟨A k, C k, ((Z k).take (L k)).map Int.toNat⟩ := by
        rw [List.getElem?_map, List.getElem?_range hk] at hr
        simp only [Option.map_some, Option.some.injEq] at hr
        exact hr.symm
      subst hr'
      obtain ⟨h1, h2, h3, h4, h5, h6, h7⟩ := hx k (by omega)
      unfold maxLen at h3
      have hll : (((Z k).take (L k)).map Int.toNat).length = L k := by rw [List.length_map, List.length_take]; omega
      refine ⟨by rw [h1]; show _ = some (Value.slice (A k) (((Z k).take (L k)).map Int.toNat).length (C k)); rw [hll], ?_⟩
      cases hA : A k with
      | none =>
        have hc0 := h6 hA
        have hl0 : L k = 0 := by omega
        refine ⟨fun h0 => ?_, by rw [hll]; exact h2, h3, fun b hb => ?_⟩
        · rw [length_bts, hll] at h0; omega
        · rw [hl0] at hb; simp at hb
      | some a' =>
        obtain ⟨_, hc⟩ := h7 a' hA
        obtain ⟨_, g2, g3⟩ := nums_src (W := W) h2 h4 hc h5
        exact ⟨g2, by rw [hll]; exact h2, h3, g3⟩
    refine ⟨some a, cap', (List.range len').map fun k => ⟨A k, C k, ((Z k).take (L k)).map Int.toNat⟩, by rw [hlen], by omega, by unfold maxLen at hm; exact hm, fun h0 => ⟨a, rfl, hrow⟩, fun m hm2 => ?_⟩
    obtain ⟨k, hk⟩ := List.getElem?_of_mem hm2
    simp only [lens, List.getElem?_map, Option.map_eq_some_iff] at hk
    obtain ⟨r, hr, rfl⟩ := hk
    have h9 := (hrow k r (by rw [List.getElem?_map, Option.map_eq_some_iff]; exact hr)).2
    have := h9.2.1
    have := h9.2.2.1
    omega
set_option maxRecDepth 100000 in
/-- a packet of umd as it came in -/
theorem upack_arg {H : Type} {enc : TypeId × Value → H} {W : World} {base : Nat} {v : Value} {d : DataW H} {p : List MemPlace} (hok : Value.okWide Try.prog W .any base 59 v)
    (h : DataW.Trod enc Try.prog W 0 (fun _ => true) true 59 v d p) : ∃ (fi sn : Int) (A : Option Addr) (cap : Nat) (L : List RowB), v = .agg #[.int .i64 fi, .int .i64 sn, .slice A L.length cap] ∧ L.length ≤ cap ∧ cap ≤ 9223372036854775807 ∧ RSrc W A L ∧ ∀ m ∈ lens L, m ≤ 9223372036854775807 := by
  obtain ⟨v0, v1, v2, y0, y1, y2, k, rfl, _, _, h0, h1, h2⟩ := Joins.open_agg3 Try.underlying59 (by kernel_rfl) (by kernel_rfl) hok h
  obtain ⟨A, cap, L, rfl, g1, g2, g3, g4⟩ := rows_cells h2
  obtain ⟨fi, rfl⟩ : ∃ fi, v0 = .int .i64 fi := by
    obtain ⟨n, h9, _⟩ := DataW.trod_int Try.underlying3 h0
    exact ⟨n, by simpa using h9⟩
  obtain ⟨sn, rfl⟩ : ∃ sn, v1 = .int .i64 sn := by
    obtain ⟨n, h9, _⟩ := DataW.trod_int Try.underlying3 h1
    exact ⟨n, by simpa using h9⟩
  exact ⟨fi, sn, A, cap, L, rfl, g1, g2, g3, g4⟩
end Go.Proofs.Ytolinlnnbdjimaa
namespace Go.Proofs.Ytolinlnnbdjimaa
open Go.ChangeShapes Go.WideShapes Go.ChangeAt Go.RowKit Go.Deep

theorem agg_field {H : Type} {enc : TypeId × Value → H} {P : Program} {w : World} {base b0 : Nat} {spare : Nat → Bool} {held : Bool} {r : Reach} {t : TypeId} {fs : Array Field} {v : Value} {d : DataW H} {p : List MemPlace}
    (hs : P.underlying t = some (.struct fs)) (hone : oneCellFields P fs = true) (hC : P.cellsOf t = fs.size) (hv : Value.okWide P w r b0 t v) (h : DataW.Trod enc P w base spare held t v d p) :
    ∃ cs : Array Value, v = .agg cs ∧ cs.size = fs.size ∧ ∃ n, ∀ (j : Nat) (f : Field), fs[j]? = some f → ∃ (x : Value) (y : DataW H × List MemPlace), cs[j]? = some x ∧ DataW.trod enc P w base spare held n f.type [x] = some y := by
  obtain ⟨cs, rfl, hsz⟩ := okWide_struct hs hv
  obtain ⟨fuel, hf⟩ := h
  obtain ⟨xs, n, _, _, _, hlen, hg⟩ := DataW.trod_struct hs hf
  refine ⟨cs, rfl, hsz.trans hC, n, fun j f hj => ?_⟩
  obtain ⟨ho, hk⟩ := hone_of hone j f hj
  have hjl : j < fs.size := (Array.getElem?_eq_some_iff.1 hj).1
  have hjc : j < cs.size := by rw [hsz, hC]; exact hjl
  have hjx : j < xs.length := by omega
  refine ⟨cs[j], xs[j], Array.getElem?_eq_getElem hjc, ?_⟩
  have h1 := hg j f hj
  rw [ho, hk, List.getElem?_eq_getElem hjx] at h1
  have e : ((Value.agg cs).cells.toList.drop j).take 1 = [cs[j]] := by
    simp only [Value.cells]
    rw [List.drop_eq_getElem_cons (by simpa using hjc)]
    simp
  rw [← e]
  exact h1
set_option maxRecDepth 100000 in
/-- a packet of amd as it came in -/
theorem apack_arg {H : Type} {enc : TypeId × Value → H} {W : World} {base : Nat} {v : Value} {d : DataW H} {p : List MemPlace} (hok : Value.okWide Try.prog W .any base 32 v)
    (h : DataW.Trod enc Try.prog W 0 (fun _ => true) true 32 v d p) : ∃ (poll part last : Bool) (fi sn off : Int) (A : Option Addr) (cap : Nat) (L : List RowB), v = .agg #[.bool poll, .int .i64 fi, .int .i64 sn, .bool part, .bool last, .int .i64 off, .slice A L.length cap] ∧ L.length ≤ cap ∧ cap ≤ 9223372036854775807 ∧ RSrc W A L ∧ ∀ m ∈ lens L, m ≤ 9223372036854775807 := by
  obtain ⟨cs, rfl, hsz, n, hf⟩ := agg_field Try.underlying32 (by kernel_rfl) (by kernel_rfl) hok h
  obtain ⟨x0, y0, e0, h0⟩ := hf 0 _ rfl
  obtain ⟨x1, y1, e1, h1⟩ := hf 1 _ rfl
  obtain ⟨x2, y2, e2, h2⟩ := hf 2 _ rfl
  obtain ⟨x3, y3, e3, h3⟩ := hf 3 _ rfl
  obtain ⟨x4, y4, e4, h4⟩ := hf 4 _ rfl
  obtain ⟨x5, y5, e5, h5⟩ := hf 5 _ rfl
  obtain ⟨x6, y6, e6, h6⟩ := hf 6 _ rfl
  have hcs : cs = #[x0, x1, x2, x3, x4, x5, x6] := by
    have hsz7 : cs.size = 7 := hsz
    apply Array.ext (by rw [hsz7]; rfl)
    intro i hi _
    have h7 : i < 7 := by omega
    have key : ∀ k x, cs[k]? = some x → ∀ (hk : k < cs.size), cs[k] = x := fun k x hx hk => by
      rw [Array.getElem?_eq_getElem hk] at hx
      injection hx
    rcases i with _ | _ | _ | _ | _ | _ | _ | i
    · exact key 0 _ e0 hi
    · exact key 1 _ e1 hi
    · exact key 2 _ e2 hi
    · exact key 3 _ e3 hi
    · exact key 4 _ e4 hi
    · exact key 5 _ e5 hi
    · exact key 6 _ e6 hi
    · omega
  subst hcs
  obtain ⟨b0, g0, _⟩ := DataW.trod_bool Try.underlying4 h0
  obtain ⟨n1, g1, _⟩ := DataW.trod_int Try.underlying3 h1
  obtain ⟨n2, g2, _⟩ := DataW.trod_int Try.underlying3 h2
  obtain ⟨b3, g3, _⟩ := DataW.trod_bool Try.underlying4 h3
  obtain ⟨b4, g4, _⟩ := DataW.trod_bool Try.underlying4 h4
  obtain ⟨n5, g5, _⟩ := DataW.trod_int Try.underlying3 h5
  injection g0 with g0
  injection g1 with g1
  injection g2 with g2
  injection g3 with g3
  injection g4 with g4
  injection g5 with g5
  subst g0 g1 g2 g3 g4 g5
  obtain ⟨A, cap, L, rfl, q1, q2, q3, q4⟩ := rows_cells h6
  exact ⟨b0, b3, b4, n1, n2, n5, A, cap, L, rfl, q1, q2, q3, q4⟩
end Go.Proofs.Ytolinlnnbdjimaa
