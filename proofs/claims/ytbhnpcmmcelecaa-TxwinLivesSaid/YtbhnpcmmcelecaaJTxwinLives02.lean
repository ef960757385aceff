/-
  txwin: how far, stalled, open, next. txwin: both ends; the next number; a number is acknowledged. txwin: a number is acknowledged, and the first end goes on. txwin: a window is made; all as at first. A list of the call's own of one-cell elements: one more (append); how it looks.
-/
import Derived.Test.YtbhnpcmmcelecaaJTxwinLives01
import Derived.BigQuiet
import Derived.StillTailTactics
import Derived.Carry
namespace Go.Proofs.Ytbhnpcmmcelecaa
open Go.RowKit Go.Maps

section
variable {w v : World} {x m k : Nat} {b size f n nx : Int} {l : List Bool}
def farw (b f n : Int) : Int := if okn b n = true then (n - f) % sz b else -1
theorem farw_ix (h : okn b n = true) : farw b f n = (ix (sz b) f n : Int) := by
  unfold farw ix
  rw [if_pos h]
  have := okn_true h
  rw [Int.toNat_of_nonneg (Int.emod_nonneg _ (by omega))]
theorem end_far (h : WinR w x m b size f l) : farw b f ((f + l.length) % sz b) = l.length := by
  have h1 := h.hs2
  have h2 := h.hl
  have h3 := h.pos
  rw [farw_ix h.end_ok, ix_at (by omega)]
theorem wcells (hr : Row w x 169 (WC b size f nx m)) : w.cell? ⟨x, 0, none⟩ = some (.int .i64 b) ∧ w.cell? ⟨x, 1, none⟩ = some (.int .i64 size) ∧ w.cell? ⟨x, 2, none⟩ = some (.int .i64 f) ∧ w.cell? ⟨x, 3, none⟩ = some (.int .i64 nx) ∧ w.cell? ⟨x, 4, none⟩ = some (.map (some m)) :=
  ⟨hr.read rfl, hr.read rfl, hr.read rfl, hr.read rfl, hr.read rfl⟩
theorem wc13 (hr : Row w x 169 (WC b size f nx m)) : w.cell? ⟨x, 1, none⟩ = some (.int .i64 size) ∧ w.cell? ⟨x, 3, none⟩ = some (.int .i64 nx) := ⟨hr.read rfl, hr.read rfl⟩
theorem wc02 (hr : Row w x 169 (WC b size f nx m)) : w.cell? ⟨x, 0, none⟩ = some (.int .i64 b) ∧ w.cell? ⟨x, 2, none⟩ = some (.int .i64 f) := ⟨hr.read rfl, hr.read rfl⟩
set_option maxRecDepth 100000 in
set_option maxHeartbeats 800000 in
theorem wbehind_any (hr : Row w x 169 (WC b size f nx m)) (ht : rt b = true) (hn : okn b n = true) : Calls Try.prog 159 #[.pointer (some ⟨x, 0, none⟩), .int .i64 n] w fun e w' => e = .returned (.int .i64 ((n + 1) % sz b)) ∧ Below w.heap.size w w' := by
  obtain ⟨c0, c1, c2, c3, c4⟩ := wcells hr
  have HG := Lib.hid (fun W => by have h := Go_any b n 1 W; rw [(go_val ht hn (c := 1) (by omega) (by omega)).1, (go_val ht hn (c := 1) (by omega) (by omega)).2] at h; exact h)
  clear hr ht hn
  go_enter Try.func159, Try.ntmps159
  go_wp2_with (go_at_call 141; (with_reducible refine (HG.out _).mono ?_); rintro e w1 ⟨rfl, hb1⟩)
  go_ret
  exact ⟨rfl, by repeat (first | exact Below.refl _ _ | refine bl_alloc ?_ _ | refine bl_drew ?_ | refine bl_step ?_ (by assumption))⟩
theorem far_call (ht : rt b = true) (hf : okn b f = true) (W : World) : Calls Try.prog 167 #[.agg #[.int .i64 b], .int .i64 f, .int .i64 n] W fun e w' => e = .returned (.tuple #[.int .i64 (if okn b n = true then farw b f n else 0), .int .i64 (if okn b n = true then 0 else 1)]) ∧ Below W.heap.size W w' := by
  refine (qFar_any b f n W).mono ?_
  rintro e w' ⟨rfl, hb⟩
  refine ⟨?_, hb⟩
  cases ho : okn b n
  · have h1 : FarV b f n = 0 := by unfold FarV; rw [all2, ho, Bool.and_false, Bool.and_false]; rfl
    have h2 : flt b [f, n] = 1 := by unfold flt; rw [all2, hf, ho, ht]; rfl
    rw [h1, h2]; rfl
  · obtain ⟨h1, h2⟩ := far_val ht hf ho
    rw [h1, h2]
    unfold farw
    rw [if_pos ho]; rfl
set_option maxRecDepth 100000 in
set_option maxHeartbeats 800000 in
theorem wfar_row (hr : Row w x 169 (WC b size f nx m)) (ht : rt b = true) (hf : okn b f = true) : Calls Try.prog 100 #[.pointer (some ⟨x, 0, none⟩), .int .i64 n] w fun e w' => e = .returned (.int .i64 (farw b f n)) ∧ Below w.heap.size w w' := by
  have HM := Lib.hid (wmade_any (b := b) hr)
  have HR := Lib.hid hr
  have HF := Lib.hid (fun W => far_call (n := n) ht hf W)
  cases ho : okn b n
  · have e1 : farw b f n = -1 := by unfold farw; rw [ho]; rfl
    rw [ho] at HF
    rw [e1]
    simp only [Bool.false_eq_true, if_false] at HF
    clear hr ht hf ho e1
    go_enter Try.func100, Try.ntmps100
    go_wp2_with (go_at_call 158; (with_reducible refine HM.out.mono ?_); rintro e w1 ⟨rfl, hb1⟩; (have HB1 := Lib.hid hb1; have HR1 := Lib.hid ((HR.out.later hb1).drawn); clear hb1))
    have k0 := wc02 HR1.out
    go_region_held3 (fun w' => w'.cell? ⟨x, 0, none⟩ = some (.int .i64 b) ∧ w'.cell? ⟨x, 2, none⟩ = some (.int .i64 f)) (first | assumption | exact k0 | exact wc02 HR2.out | go_keep)
      (first | (go_at_call 167; (with_reducible refine (HF.out _).mono ?_); rintro e w2 ⟨rfl, hb2⟩; (have HB2 := Lib.hid (bl_step (bl_drew HB1.out) hb2); have HR2 := Lib.hid (HR1.out.later hb2); clear hb2)))
    go_wp2
    go_ret
    exact ⟨rfl, HB2.out⟩
  · have h0 : 0 ≤ farw b f n := by rw [farw_ix ho]; omega
    rw [ho] at HF
    simp only [if_true] at HF
    generalize farw b f n = d at *
    clear hr ht hf ho h0
    go_enter Try.func100, Try.ntmps100
    go_wp2_with (go_at_call 158; (with_reducible refine HM.out.mono ?_); rintro e w1 ⟨rfl, hb1⟩; (have HB1 := Lib.hid hb1; have HR1 := Lib.hid ((HR.out.later hb1).drawn); clear hb1))
    have k0 := wc02 HR1.out
    go_region_held3 (fun w' => w'.cell? ⟨x, 0, none⟩ = some (.int .i64 b) ∧ w'.cell? ⟨x, 2, none⟩ = some (.int .i64 f)) (first | assumption | exact k0 | exact wc02 HR2.out | go_keep)
      (first | (go_at_call 167; (with_reducible refine (HF.out _).mono ?_); rintro e w2 ⟨rfl, hb2⟩; (have HB2 := Lib.hid (bl_step (bl_drew HB1.out) hb2); have HR2 := Lib.hid (HR1.out.later hb2); clear hb2)))
    go_wp2
    go_ret
    exact ⟨rfl, HB2.out⟩
theorem wfar_any (h : WinR w x m b size f l) (n : Int) : Calls Try.prog 100 #[.pointer (some ⟨x, 0, none⟩), .int .i64 n] w fun e w' => e = .returned (.int .i64 (farw b f n)) ∧ Below w.heap.size w w' := wfar_row h.row h.rt h.hf
set_option maxRecDepth 100000 in
set_option maxHeartbeats 800000 in
theorem wstalled_any (h : WinR w x m b size f l) : Calls Try.prog 93 #[.pointer (some ⟨x, 0, none⟩)] w fun e w' => e = .returned (.bool (decide ((l.length : Int) = size))) ∧ Below w.heap.size w w' := by
  have HM := Lib.hid (fun W (hb : Below w.heap.size w W) => wmade_any (h.row.later hb))
  have HF := Lib.hid (fun W (hb : Below w.heap.size w W) => by have h1 := wfar_any (h.later hb) ((f + l.length) % sz b); rw [end_far h] at h1; exact h1)
  have HR := Lib.hid h.row
  have HB0 := Lib.hid (bl_drew (Below.refl w.heap.size w))
  have k0 := wc13 HR.out.drawn
  generalize (f + (l.length : Int)) % sz b = nx at *
  generalize l.length = L at *
  clear h
  go_enter Try.func93, Try.ntmps93
  go_wp2
  go_region_held3 (fun w' => w'.cell? ⟨x, 1, none⟩ = some (.int .i64 size) ∧ w'.cell? ⟨x, 3, none⟩ = some (.int .i64 nx)) (first | assumption | exact k0 | exact wc13 HR1.out | exact wc13 HR2.out | go_keep)
    (first
      | (go_at_call 158; (with_reducible refine (HM.out _ HB0.out).mono ?_); rintro e w1 ⟨rfl, hb1⟩; (have HB1 := Lib.hid (bl_step HB0.out hb1); have HR1 := Lib.hid (HR.out.later (bl_step HB0.out hb1)); clear hb1))
      | (go_at_call 100; (with_reducible refine (HF.out _ HB1.out).mono ?_); rintro e w2 ⟨rfl, hb2⟩; (have HB2 := Lib.hid (bl_step HB1.out hb2); have HR2 := Lib.hid (HR1.out.later hb2); clear hb2)))
  go_wp2
  go_ret
  exact ⟨ret_bool rfl, HB2.out⟩
set_option maxRecDepth 100000 in
set_option maxHeartbeats 1600000 in
theorem wopen_any (h : WinR w x m b size f l) (n : Int) : Calls Try.prog 98 #[.pointer (some ⟨x, 0, none⟩), .int .i64 n] w fun e w' => e = .returned (.bool (okn b n && opb (sz b) f l n)) ∧ Below w.heap.size w w' := by
  have HM := Lib.hid (wmade_any h.row)
  have HF := Lib.hid (fun W (hb : Below w.heap.size w W) => wfar_any (h.later hb) n)
  have HF2 := Lib.hid (fun W (hb : Below w.heap.size w W) => by have h1 := wfar_any (h.later hb) ((f + l.length) % sz b); rw [end_far h] at h1; exact h1)
  have HR := Lib.hid h.row
  obtain ⟨c0, c1, c2, c3, c4⟩ := wcells HR.out
  cases ho : okn b n
  · have e1 : farw b f n = -1 := by unfold farw; rw [ho]; rfl
    rw [e1] at HF
    rw [Bool.false_and]
    generalize (f + (l.length : Int)) % sz b = nx at *
    generalize l.length = L at *
    clear h ho e1
    go_enter Try.func98, Try.ntmps98
    go_wp2_with (first
      | (go_at_call 158; (with_reducible refine HM.out.mono ?_); rintro e w1 ⟨rfl, hb1⟩; (have HB1 := Lib.hid hb1; clear c0 c1 c2 c3 c4; obtain ⟨c0, c1, c2, c3, c4⟩ := wcells (HR.out.later hb1); clear hb1))
      | (go_at_call 100; (with_reducible refine (HF.out _ HB1.out).mono ?_); rintro e w2 ⟨rfl, hb2⟩; (have HB2 := Lib.hid (bl_step HB1.out hb2); clear hb2)))
    go_ret
    exact ⟨rfl, HB2.out⟩
  · have HH := Lib.hid (fun W (hb : Below w.heap.size w W) => whas_any (h.later hb) ho)
    rw [farw_ix ho] at HF
    have hp := opb_ak (N := sz b) (f := f) (l := l) (n := n)
    rw [Bool.true_and, hp]
    generalize (f + (l.length : Int)) % sz b = nx at *
    generalize ix (sz b) f n = i at *
    generalize l.length = L at *
    generalize ak (sz b) f l n = a at *
    clear h ho hp
    by_cases hlt : i < L
    · rw [decide_eq_true hlt, Bool.true_and]
      have hlt : (i : Int) < L := by omega
      go_enter Try.func98, Try.ntmps98
      go_wp2_with (first
        | (go_at_call 158; (with_reducible refine HM.out.mono ?_); rintro e w1 ⟨rfl, hb1⟩; (have HB1 := Lib.hid hb1; clear c0 c1 c2 c3 c4; obtain ⟨c0, c1, c2, c3, c4⟩ := wcells (HR.out.later hb1); clear hb1))
        | (go_at_call 100; (with_reducible refine (HF.out _ HB1.out).mono ?_); rintro e w2 ⟨rfl, hb2⟩; (have HB2 := Lib.hid (bl_step HB1.out hb2); have HR2 := Lib.hid ((HR.out.later HB1.out).later hb2); clear hb2 c0 c1 c2 c3 c4; obtain ⟨c0, c1, c2, c3, c4⟩ := wcells HR2.out))
        | (go_at_call 100; (with_reducible refine (HF2.out _ HB2.out).mono ?_); rintro e w3 ⟨rfl, hb3⟩; (have HB3 := Lib.hid (bl_step HB2.out hb3); clear hb3))
        | (go_at_call 162; (with_reducible refine (HH.out _ HB3.out).mono ?_); rintro e w4 ⟨rfl, hb4⟩; (have HB4 := Lib.hid (bl_step HB3.out hb4); clear hb4)))
      all_goals
        go_ret
        exact ⟨rfl, HB4.out⟩
    · rw [decide_eq_false hlt, Bool.false_and]
      have hlt : ¬ ((i : Int) < L) := by omega
      go_enter Try.func98, Try.ntmps98
      go_wp2_with (first
        | (go_at_call 158; (with_reducible refine HM.out.mono ?_); rintro e w1 ⟨rfl, hb1⟩; (have HB1 := Lib.hid hb1; clear c0 c1 c2 c3 c4; obtain ⟨c0, c1, c2, c3, c4⟩ := wcells (HR.out.later hb1); clear hb1))
        | (go_at_call 100; (with_reducible refine (HF.out _ HB1.out).mono ?_); rintro e w2 ⟨rfl, hb2⟩; (have HB2 := Lib.hid (bl_step HB1.out hb2); have HR2 := Lib.hid ((HR.out.later HB1.out).later hb2); clear hb2 c0 c1 c2 c3 c4; obtain ⟨c0, c1, c2, c3, c4⟩ := wcells HR2.out))
        | (go_at_call 100; (with_reducible refine (HF2.out _ HB2.out).mono ?_); rintro e w3 ⟨rfl, hb3⟩; (have HB3 := Lib.hid (bl_step HB2.out hb3); clear hb3)))
      go_ret
      exact ⟨rfl, HB3.out⟩
end
end Go.Proofs.Ytbhnpcmmcelecaa
namespace Go.Proofs.Ytbhnpcmmcelecaa
open Go.RowKit Go.Maps

section
variable {w v : World} {x m k : Nat} {b size f n nx : Int} {l r : List Bool} {p p' : Int → Bool}
theorem WinR.ne (h : WinR w x m b size f l) : x ≠ m := h.set.row_ne h.row
theorem SetR.as (h : SetR w m k b p) (hp : ∀ n, okn b n = true → p n = p' n) : SetR w m k b p' := by
  obtain ⟨D, h1, h2, h3⟩ := h
  exact ⟨D, h1, h2, fun n hn => (h3 n hn).trans (hp n hn)⟩
theorem WinR.cong {nx' : Int} (h : WinR w x m b size f l) (e : nx' = (f + l.length) % sz b) : Row w x 169 (WC b size f nx' m) := by rw [e]; exact h.row
set_option maxRecDepth 100000 in
set_option maxHeartbeats 800000 in
theorem wends_any (h : WinR w x m b size f l) : Calls Try.prog 91 #[.pointer (some ⟨x, 0, none⟩)] w fun e w' => e = .returned (.tuple #[.int .i64 f, .int .i64 ((f + l.length) % sz b)]) ∧ Below w.heap.size w w' := by
  have HM := Lib.hid (wmade_any h.row)
  have HR := Lib.hid h.row
  generalize (f + (l.length : Int)) % sz b = nx at *
  clear h
  go_enter Try.func91, Try.ntmps91
  go_wp2_with (go_at_call 158; (with_reducible refine HM.out.mono ?_); rintro e w1 ⟨rfl, hb1⟩; (have HB1 := Lib.hid hb1; obtain ⟨c0, c1, c2, c3, c4⟩ := wcells (HR.out.later hb1); clear hb1))
  go_quiet (fail)
  go_wp2
  go_ret2
  exact ⟨rfl, below_drewN HB1.out _⟩
set_option maxRecDepth 100000 in
set_option maxHeartbeats 800000 in
theorem wnext_full (h : WinR w x m b size f l) (hl : (l.length : Int) = size) : Calls Try.prog 86 #[.pointer (some ⟨x, 0, none⟩)] w fun e w' => e = .returned (.tuple #[.int .i64 0, .int .i64 11]) ∧ Below w.heap.size w w' := by
  have HM := Lib.hid (wmade_any h.row)
  have HS := Lib.hid (fun W (hb : Below w.heap.size w W) => by have h1 := wstalled_any (h.later hb); rw [decide_eq_true hl] at h1; exact h1)
  clear h hl
  go_enter Try.func86, Try.ntmps86
  go_wp2_with (first
    | (go_at_call 158; (with_reducible refine HM.out.mono ?_); rintro e w1 ⟨rfl, hb1⟩; (have HB1 := Lib.hid hb1; clear hb1))
    | (go_at_call 93; (with_reducible refine (HS.out _ HB1.out).mono ?_); rintro e w2 ⟨rfl, hb2⟩; (have HB2 := Lib.hid (bl_step HB1.out hb2); clear hb2)))
  go_ret2
  exact ⟨rfl, HB2.out⟩
theorem WinR.pushed (h : WinR w x m b size f l) (hl : (l.length : Int) < size) : WinR (w.setCell ⟨x, 3, none⟩ (.int .i64 (((f + l.length) % sz b + 1) % sz b))) x m b size f (l ++ [false]) := by
  refine ⟨?_, ?_, h.rt, h.hf, h.hs, h.hs2, by simp; omega⟩
  · have e : (f + ((l ++ [false]).length : Nat)) % sz b = ((f + l.length) % sz b + 1) % sz b := by
      rw [Int.emod_add_emod]
      simp [Int.add_assoc]
    rw [e]
    exact h.row.written 3 _
  · have e : (l ++ [false]).count true = l.count true := by simp
    rw [e]
    exact (h.set.set ⟨x, 3, none⟩ (Ne.symm h.ne) _).as fun n _ => ak_snoc.symm
set_option maxRecDepth 100000 in
set_option maxHeartbeats 800000 in
theorem wnext_ok (h : WinR w x m b size f l) (hl : (l.length : Int) < size) : Calls Try.prog 86 #[.pointer (some ⟨x, 0, none⟩)] w fun e w' => e = .returned (.tuple #[.int .i64 ((f + l.length) % sz b), .int .i64 0]) ∧ WinR w' x m b size f (l ++ [false]) ∧ Only (XM x m) w w' := by
  have HM := Lib.hid (wmade_any h.row)
  have HS := Lib.hid (fun W (hb : Below w.heap.size w W) => by have h1 := wstalled_any (h.later hb); rw [decide_eq_false (show ¬ (l.length : Int) = size by omega)] at h1; exact h1)
  have HE := Lib.hid (fun W (hb : Below w.heap.size w W) => (h.later hb).pushed hl)
  have HR := Lib.hid h.row
  have HBe := Lib.hid (fun W (hb : Below w.heap.size w W) => wbehind_any (h.row.later hb) h.rt h.end_ok)
  generalize (f + (l.length : Int)) % sz b = nx at *
  clear h hl
  go_enter Try.func86, Try.ntmps86
  go_wp2_with (first
    | (go_at_call 158; (with_reducible refine HM.out.mono ?_); rintro e w1 ⟨rfl, hb1⟩; (have HB1 := Lib.hid hb1; clear hb1))
    | (go_at_call 93; (with_reducible refine (HS.out _ HB1.out).mono ?_); rintro e w2 ⟨rfl, hb2⟩; (have HB2 := Lib.hid (bl_step HB1.out hb2); have HR2 := Lib.hid ((HR.out.later HB1.out).later hb2); obtain ⟨c0, c1, c2, c3, c4⟩ := wcells HR2.out; clear hb2))
    | (go_at_call 159; (with_reducible refine (HBe.out _ HB2.out).mono ?_); rintro e w3 ⟨rfl, hb3⟩; (have HB3 := Lib.hid (bl_step HB2.out hb3); have HR3 := Lib.hid (HR2.out.later hb3); have f3 := HR3.out.free 3; clear hb3 c0 c1 c2 c3 c4; obtain ⟨c0, c1, c2, c3, c4⟩ := wcells HR3.out)))
  go_ret2
  exact ⟨rfl, HE.out _ HB3.out, (Only.of_below HB3.out).set (.inl (.inl rfl)) _⟩
set_option maxRecDepth 100000 in
set_option maxHeartbeats 800000 in
theorem wack_bad (h : WinR w x m b size f l) (hn : okn b n = false) : Calls Try.prog 88 #[.pointer (some ⟨x, 0, none⟩), .int .i64 n] w fun e w' => e = .returned (.int .i64 1) ∧ Below w.heap.size w w' := by
  have HM := Lib.hid (wmade_any h.row)
  have HI := Lib.hid (fun W => by have h1 := sqis_any b n W; rw [hn] at h1; exact h1)
  have HR := Lib.hid h.row
  clear h hn
  go_enter Try.func88, Try.ntmps88
  go_wp2_with (first
    | (go_at_call 158; (with_reducible refine HM.out.mono ?_); rintro e w1 ⟨rfl, hb1⟩; (have HB1 := Lib.hid hb1; obtain ⟨c0, c1, c2, c3, c4⟩ := wcells (HR.out.later hb1); clear hb1))
    | (go_at_call 161; (with_reducible refine (HI.out _).mono ?_); rintro e w2 ⟨rfl, hb2⟩; (have HB2 := Lib.hid (bl_step HB1.out hb2); clear hb2)))
  go_ret
  exact ⟨rfl, HB2.out⟩
set_option maxRecDepth 100000 in
set_option maxHeartbeats 800000 in
theorem wack_old (h : WinR w x m b size f l) (hn : okn b n = true) (ho : opb (sz b) f l n = false) : Calls Try.prog 88 #[.pointer (some ⟨x, 0, none⟩), .int .i64 n] w fun e w' => e = .returned (.int .i64 10) ∧ Below w.heap.size w w' := by
  have HM := Lib.hid (wmade_any h.row)
  have HI := Lib.hid (fun W => by have h1 := sqis_any b n W; rw [hn] at h1; exact h1)
  have HO := Lib.hid (fun W (hb : Below w.heap.size w W) => by have h1 := wopen_any (h.later hb) n; rw [ho, Bool.and_false] at h1; exact h1)
  have HR := Lib.hid h.row
  clear h hn ho
  go_enter Try.func88, Try.ntmps88
  go_wp2_with (first
    | (go_at_call 158; (with_reducible refine HM.out.mono ?_); rintro e w1 ⟨rfl, hb1⟩; (have HB1 := Lib.hid hb1; obtain ⟨c0, c1, c2, c3, c4⟩ := wcells (HR.out.later hb1); clear hb1))
    | (go_at_call 161; (with_reducible refine (HI.out _).mono ?_); rintro e w2 ⟨rfl, hb2⟩; (have HB2 := Lib.hid (bl_step HB1.out hb2); clear hb2))
    | (go_at_call 98; (with_reducible refine (HO.out _ HB2.out).mono ?_); rintro e w3 ⟨rfl, hb3⟩; (have HB3 := Lib.hid (bl_step HB2.out hb3); clear hb3)))
  go_ret
  exact ⟨rfl, HB3.out⟩
end
end Go.Proofs.Ytbhnpcmmcelecaa
namespace Go.Proofs.Ytbhnpcmmcelecaa
open Go.RowKit Go.Maps

section
variable {w v : World} {x m k : Nat} {b size f n nx : Int} {l r : List Bool} {p : Int → Bool}
theorem lit_ne {a c : Int} (h : a ≠ c) : (Lit.int .i64 a) ≠ .int .i64 c := fun e => h (by cases e; rfl)
theorem lit_key (a : Int) : WideAt.IsKeyLit (.int .i64 a) := by trivial
theorem set_put {D : DataW Unit} (hown : w.ownsMap Try.prog 3 unitElem m (Maps.size D) D) (hsz : Maps.size D = k) (hD : ∀ n, okn b n = true → Maps.has D (.int .i64 n) = p n) (hn : okn b n = true) (hp : p n = false) {j : Nat}
    (ho : v.ownsMap Try.prog 3 unitElem m j (D.put (.int .i64 n) (.agg []))) : SetR v m (k + 1) b (fun a => if a = n then true else p a) := by
  refine ⟨_, own_mono ho, ?_, fun a ha => ?_⟩
  · rw [size_put (hown.tidy law3), hD n hn, hp, hsz]; rfl
  · by_cases e : a = n
    · subst e
      exact (has_put_same hown.isMap (lit_key _) _).trans (if_pos rfl).symm
    · exact ((has_put_other (lit_ne e) _).trans (hD a ha)).trans (if_neg e).symm
theorem set_del {D : DataW Unit} (hown : w.ownsMap Try.prog 3 unitElem m (Maps.size D) D) (hsz : Maps.size D = k + 1) (hD : ∀ n, okn b n = true → Maps.has D (.int .i64 n) = p n) (hn : okn b n = true) (hp : p n = true) {j : Nat}
    (ho : v.ownsMap Try.prog 3 unitElem m j (D.del (.int .i64 n))) : SetR v m k b (fun a => if a = n then false else p a) := by
  refine ⟨_, own_mono ho, ?_, fun a ha => ?_⟩
  · have := size_del (k := .int .i64 n) (hown.tidy law3)
    rw [hD n hn, hp, hsz] at this
    simp at this
    exact this
  · by_cases e : a = n
    · subst e
      exact has_del_same.trans (if_pos rfl).symm
    · exact ((has_del_other (lit_ne e)).trans (hD a ha)).trans (if_neg e).symm
theorem Row.turned {g : Nat} {t : TypeId} {cs : Array Value} (h : Row w g t cs) (ht : w.mapTurned v m) (hne : g ≠ m) : Row v g t cs := by
  have hg := ht.grown
  unfold Row at h ⊢
  rw [hg.block g (Row.inside (t := t) (cs := cs) h) (by simpa using hne)]
  exact h
theorem only_turned {S : Nat → Prop} (h : w.mapTurned v m) (hS : S m) : Only S w v :=
  (Only.refl S w).grown h.grown (fun k hk => by cases hk; exact .inl hS)
theorem WinR.acked (h : WinR w x m b size f l) (hn : okn b n = true) (ho : opb (sz b) f l n = true) (hset : SetR v m (l.count true + 1) b (fun a => if a = n then true else ak (sz b) f l a)) (hrow : Row v x 169 (WC b size f ((f + l.length) % sz b) m)) :
    WinR v x m b size f (l.set (ix (sz b) f n) true) := by
  obtain ⟨h1, h2⟩ := opb_not ho
  have hz := h.pos
  obtain ⟨n1, n2⟩ := okn_true hn
  refine ⟨by rw [List.length_set]; exact hrow, ?_, h.rt, h.hf, h.hs, h.hs2, by rw [List.length_set]; exact h.hl⟩
  rw [count_put h2]
  exact hset.as fun a ha => by
    obtain ⟨a1, a2⟩ := okn_true ha
    exact (ak_put (by omega) n1 n2 a1 a2 h1).symm
theorem next_shift (N f : Int) (k : Nat) : ((f + 1) % N + (k : Int)) % N = (f + ((k + 1 : Nat) : Int)) % N := by
  rw [Int.emod_add_emod, show f + 1 + (k : Int) = f + ((k + 1 : Nat) : Int) by omega]
theorem WinR.shift (h : WinR w x m b size f (true :: r)) (hset : SetR v m (r.count true) b (fun a => if a = f then false else ak (sz b) f (true :: r) a)) (hrow : Row v x 169 (WC b size f ((f + (true :: r).length) % sz b) m)) :
    WinR (v.setCell ⟨x, 2, none⟩ (.int .i64 ((f + 1) % sz b))) x m b size ((f + 1) % sz b) r := by
  have hz := h.pos
  have h2 := h.hs2
  have hl := h.hl
  obtain ⟨n1, n2⟩ := okn_true h.hf
  simp only [List.length_cons] at hl
  refine ⟨?_, ?_, h.rt, okn_mod h.rt _, h.hs, h.hs2, by omega⟩
  · have e : ((f + 1) % sz b + (r.length : Nat)) % sz b = (f + (true :: r).length) % sz b := next_shift _ _ _
    rw [e]
    exact hrow.written 2 _
  · exact (hset.set ⟨x, 2, none⟩ (Ne.symm (hset.row_ne hrow)) _).as fun a ha => by
      obtain ⟨a1, a2⟩ := okn_true ha
      exact (ak_tail n1 n2 a1 a2 (by omega) true).symm
theorem ak_head (c : Bool) : ak (sz b) f (c :: r) f = c := by unfold ak; rw [ix_self]; rfl
theorem ak_none : ak (sz b) f [] f = false := rfl
def wleft (x : Nat) (N nx : Int) (wr : World) : Nat := match wr.cell? ⟨x, 2, none⟩ with | some (.int _ f) => ((nx - f) % N).toNat | _ => 0
theorem WinR.left (h : WinR w x m b size f l) (e : nx = (f + l.length) % sz b) : wleft x (sz b) nx w = l.length := by
  have h1 := h.hs2
  have h2 := h.hl
  have h3 := h.pos
  unfold wleft
  rw [(wcells h.row).2.2.1]
  have := ix_at (N := sz b) (f := f) (i := l.length) (by omega)
  unfold ix at this
  rw [e]
  exact this
set_option maxRecDepth 100000 in
set_option maxHeartbeats 3200000 in
theorem wack_ok (h : WinR w x m b size f l) (hn : okn b n = true) (ho : opb (sz b) f l n = true) : Calls Try.prog 88 #[.pointer (some ⟨x, 0, none⟩), .int .i64 n] w fun e w' => e = .returned (.int .i64 0) ∧ WinR w' x m b size (nrm (sz b) f (l.set (ix (sz b) f n) true)).1 (nrm (sz b) f (l.set (ix (sz b) f n) true)).2 ∧ Only (XM x m) w w' := by
  have HM := Lib.hid (wmade_any h.row)
  have HI := Lib.hid (fun W => by have h1 := sqis_any b n W; rw [hn] at h1; exact h1)
  have HO := Lib.hid (fun W (hb : Below w.heap.size w W) => by have h1 := wopen_any (h.later hb) n; rw [ho, hn, Bool.and_true] at h1; exact h1)
  have HA := Lib.hid (fun v => h.acked (v := v) hn ho)
  have hak : ak (sz b) f l n = false := by
    have := opb_ak (N := sz b) (f := f) (l := l) (n := n)
    rw [ho] at this
    simp at this
    exact this.2
  obtain ⟨D, hown, hsz, hD⟩ := h.set
  have HP := Lib.hid (fun v j => set_put (v := v) (j := j) hown hsz hD hn hak)
  have hkey := keyOf_int_mk Try.underlying3 (lit_wf hn)
  have HR := Lib.hid h.row
  have hlen : Maps.size D < maxLen := by
    have h1 := List.count_le_length (a := true) (l := l)
    have h2 := h.hl
    have h3 := h.hs2
    have h4 := h.pos
    unfold maxLen
    omega
  have HNE := Lib.hid h.ne
  have HZ := Lib.hid (show (f + ((l.set (ix (sz b) f n) true).length : Nat)) % sz b = (f + l.length) % sz b by rw [List.length_set])
  have HRT := Lib.hid h.rt
  generalize l.set (ix (sz b) f n) true = l1 at *
  generalize (f + (l.length : Int)) % sz b = nx at *
  generalize l.count true = cnt at *
  clear h hn ho hsz hD hak
  go_enter Try.func88, Try.ntmps88
  go_wp2_with (first
    | (go_at_call 158; (with_reducible refine HM.out.mono ?_); rintro e w1 ⟨rfl, hb1⟩; (have HB1 := Lib.hid hb1; obtain ⟨c0, c1, c2, c3, c4⟩ := wcells (HR.out.later hb1); clear hb1))
    | (go_at_call 161; (with_reducible refine (HI.out _).mono ?_); rintro e w2 ⟨rfl, hb2⟩; (have HB2 := Lib.hid (bl_step HB1.out hb2); clear hb2))
    | (go_at_call 98; (with_reducible refine (HO.out _ HB2.out).mono ?_); rintro e w3 ⟨rfl, hb3⟩; (have HB3 := Lib.hid (bl_step HB2.out hb3); have HR3 := Lib.hid (HR.out.later HB3.out); clear hb3 c0 c1 c2 c3 c4; obtain ⟨c0, c1, c2, c3, c4⟩ := wcells HR3.out; have hown3 := hown.kept (row := none) ⟨HB3.out.os, HB3.out.tape, HB3.out.output, HB3.out.size, fun i hi _ => HB3.out.block i hi⟩ (by simp)))
    | (at_mapUpdate; refine wpList_mapUpdate_in _ rfl _ _ _ 167 rfl 3 225 law3 Try.underlying167 _ m _ D rfl hown3 hlen _ _ _ rfl rfl hkey _ [] unitElem_mk ?_; intro w4 hown4 hturn4; (have HW4 := Lib.hid (HA.out w4 (HP.out w4 _ hown4) (HR3.out.turned hturn4 HNE.out)); have HO4 := Lib.hid ((Only.of_below HB3.out).andThen (only_turned (S := XM x m) hturn4 (.inr rfl)) (fun _ _ hk => hk)); clear hown4 hturn4))
    | go_in)
  have HNX := Lib.hid (show nx = (f + (l1.length : Nat)) % sz b from HZ.out.symm)
  have HN := Lib.hid (show nrm (sz b) f l1 = nrm (sz b) f l1 from rfl)
  go_frame
  go_loopw [33] (fun _ wr => ∃ (f' : Int) (l' : List Bool), Hid (WinR wr x m b size f' l') ∧ Hid (nrm (sz b) f' l' = nrm (sz b) f l1) ∧ Hid (nx = (f' + (l'.length : Nat)) % sz b) ∧ Hid (Only (XM x m) w wr)) (fun _ wr => wleft x (sz b) nx wr)
  case atStart => exact ⟨f, l1, HW4, HN, HNX, HO4⟩
  case round =>
    obtain ⟨f', l', HWr, HNr, HXr, HOr⟩ := hrel
    have HH := Lib.hid (whas_any HWr.out HWr.out.hf)
    obtain ⟨c0, c1, c2, c3, c4⟩ := wcells HWr.out.row
    rcases nrm_cases (sz b) f' l' with ⟨r, rfl, hnr⟩ | ⟨hh, hnr⟩
    · rw [ak_head] at HH
      have HNS := Lib.hid (hnr.symm.trans HNr.out)
      have HML := Lib.hid (HWr.out.left HXr.out)
      obtain ⟨D', hown', hsz', hD'⟩ := HWr.out.set
      have HP' := Lib.hid (fun v j => set_del (v := v) (j := j) hown' (k := r.count true) (hsz'.trans (by simp)) hD' HWr.out.hf (ak_head true))
      have hkey' := keyOf_int_mk Try.underlying3 (lit_wf HWr.out.hf)
      have HRr := Lib.hid HWr.out.row
      have HSH := Lib.hid (fun v => HWr.out.shift (v := v))
      rw [← HXr.out] at HRr HSH
      have HXS := Lib.hid (show nx = ((f' + 1) % sz b + (r.length : Nat)) % sz b by rw [HXr.out]; exact (next_shift _ _ _).symm)
      have HFK := Lib.hid HWr.out.hf
      clear hnr hsz' hD'
      go_wp2_with (go_at_call 162; (with_reducible refine HH.out.mono ?_); rintro e w5 ⟨rfl, hb5⟩; (have HB5 := Lib.hid (bl_drew hb5); have HR5 := Lib.hid ((HRr.out.later hb5).drawn); have hown5 := hown'.kept (w' := w5.drew) (row := none) ⟨HB5.out.os, HB5.out.tape, HB5.out.output, HB5.out.size, fun i hi _ => HB5.out.block i hi⟩ (by simp); clear hb5 c0 c1 c2 c3 c4; obtain ⟨c0, c1, c2, c3, c4⟩ := wcells HR5.out))
      go_still_tail 8, (by kernel_rfl)
      change wpList _ _ _ _ _ w5.drew
      generalize w5.drew = w6 at *
      go_wp2_with (first
        | (at_delete; refine wpList_delete_own _ rfl _ _ 167 3 rfl 225 law3 Try.underlying167 _ m _ D' rfl hown5 _ _ rfl hkey' ?_; intro w7 hown7 hturn7; (have HS7 := Lib.hid (HP'.out w7 _ hown7); have HR7 := Lib.hid (HR5.out.turned hturn7 HNE.out); have HO7 := Lib.hid ((Only.of_below HB5.out).andThen (only_turned (S := XM x m) hturn7 (.inr rfl)) (fun _ _ hk => hk)); have HBE := Lib.hid (wbehind_any HR7.out HRT.out HFK.out); clear hown7 hturn7 c0 c1 c2 c3 c4; obtain ⟨c0, c1, c2, c3, c4⟩ := wcells HR7.out))
        | (go_at_call 159; (with_reducible refine HBE.out.mono ?_); rintro e w8 ⟨rfl, hb8⟩; (have HB8 := Lib.hid hb8; have HR8 := Lib.hid (HR7.out.later hb8); have HS8 := Lib.hid (HS7.out.later hb8); have f2 := HR8.out.free 2; clear hb8 c0 c1 c2 c3 c4; obtain ⟨c0, c1, c2, c3, c4⟩ := wcells HR8.out))
        | go_in)
      go_roundw
      case rel => exact ⟨_, r, Lib.hid (HSH.out w8 HS8.out HR8.out), HNS, HXS, Lib.hid (HOr.out.andThen ((HO7.out.andThen (T := XM x m) (Only.of_below HB8.out) (fun _ _ hk => hk)).set (.inl (.inl rfl)) _) (fun _ _ hk => hk))⟩
      case measure =>
        rw [HML.out, (HSH.out w8 HS8.out HR8.out).left HXS.out]
        simp
    · have hak : ak (sz b) f' l' f' = false := by
        match l', hh with
        | [], _ => rfl
        | true :: _, h => exact absurd rfl h
        | false :: _, _ => exact ak_head false
      rw [hak] at HH
      have HE := Lib.hid (hnr.symm.trans HNr.out)
      clear hak hnr hh
      go_wp2_with (go_at_call 162; (with_reducible refine HH.out.mono ?_); rintro e w5 ⟨rfl, hb5⟩; (have HB5 := Lib.hid hb5; clear hb5))
      go_ret
      rw [← HE.out]
      exact ⟨rfl, HWr.out.later HB5.out, HOr.out.andThen (T := XM x m) (Only.of_below HB5.out) (fun _ _ hk => hk)⟩
end
end Go.Proofs.Ytbhnpcmmcelecaa
namespace Go.Proofs.Ytbhnpcmmcelecaa
open Go.RowKit Go.Maps Go.ChangeMaps Go.MapKept

section
variable {w v : World} {x m k : Nat} {b size f n nx : Int} {l r : List Bool} {p : Int → Bool}
theorem set_empty (hown : w.ownsMap Try.prog 3 unitElem m k (.map [] : DataW Unit)) : SetR w m 0 b (ak (sz b) f []) :=
  ⟨_, own_mono hown, rfl, fun _ _ => rfl⟩
theorem zero_okn (h : rt b = true) : okn b 0 = true := by
  have := rt_pos h
  exact decide_eq_true ⟨by omega, by omega⟩
set_option maxRecDepth 100000 in
set_option maxHeartbeats 800000 in
theorem wnew_ok (b size : Int) (w : World) (ht : rt b = true) (h1 : 1 ≤ size) (h2 : size ≤ sz b / 2) :
    Calls Try.prog 83 #[.int .i64 b, .int .i64 size] w fun e w' => ∃ x m : Nat, e = .returned (.tuple #[.pointer (some ⟨x, 0, none⟩), .int .i64 0]) ∧ WinR w' x m b size 0 [] ∧ Below w.heap.size w w' ∧ w.heap.size ≤ x ∧ w.heap.size ≤ m := by
  have HS := Lib.hid (fun W => sqsize_any b W)
  have HT := Lib.hid ht
  have H2 := Lib.hid h2
  have hz := rt_pos ht
  have hmm := @run_makeMap Try.prog
  have h0 := zero_okn ht
  have H0 := Lib.hid h0
  generalize hN0 : sz b = N at *
  have HNS := Lib.hid hN0
  clear hN0 h0
  have HA := Lib.hid (bl_alloc (Below.refl w.heap.size w) (.cells #[.int .i64 b] 166))
  have HROW := Lib.hid (Row.made w 166 #[.int .i64 b])
  clear ht
  go_enter Try.func83, Try.ntmps83
  go_wp2_with (first
    | (go_at_call 157; (with_reducible refine (HS.out _).mono ?_); rintro e w1 ⟨rfl, hb1⟩; (have HB1 := Lib.hid (bl_step HA.out hb1); have HR1 := Lib.hid (HROW.out.later hb1); have c0 := HR1.out.read (i := 0) (x := .int .i64 b) rfl; clear hb1))
    | go_in)
  go_ret2
  have hb := bl_alloc (bl_alloc HB1.out (.map #[] 0)) (.cells #[.int .i64 b, .int .i64 size, .int .i64 0, .int .i64 0, .map (some w1.heap.size)] 169)
  have hrow := Row.made (w1.alloc (.map #[] 0)) 169 #[.int .i64 b, .int .i64 size, .int .i64 0, .int .i64 0, .map (some w1.heap.size)]
  rw [show (w1.alloc (.map #[] 0)).heap.size = w1.heap.size + 1 by simp] at hrow
  refine ⟨_, w1.heap.size, rfl, ⟨?_, ?_, HT.out, H0.out, h1, by rw [HNS.out]; exact H2.out, by simp; omega⟩, hb, by have := HB1.out.size; omega, HB1.out.size⟩
  · have e : ((0 : Int) + (([] : List Bool).length : Nat)) % sz b = 0 := by simp
    rw [e]
    exact hrow
  · exact set_empty ((World.ownsMap_made w1 Try.prog 3 unitElem).alloc _)
set_option maxRecDepth 100000 in
set_option maxHeartbeats 800000 in
theorem wnew_bad (b size : Int) (w : World) (h : size < 1 ∨ sz b / 2 < size) :
    Calls Try.prog 83 #[.int .i64 b, .int .i64 size] w fun e w' => e = .returned (.tuple #[.pointer none, .int .i64 1]) ∧ Below w.heap.size w w' := by
  have HS := Lib.hid (fun W => sqsize_any b W)
  have hz := sz_bd b
  generalize sz b = N at *
  by_cases h1 : size < 1
  · clear h
    go_enter Try.func83, Try.ntmps83
    go_wp2_with (first
      | (go_at_call 157; (with_reducible refine (HS.out _).mono ?_); rintro e w1 ⟨rfl, hb1⟩)
      | go_in)
    go_ret2
    exact ⟨rfl, by repeat (first | exact Below.refl _ _ | refine bl_alloc ?_ _ | refine bl_drew ?_ | refine bl_step ?_ (by assumption))⟩
  · have h2 : N / 2 < size := by omega
    clear h
    go_enter Try.func83, Try.ntmps83
    go_wp2_with (first
      | (go_at_call 157; (with_reducible refine (HS.out _).mono ?_); rintro e w1 ⟨rfl, hb1⟩)
      | go_in)
    go_ret2
    exact ⟨rfl, by repeat (first | exact Below.refl _ _ | refine bl_alloc ?_ _ | refine bl_drew ?_ | refine bl_step ?_ (by assumption))⟩
/-- clear of a map -/
theorem run_clear_map {D : DataW Unit} {t e ty : TypeId} (h : w.ownsMap Try.prog 3 unitElem m k D) (ht : Try.prog.underlying t = some (.map 3 e)) :
    ∃ w', (Builtin.clear_ #[t] ty #[.map (some m)]).run Try.prog w = .ok (.tuple #[]) w' ∧ w'.ownsMap Try.prog 3 unitElem m 0 (.map [] : DataW Unit) ∧ w.mapTurned w' m := by
  obtain ⟨es, clock, hb, F, hs, rfl⟩ := h
  refine ⟨setBlock w m (.map #[] clock), ?_, ⟨#[], clock, heap_setBlock_same hb _, ⟨by simp, MapKept.stamped_empty clock, by simp⟩, Nat.le_refl _, rfl⟩, ⟨es, clock, #[], clock, hb, rfl⟩⟩
  simp [Builtin.clear_, run_underlying ht, MapKept.run_getObj_map hb, MapKept.run_setObj_map _ hb, Result.andThen]
  rfl
set_option maxRecDepth 100000 in
set_option maxHeartbeats 1600000 in
theorem wreset_any (h : WinR w x m b size f l) : Calls Try.prog 90 #[.pointer (some ⟨x, 0, none⟩)] w fun e w' => e = .returned (.tuple #[]) ∧ WinR w' x m b size 0 [] ∧ Only (XM x m) w w' := by
  have HM := Lib.hid (wmade_any h.row)
  have HR := Lib.hid h.row
  obtain ⟨D, hown, _, _⟩ := h.set
  have HNE := Lib.hid h.ne
  have HW := Lib.hid h
  go_enter Try.func90, Try.ntmps90
  go_wp2_with (first
    | (go_at_call 158; (with_reducible refine HM.out.mono ?_); rintro e w1 ⟨rfl, hb1⟩; (have HB1 := Lib.hid hb1; have HR1 := Lib.hid (HR.out.later hb1); obtain ⟨c0, c1, c2, c3, c4⟩ := wcells HR1.out; have f2 := HR1.out.free 2; have f3 := HR1.out.free 3; have HR2 := Lib.hid ((HR1.out.written 2 (.int .i64 0)).written 3 (.int .i64 0)); obtain ⟨d0, d1, d2, d3, d4⟩ := wcells (m := m) (b := b) (size := size) (f := 0) (nx := 0) HR2.out; have hown1 := ((hown.kept (w' := w1) (row := none) ⟨hb1.os, hb1.tape, hb1.output, hb1.size, fun i hi _ => hb1.block i hi⟩ (by simp)).setCell (a := ⟨x, 2, none⟩) (Ne.symm HNE.out) (.int .i64 0)).setCell (a := ⟨x, 3, none⟩) (Ne.symm HNE.out) (.int .i64 0); obtain ⟨w7, hrun7, hown7, hturn7⟩ := run_clear_map (ty := 0) hown1 Try.underlying167; clear hb1))
    | go_in)
  go_end0
  have h0 := zero_okn HW.out.rt
  refine ⟨rfl, ⟨?_, set_empty hown7, HW.out.rt, h0, HW.out.hs, HW.out.hs2, by have := HW.out.hs; simp; omega⟩, ?_⟩
  · have e : ((0 : Int) + (([] : List Bool).length : Nat)) % sz b = 0 := by simp
    rw [e]
    exact HR2.out.turned hturn7 HNE.out
  · exact (((Only.of_below HB1.out).set (S := XM x m) (p := ⟨x, 2, none⟩) (.inl (.inl rfl)) _).set (p := ⟨x, 3, none⟩) (.inl (.inl rfl)) _).andThen (only_turned hturn7 (.inr rfl)) (fun _ _ hk => hk)
end
end Go.Proofs.Ytbhnpcmmcelecaa
namespace Go.Proofs.Ytbhnpcmmcelecaa
open Go.RowKit

theorem wpList_is {P : Program} {ops : Array Oper} {rest : List Oper} {o : Oper} {a : Act} {w : World} {Q : Exit → Act → World → Prop} (hgd : o.guard = none) (s x : Operand) (t : TypeId)
    (ho : o.op = .call { callee := .builtin .append, args := #[s, x], argTypes := #[t, t] }) (v u : Value) (hs : a.eval s = v) (hx : a.eval x = u) {v' : Value} {w' : World}
    (hr : (Builtin.append_ #[t, t] o.type #[v, u]).run P w = .ok v' w') (h : wpList P ops Q rest (a.put o.dst v') w') : wpList P ops Q (o :: rest) a w :=
  wpList_plain hgd fun _ hK => by
    unfold Oper.wp execOp
    simp only [ho, resolve, invoke, builtin, Sem.run_bind, Sem.run_pure, Result.andThen_ok, List.map_toArray, List.map_cons, List.map_nil, hs, hx, hr]
    exact hK _ _ h
theorem add_zero_o (g j : Nat) : (⟨g, 0, none⟩ : Addr).add j = ⟨g, j, none⟩ := by
  unfold Addr.add
  split
  · rename_i h; rw [h]
  · simp
section
variable {m n : Nat} {w v : World} {x u z : Value} {xs : List Value} {T E by' : Nat}
theorem own_next (hT : Try.prog.underlying T = some (.slice E)) (hI : (Try.prog.info? E).map (fun i => (i.zero, i.size, i.bytes)) = some (some z, 1, by')) (hz : z.cells.size = 1) (hby : by' ≤ 24) (hu : u.oneCell' = true) (h : w.ownsRow m E 1 x n xs) (hm : m ≤ w.heap.size) (hn : n ≤ 100000) :
    ∃ A' c' w2, (Builtin.append_ #[T, T] T #[x, .slice (some ⟨w.heap.size, 0, none⟩) 1 1]).run Try.prog (w.alloc (.cells #[u] E)) = .ok (.slice A' (n + 1) c') w2 ∧
      w2.ownsRow m E 1 (.slice A' (n + 1) c') (n + 1) (xs ++ [u]) ∧ Only (fun k => x.ownBlock = some k) w w2 := by
  obtain ⟨i0, hi, hi0, hi1, hi2⟩ := info_parts hI
  have hbA := bl_alloc (Below.refl w.heap.size w) (.cells #[u] E)
  have a4' := own_only h (S := fun _ => False) (.of_below hbA) (fun _ _ hk => hk)
  obtain ⟨v', w2, hrun, hown, hgr, _, hat⟩ := run_append_own_at (P := Try.prog) (w := w.alloc (.cells #[u] E)) m T T E i0 z 1 by' hT hi hi0 hi1 hi2 hz (by omega) x n xs a4' ⟨w.heap.size, 0, none⟩ 1 1 [u] rfl
    (fun j u' hu' => by
      match j, hu' with
      | 0, hu' =>
        simp only [List.getElem?_cons_zero, Option.some.injEq] at hu'
        subst hu'
        rw [add_zero_o]
        exact (Row.made w E #[u]).read rfl
      | j + 1, hu' => simp at hu') (by intro y hy; simp at hy; subst hy; exact hu) (by unfold maxLen; omega) (by have := Nat.mul_le_mul (show n + 1 ≤ 100001 by omega) hby; omega) (by have := hbA.size; omega)
  have hon : Only (fun k => x.ownBlock = some k) w w2 := (Only.of_below hbA).andThen ((Only.refl _ _).grown hgr (fun k hk => .inl hk) : Only (fun k => x.ownBlock = some k) _ _) (fun k _ hk => hk)
  obtain ⟨A', c', rfl⟩ : ∃ A' c', v' = .slice A' (n + 1) c' := by
    rcases hown.2 with ⟨_, e⟩ | ⟨g, cap, cur, e, _⟩
    · omega
    · exact ⟨some ⟨g, 0, none⟩, cap, e⟩
  exact ⟨A', c', w2, hrun, hown, hon⟩
theorem own_shape (h : w.ownsRow m E 1 x n xs) : ∃ A c, x = .slice A n c ∧ n ≤ c ∧ c ≤ 9223372036854775807 := by
  rcases h.2 with ⟨rfl, rfl⟩ | ⟨g, cap, cur, rfl, _, _, h1, h2, _⟩
  · exact ⟨none, 0, rfl, Nat.le_refl _, by decide⟩
  · exact ⟨_, cap, rfl, h1, by unfold maxLen at h2; omega⟩
theorem own_after (h : w.ownsRow m E 1 x n xs) (hb : Below w.heap.size w v) : v.ownsRow m E 1 x n xs := own_only h (S := fun _ => False) (.of_below hb) (fun _ _ hk => hk)
/-- what lies behind a slice: in one block, that is not older than block m -/
def SlAt (m E : Nat) (w : World) (A : Option Addr) (xs : List Value) : Prop :=
  xs ≠ [] → ∃ (g : Nat) (cs : Array Value), A = some ⟨g, 0, none⟩ ∧ m ≤ g ∧ Row w g E cs ∧ ∀ (i : Nat) (u : Value), xs[i]? = some u → cs[i]? = some u
theorem own_at {A : Option Addr} {c : Nat} (h : w.ownsRow m E 1 (.slice A n c) n xs) : SlAt m E w A xs := by
  intro hne
  rcases h.2 with ⟨h1, h2⟩ | ⟨g, cap, cur, h1, h2, h3, h4, h5, h6, h7⟩
  · exfalso
    have := h.1
    rw [h2] at this
    exact hne (List.eq_nil_of_length_eq_zero (by omega))
  · injection h1 with hA _ _
    refine ⟨g, cur, hA, h2, h3, fun i u hu => ?_⟩
    have hi := (List.getElem?_eq_some_iff.1 hu).1
    have hl := h.1
    rw [← h7, List.getElem?_take] at hu
    split at hu
    · simpa using hu
    · cases hu
theorem SlAt.only {S : Nat → Prop} {A : Option Addr} (h : SlAt m E w A xs) (ho : Only S w v) (hS : ∀ g cs, Row w g E cs → m ≤ g → ¬ S g) : SlAt m E v A xs := by
  intro hne
  obtain ⟨g, cs, h1, h2, h3, h4⟩ := h hne
  exact ⟨g, cs, h1, h2, h3.only ho (hS g cs h3 h2), h4⟩
theorem SlAt.later {A : Option Addr} (h : SlAt m E w A xs) (hb : Below w.heap.size w v) : SlAt m E v A xs := h.only (S := fun _ => False) (.of_below hb) (fun _ _ _ _ hk => hk)
theorem SlAt.cell {A : Option Addr} (h : SlAt m E w A xs) {i : Nat} {u : Value} (hu : xs[i]? = some u) : ∃ g, A = some ⟨g, 0, none⟩ ∧ w.cell? ⟨g, i, none⟩ = some u := by
  obtain ⟨g, cs, h1, h2, h3, h4⟩ := h (by rintro rfl; simp at hu)
  exact ⟨g, h1, h3.read (h4 i u hu)⟩
end
end Go.Proofs.Ytbhnpcmmcelecaa
