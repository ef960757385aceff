/-
  rxwin: the document's window, counted on: what is in memory; what it reads. rxwin: the document's window: its three numbers; something came; what is late; what is missing. rxwin: what is missing, by the document's window. rxwin: a number is whole, by the document's window.
-/
import Derived.Test.YtgdpjaojlhdhdaaJRxwinLives04
import Derived.Deep.RegionHeld3
import Derived.Deep.DeepCutAuto
namespace Go.Proofs.Ytgdpjaojlhdhdaa
open Go.RowKit Go.Maps

def blv (l : List Bool) : List Value := l.map fun c => .bool c
def YC (b size R M H : Int) (v : Value) : Array Value := #[.int .i64 b, .int .i64 size, .int .i64 R, .int .i64 M, .int .i64 H, v]
structure RY (w : World) (y B : Nat) (b size : Int) (R M H : Nat) (D : List Bool) : Prop where
  row : ∃ A c, Row w y 97 (YC b size R M H (.slice A D.length c)) ∧ w.ownsRow B 4 1 (.slice A D.length c) D.length (blv D)
  rt : rt b = true
  hs : 1 ≤ size
  hs2 : size ≤ sz b / 2
  h1 : R ≤ M
  h2 : M ≤ H
  h3 : (H : Int) ≤ R + size
  h4 : D.length ≤ H
  h5 : R ≤ 1000
def Dr (w v : World) : Prop := ∃ m, v = w.drewN m
section
variable {w v : World} {y B : Nat} {b size n : Int} {R M H : Nat} {D : List Bool}
theorem Dr.below (h : Dr w v) : Below w.heap.size w v := by
  obtain ⟨m, rfl⟩ := h
  exact below_drewN (Below.refl _ _) m
theorem RY.pos (h : RY w y B b size R M H D) : 2 ≤ sz b ∧ sz b ≤ 65536 := rt_pos h.rt
theorem RY.only {S : Nat → Prop} (h : RY w y B b size R M H D) (ho : Only S w v) (hy : ¬ S y) (hS : ∀ g cs, Row w g 4 cs → ¬ S g) : RY v y B b size R M H D := by
  obtain ⟨A, c, h1, h2⟩ := h.row
  refine { h with row := ⟨A, c, h1.only ho hy, own_only h2 ho fun k hk => ?_⟩ }
  rcases h2.2 with ⟨e, _⟩ | ⟨g, cap, cur, e, _, hh, _⟩
  · rw [e] at hk; simp [Value.ownBlock] at hk
  · rw [e] at hk
    have e1 : g = k := by simpa [Value.ownBlock] using hk
    subst e1
    exact hS _ _ hh
theorem RY.later (h : RY w y B b size R M H D) (hb : Below w.heap.size w v) : RY v y B b size R M H D := h.only (S := fun _ => False) (.of_below hb) (fun hk => hk) (fun _ _ _ hk => hk)
theorem RY.drawn (h : RY w y B b size R M H D) (m : Nat) : RY (w.drewN m) y B b size R M H D := h.later (below_drewN (Below.refl _ _) m)
theorem ycells {R M H : Int} {u : Value} (hr : Row w y 97 (YC b size R M H u)) : w.cell? ⟨y, 0, none⟩ = some (.int .i64 b) ∧ w.cell? ⟨y, 1, none⟩ = some (.int .i64 size) ∧ w.cell? ⟨y, 2, none⟩ = some (.int .i64 R) ∧ w.cell? ⟨y, 3, none⟩ = some (.int .i64 M) ∧ w.cell? ⟨y, 4, none⟩ = some (.int .i64 H) ∧ w.cell? ⟨y, 5, none⟩ = some u :=
  ⟨hr.read rfl, hr.read rfl, hr.read rfl, hr.read rfl, hr.read rfl, hr.read rfl⟩
theorem blv_at {xs : List Bool} {i : Nat} {c : Bool} (h : xs[i]? = some c) : (blv xs)[i]? = some (.bool c) := by unfold blv; rw [List.getElem?_map, h]; rfl
set_option maxRecDepth 100000 in
set_option maxHeartbeats 1600000 in
theorem ynumber_row {R M H : Int} {u : Value} (hr : Row w y 97 (YC b size R M H u)) (ht : rt b = true) (i : Nat) : Calls Try.prog 204 #[.pointer (some ⟨y, 0, none⟩), .int .i64 i] w fun e w' => e = .returned (.int .i64 ((i : Int) % sz b)) ∧ w = w' := by
  have HS := Lib.hid (fun W => q2size_any b W)
  have hz := rt_pos ht
  obtain ⟨c0, c1, c2, c3, c4, c5⟩ := ycells hr
  generalize sz b = N at *
  obtain ⟨hz1, hz2⟩ := hz
  clear hr ht
  go_enter Try.func204, Try.ntmps204
  go_wp2_with (go_at_call 59; (with_reducible refine (HS.out _).mono ?_); rintro e w1 ⟨rfl, rfl⟩)
  go_ret
  exact ⟨rfl, rfl⟩
theorem ynumber_any (h : RY w y B b size R M H D) (i : Nat) : Calls Try.prog 204 #[.pointer (some ⟨y, 0, none⟩), .int .i64 i] w fun e w' => e = .returned (.int .i64 ((i : Int) % sz b)) ∧ w = w' := by
  obtain ⟨A, c, h1, _⟩ := h.row
  exact ynumber_row h1 h.rt i
set_option maxRecDepth 100000 in
set_option maxHeartbeats 1600000 in
theorem ydone_row {R M H : Int} {A : Option Addr} {c : Nat} (hr : Row w y 97 (YC b size R M H (.slice A D.length c))) (ho : w.ownsRow B 4 1 (.slice A D.length c) D.length (blv D)) (i : Nat) : Calls Try.prog 203 #[.pointer (some ⟨y, 0, none⟩), .int .i64 i] w fun e w' => e = .returned (.bool (D.getD i false)) ∧ w = w' := by
  obtain ⟨c0, c1, c2, c3, c4, c5⟩ := ycells hr
  have HA := Lib.hid (own_at ho)
  by_cases hi : i < D.length
  · obtain ⟨g, rfl, z⟩ := HA.out.cell (blv_at (List.getElem?_eq_getElem hi))
    rw [getD_at hi]
    generalize D[i] = d at *
    generalize D.length = L at *
    have h1 : (i : Int) < L := by omega
    have h0 : (0 : Int) ≤ i := by omega
    clear hr ho hi
    go_enter Try.func203, Try.ntmps203
    go_wp2
    go_ret
    exact ⟨rfl, rfl⟩
  · rw [getD_out (by omega)]
    generalize D.length = L at *
    have h1 : ¬ (i : Int) < L := by omega
    clear hr ho hi HA
    go_enter Try.func203, Try.ntmps203
    go_wp2
    go_ret
    exact ⟨rfl, rfl⟩
theorem ydone_any (h : RY w y B b size R M H D) (i : Nat) : Calls Try.prog 203 #[.pointer (some ⟨y, 0, none⟩), .int .i64 i] w fun e w' => e = .returned (.bool (D.getD i false)) ∧ w = w' := by
  obtain ⟨A, c, h1, h2⟩ := h.row
  exact ydone_row h1 h2 i
theorem yfar_call {f : Int} (ht : rt b = true) (hf : okn b f = true) (W : World) : Calls Try.prog 205 #[.int .i64 b, .int .i64 f, .int .i64 n] W fun e w' => e = .returned (.tuple #[.int .i64 (if okn b n = true then farx b f n else 0), .int .i64 (if okn b n = true then 0 else 1)]) ∧ W = w' := by
  refine (q2far_any b f n W).mono ?_
  rintro e w' ⟨rfl, hb⟩
  refine ⟨?_, hb⟩
  cases ho : okn b n
  · have h1 : FarV b f n = 0 := by unfold FarV; rw [all2, ho, Bool.and_false, Bool.and_false]; rfl
    have h2 : flt b [f, n] = 1 := by unfold flt; rw [all2, hf, ho, ht]; rfl
    rw [h1, h2]; rfl
  · obtain ⟨h1, h2⟩ := far_val ht hf ho
    rw [h1, h2]
    unfold farx
    rw [if_pos ho]; rfl
set_option maxRecDepth 100000 in
set_option maxHeartbeats 1600000 in
theorem yfar_row {M H : Int} {u : Value} (hr : Row w y 97 (YC b size R M H u)) (ht : rt b = true) (n : Int) : Calls Try.prog 68 #[.pointer (some ⟨y, 0, none⟩), .int .i64 n] w fun e w' => e = .returned (.int .i64 (farx b ((R : Int) % sz b) n)) ∧ Dr w w' := by
  have HN := Lib.hid (fun k => ynumber_row (hr.later (below_drewN (Below.refl _ _) k)) ht R)
  have HF := Lib.hid (fun W => yfar_call (n := n) ht (okn_mod ht (R : Int)) W)
  obtain ⟨c0, c1, c2, c3, c4, c5⟩ := ycells hr
  generalize (R : Int) % sz b = f at *
  cases ho : okn b n
  · rw [farx_no ho]
    rw [ho] at HF
    simp only [Bool.false_eq_true, if_false] at HF
    clear hr ht ho
    go_enter Try.func68, Try.ntmps68
    go_wp2
    go_quiet ((first | (go_at_call 204; exact Calls.quiet_of_same ((HN.out _).mono fun e w' h => ⟨h.1, h.2.symm⟩)) | (go_at_call 205; exact Calls.quiet_of_same ((HF.out _).mono fun e w' h => ⟨h.1, h.2.symm⟩))))
    go_wp2
    go_ret
    exact ⟨rfl, _, rfl⟩
  · have h0 : 0 ≤ farx b f n := by rw [farx_ix ho]; omega
    rw [ho] at HF
    simp only [if_true] at HF
    generalize farx b f n = d at *
    clear hr ht ho h0
    go_enter Try.func68, Try.ntmps68
    go_wp2
    go_quiet ((first | (go_at_call 204; exact Calls.quiet_of_same ((HN.out _).mono fun e w' h => ⟨h.1, h.2.symm⟩)) | (go_at_call 205; exact Calls.quiet_of_same ((HF.out _).mono fun e w' h => ⟨h.1, h.2.symm⟩))))
    go_wp2
    go_ret
    exact ⟨rfl, _, rfl⟩
theorem yfar_any (h : RY w y B b size R M H D) (n : Int) : Calls Try.prog 68 #[.pointer (some ⟨y, 0, none⟩), .int .i64 n] w fun e w' => e = .returned (.int .i64 (farx b ((R : Int) % sz b) n)) ∧ Dr w w' := by
  obtain ⟨A, c, h1, _⟩ := h.row
  exact yfar_row h1 h.rt n
set_option maxRecDepth 100000 in
set_option maxHeartbeats 1600000 in
theorem yin_any (h : RY w y B b size R M H D) (n : Int) : Calls Try.prog 67 #[.pointer (some ⟨y, 0, none⟩), .int .i64 n] w fun e w' => e = .returned (.bool (inx b size ((R : Int) % sz b) n)) ∧ Dr w w' := by
  have HF := Lib.hid (fun k => yfar_any (h.drawn k) n)
  obtain ⟨A, c, hr, _⟩ := h.row
  obtain ⟨c0, c1, c2, c3, c4, c5⟩ := ycells hr
  unfold inx
  generalize (R : Int) % sz b = f at *
  cases ho : okn b n
  · rw [farx_no ho] at HF
    rw [Bool.false_and]
    clear h hr ho
    go_enter Try.func67, Try.ntmps67
    go_wp2
    go_quiet ((go_at_call 68; exact Calls.quiet_of (HF.out _)))
    go_wp2
    go_ret
    exact ⟨rfl, _, rfl⟩
  · have h0 : 0 ≤ farx b f n := by rw [farx_ix ho]; omega
    rw [Bool.true_and]
    generalize farx b f n = d at *
    have hd0 : decide (0 ≤ d) = true := decide_eq_true h0
    clear h hr ho
    go_enter Try.func67, Try.ntmps67
    go_wp2
    go_quiet ((go_at_call 68; exact Calls.quiet_of (HF.out _)))
    go_wp2
    go_ret
    exact ⟨rfl, _, rfl⟩
set_option maxRecDepth 100000 in
set_option maxHeartbeats 1600000 in
theorem yis_any (h : RY w y B b size R M H D) (n : Int) : Calls Try.prog 69 #[.pointer (some ⟨y, 0, none⟩), .int .i64 n] w fun e w' => e = .returned (.bool (inx b size ((R : Int) % sz b) n && D.getD (R + ix (sz b) ((R : Int) % sz b) n) false)) ∧ Dr w w' := by
  have HF := Lib.hid (fun k => yfar_any (h.drawn k) n)
  have HI := Lib.hid (fun k => yin_any (h.drawn k) n)
  have HD := Lib.hid (fun k => ydone_any (h.drawn k) (R + ix (sz b) ((R : Int) % sz b) n))
  obtain ⟨A, c, hr, _⟩ := h.row
  obtain ⟨c0, c1, c2, c3, c4, c5⟩ := ycells hr
  cases hi : inx b size ((R : Int) % sz b) n
  · rw [hi] at HI
    rw [Bool.false_and]
    generalize D.getD (R + ix (sz b) ((R : Int) % sz b) n) false = d at *
    clear h hr hi
    go_enter Try.func69, Try.ntmps69
    go_wp2
    go_quiet ((first | (go_at_call 67; exact Calls.quiet_of (HI.out _)) | (go_at_call 68; exact Calls.quiet_of (HF.out _))))
    go_wp2
    go_ret
    exact ⟨rfl, _, rfl⟩
  · have hok : okn b n = true := by
      cases ho : okn b n
      · rw [inx_no ho] at hi; cases hi
      · rfl
    rw [hi] at HI
    rw [farx_ix hok] at HF
    rw [Bool.true_and]
    have hil : (ix (sz b) ((R : Int) % sz b) n : Int) < size := by rw [inx_ix hok] at hi; exact of_decide_eq_true hi
    have hsz : size ≤ 40000 := by have := h.hs2; have := h.pos; omega
    have hR := h.h5
    generalize ix (sz b) ((R : Int) % sz b) n = i at *
    have HDD := Lib.hid (fun k => by have h1 := HD.out k; rw [Int.natCast_add] at h1; exact h1)
    generalize D.getD (R + i) false = d at *
    have hib : (i : Int) ≤ 40000 := by omega
    have hRb : (R : Int) ≤ 1000 := by omega
    have hi0 : (0 : Int) ≤ i := by omega
    have hR0 : (0 : Int) ≤ R := by omega
    clear h hr hi hok HD
    go_enter Try.func69, Try.ntmps69
    go_wp2
    go_quiet ((first | (go_at_call 67; exact Calls.quiet_of (HI.out _)) | (go_at_call 68; exact Calls.quiet_of (HF.out _)) | (go_at_call 203; exact Calls.quiet_of_same ((HDD.out _).mono fun e w' h => ⟨h.1, h.2.symm⟩))))
    go_wp2
    go_ret
    exact ⟨rfl, _, rfl⟩
set_option maxRecDepth 100000 in
set_option maxHeartbeats 1600000 in
theorem yask_any (h : RY w y B b size R M H D) (n : Int) : Calls Try.prog 202 #[.pointer (some ⟨y, 0, none⟩), .int .i64 n] w fun e w' => e = .returned (.int .i64 (fltx b size ((R : Int) % sz b) n)) ∧ Dr w w' := by
  have HI := Lib.hid (yin_any h n)
  have HS := Lib.hid (fun W => q2is_any b n W)
  obtain ⟨A, c, hr, _⟩ := h.row
  obtain ⟨c0, c1, c2, c3, c4, c5⟩ := ycells hr
  unfold fltx
  unfold inx at HI
  generalize (R : Int) % sz b = f at *
  cases ho : okn b n
  · rw [ho] at HS
    clear h hr HI
    go_enter Try.func202, Try.ntmps202
    go_wp2_with (go_at_call 180; (with_reducible refine (HS.out _).mono ?_); rintro e w1 ⟨rfl, rfl⟩)
    go_ret
    exact ⟨rfl, 0, rfl⟩
  · rw [ho] at HS HI
    generalize farx b f n = d at *
    by_cases hd : d < size
    · rw [decide_eq_true hd] at HI
      rw [if_pos rfl, if_pos hd]
      simp only [Bool.true_and] at HI
      clear h hr ho
      go_enter Try.func202, Try.ntmps202
      go_wp2_with (first
        | (go_at_call 180; (with_reducible refine (HS.out _).mono ?_); rintro e w1 ⟨rfl, rfl⟩)
        | (go_at_call 67; (with_reducible refine HI.out.mono ?_); rintro e w2 ⟨rfl, hd2⟩; (have HD2 := Lib.hid hd2; clear hd2)))
      go_ret
      exact ⟨rfl, HD2.out⟩
    · rw [decide_eq_false hd] at HI
      rw [if_pos rfl, if_neg hd]
      simp only [Bool.and_false] at HI
      clear h hr ho
      go_enter Try.func202, Try.ntmps202
      go_wp2_with (first
        | (go_at_call 180; (with_reducible refine (HS.out _).mono ?_); rintro e w1 ⟨rfl, rfl⟩)
        | (go_at_call 67; (with_reducible refine HI.out.mono ?_); rintro e w2 ⟨rfl, hd2⟩; (have HD2 := Lib.hid hd2; clear hd2)))
      go_ret
      exact ⟨rfl, HD2.out⟩
end
end Go.Proofs.Ytgdpjaojlhdhdaa
namespace Go.Proofs.Ytgdpjaojlhdhdaa
open Go.RowKit Go.Maps

theorem opn_max {l : List Bool} {c : Nat} : opn l c ≤ max c l.length := by
  by_cases h : c ≤ l.length
  · have := opn_le h; omega
  · rw [opn_stop (getD_out (by omega))]; omega
def yleft (y H : Nat) (wr : World) : Nat := match wr.cell? ⟨y, 3, none⟩ with | some (.int _ m) => (H - m).toNat | _ => 0
section
variable {w v : World} {y B : Nat} {b size n : Int} {R M H : Nat} {D : List Bool}
theorem row3_else {w : World} {g y : Nat} {b size R M H : Int} {u p q r : Value} (h : Row w y 97 (YC b size R M H u)) (hne : g ≠ y) : (((w.setCell ⟨g, 0, none⟩ p).setCell ⟨g, 1, none⟩ q).setCell ⟨g, 2, none⟩ r).drew.cell? ⟨y, 2, none⟩ = some (.int .i64 R) ∧ (((w.setCell ⟨g, 0, none⟩ p).setCell ⟨g, 1, none⟩ q).setCell ⟨g, 2, none⟩ r).drew.cell? ⟨y, 3, none⟩ = some (.int .i64 M) ∧ (((w.setCell ⟨g, 0, none⟩ p).setCell ⟨g, 1, none⟩ q).setCell ⟨g, 2, none⟩ r).drew.cell? ⟨y, 4, none⟩ = some (.int .i64 H) :=
  have h3 := ((h.elsewhere (p := ⟨g, 0, none⟩) (Ne.symm hne) p).elsewhere (p := ⟨g, 1, none⟩) (Ne.symm hne) q).elsewhere (p := ⟨g, 2, none⟩) (Ne.symm hne) r
  ⟨h3.read rfl, h3.read rfl, h3.read rfl⟩
set_option maxRecDepth 100000 in
set_option maxHeartbeats 1600000 in
theorem ystate_any (h : RY w y B b size R M H D) : Calls Try.prog 65 #[.pointer (some ⟨y, 0, none⟩)] w fun e w' => e = .returned (.agg #[.int .i64 ((R : Int) % sz b), .int .i64 ((M : Int) % sz b), .int .i64 ((H : Int) % sz b)]) ∧ Below w.heap.size w w' := by
  have HN := Lib.hid (fun W (hb : Below w.heap.size w W) i => ynumber_any (h.later hb) i)
  obtain ⟨A, c, hr, _⟩ := h.row
  have HR := Lib.hid hr
  have hl := Row.made w 88 #[.int .i64 0, .int .i64 0, .int .i64 0]
  have HL := Lib.hid hl
  have HBa := Lib.hid (bl_alloc (Below.refl w.heap.size w) (.cells #[.int .i64 0, .int .i64 0, .int .i64 0] 88))
  have HNE := Lib.hid (Row.apart hl (hr.later HBa.out) (by decide) : w.heap.size ≠ y)
  clear h hr hl
  go_enter Try.func65, Try.ntmps65
  go_upto_region 1 with fail
  generalize hQ : (w.alloc (.cells #[.int .i64 0, .int .i64 0, .int .i64 0] 88)) = wq at *
  generalize hS : w.heap.size = sb at *
  clear hQ
  have hl := HL.out.drawn
  obtain ⟨d0, d1, d2⟩ := arr_cells HL.out
  have f0 := HL.out.free 0
  have f1 := HL.out.free 1
  have f2 := HL.out.free 2
  obtain ⟨c0, c1, c2, c3, c4, c5⟩ := ycells (HR.out.later (by rw [hS]; exact HBa.out.drew))
  have k0 : wq.drew.cell? ⟨y, 2, none⟩ = some (.int .i64 R) ∧ wq.drew.cell? ⟨y, 3, none⟩ = some (.int .i64 M) ∧ wq.drew.cell? ⟨y, 4, none⟩ = some (.int .i64 H) := ⟨c2, c3, c4⟩
  have HN2 := Lib.hid (fun (i : Nat) => HN.out wq.drew HBa.out.drew i)
  go_region_held3 (fun w' => w'.cell? ⟨y, 2, none⟩ = some (.int .i64 R) ∧ w'.cell? ⟨y, 3, none⟩ = some (.int .i64 M) ∧ w'.cell? ⟨y, 4, none⟩ = some (.int .i64 H)) (first | with_reducible exact k0 | exact row3_else (HR.out.later (by rw [hS]; exact HBa.out)) HNE.out | go_keep)
    (first | (go_at_call 204; (with_reducible refine (HN2.out _).mono ?_); rintro e w1 ⟨rfl, rfl⟩))
  all_goals
    go_wp2
    refine bodyPost_ret (results_cell_row rfl _ _ sb 88 #[.int .i64 ((R : Int) % sz b), .int .i64 ((M : Int) % sz b), .int .i64 ((H : Int) % sz b)] (0, 0) _ rfl ((((HL.out.drawn).written 0 (.int .i64 ((R : Int) % sz b))).written 1 (.int .i64 ((M : Int) % sz b))).written 2 (.int .i64 ((H : Int) % sz b))) Try.underlying88 rfl (by kernel_rfl)) rfl ?_
    subst hS
    exact ⟨rfl, bl_drew ((((Only.of_below HBa.out).set (S := fun k => k = w.heap.size) (p := ⟨w.heap.size, 0, none⟩) (.inl rfl) _).set (p := ⟨w.heap.size, 1, none⟩) (.inl rfl) _).set (p := ⟨w.heap.size, 2, none⟩) (.inl rfl) _ |>.below (Nat.le_refl _) (fun k hk e => by rcases e with e | e <;> omega))⟩
theorem RY.came (h : RY w y B b size R M H D) {i : Nat} (hi : (i : Int) < size) (hg : H ≤ R + i) : RY (w.setCell ⟨y, 4, none⟩ (.int .i64 ((R + i + 1 : Nat) : Int))) y B b size R M (R + i + 1) D := by
  obtain ⟨A, c, hr, ho⟩ := h.row
  have h1 := h.h1
  have h2 := h.h2
  have h4 := h.h4
  have h5 := h.h5
  exact ⟨⟨A, c, hr.written 4 _, own_only ho ((Only.refl (fun k => k = y) w).set (.inl rfl) _) (fun k hk e => by subst e; exact own_apart ho hr (by decide) hk)⟩, h.rt, h.hs, h.hs2, by omega, by omega, by omega, by omega, by omega⟩
theorem RY.late (h : RY w y B b size R M H D) {i : Nat} (h1 : R ≤ i) (hg : i ≤ H) : RY (w.setCell ⟨y, 3, none⟩ (.int .i64 (i : Int))) y B b size R i H D := by
  obtain ⟨A, c, hr, ho⟩ := h.row
  have h2 := h.h2
  have h4 := h.h4
  have h5 := h.h5
  exact ⟨⟨A, c, hr.written 3 _, own_only ho ((Only.refl (fun k => k = y) w).set (.inl rfl) _) (fun k hk e => by subst e; exact own_apart ho hr (by decide) hk)⟩, h.rt, h.hs, h.hs2, by omega, by omega, h.h3, by omega, by omega⟩
set_option maxRecDepth 100000 in
set_option maxHeartbeats 1600000 in
theorem ycame_bad (h : RY w y B b size R M H D) (hn : fltx b size ((R : Int) % sz b) n ≠ 0) : Calls Try.prog 60 #[.pointer (some ⟨y, 0, none⟩), .int .i64 n] w fun e w' => e = .returned (.int .i64 (fltx b size ((R : Int) % sz b) n)) ∧ Dr w w' := by
  have HF := Lib.hid (yask_any h n)
  generalize fltx b size ((R : Int) % sz b) n = q at *
  have hq : (q == 0) = false := by simpa using hn
  clear h hn
  go_enter Try.func60, Try.ntmps60
  go_wp2_with (go_at_call 202; (with_reducible refine HF.out.mono ?_); rintro e w1 ⟨rfl, hd1⟩; (obtain ⟨k1, rfl⟩ := hd1))
  go_quiet (fail)
  go_wp2
  go_ret
  exact ⟨rfl, _, World.drewN_drewN _ _ _⟩
set_option maxRecDepth 100000 in
set_option maxHeartbeats 1600000 in
theorem ycame_ok (h : RY w y B b size R M H D) (hn : okn b n = true) (hi : (ix (sz b) ((R : Int) % sz b) n : Int) < size) : Calls Try.prog 60 #[.pointer (some ⟨y, 0, none⟩), .int .i64 n] w fun e w' => e = .returned (.int .i64 0) ∧ RY w' y B b size R M (max H (R + ix (sz b) ((R : Int) % sz b) n + 1)) D ∧ Only (fun k => k = y) w w' := by
  have HF := Lib.hid (yask_any h n)
  rw [flt_good hn hi] at HF
  have HFR := Lib.hid (fun W (hb : Below w.heap.size w W) => by have h1 := yfar_any (h.later hb) n; rw [farx_ix hn] at h1; exact h1)
  have HY := Lib.hid h
  have hsz : size ≤ 40000 := by have := h.hs2; have := h.pos; omega
  have hRb : (R : Int) ≤ 1000 := by have := h.h5; omega
  have hHb : (H : Int) ≤ 50000 := by have := h.h3; omega
  obtain ⟨A, c, hr, _⟩ := h.row
  have HR := Lib.hid hr
  have HC := Lib.hid (fun W (hb : Below w.heap.size w W) hg => (h.later hb).came hi hg)
  generalize ix (sz b) ((R : Int) % sz b) n = i at *
  have hib : (i : Int) ≤ 40000 := by omega
  have hi0 : (0 : Int) ≤ i := by omega
  have hR0 : (0 : Int) ≤ R := by omega
  clear h hr hn hi
  by_cases hg : H ≤ R + i
  · have hgd : decide ((H : Int) ≤ (R : Int) + (i : Int)) = true := decide_eq_true (by omega)
    have HCC := Lib.hid (fun W (hb : Below w.heap.size w W) => HC.out W hb hg)
    rw [show max H (R + i + 1) = R + i + 1 by omega]
    have HNC := Lib.hid (show IntKind.i64.wrap (IntKind.i64.wrap ((R : Int) + (i : Int)) + 1) = ((R + i + 1 : Nat) : Int) by rw [IntWalk.i64_in ((R : Int) + (i : Int)) (by omega), IntWalk.i64_in _ (by omega)]; omega)
    go_enter Try.func60, Try.ntmps60
    go_wp2_with (go_at_call 202; (with_reducible refine HF.out.mono ?_); rintro e w1 ⟨rfl, hd1⟩; (have HB1 := Lib.hid hd1.below; have HFQ := Lib.hid (fun k => HFR.out _ (bl_step HB1.out (below_drewN (Below.refl _ _) k))); obtain ⟨c0, c1, c2, c3, c4, c5⟩ := ycells (HR.out.later HB1.out); clear hd1))
    go_quiet ((go_at_call 68; exact Calls.quiet_of (HFQ.out _)))
    have HBq := Lib.hid (bl_step HB1.out (below_drewN (Below.refl w1.heap.size w1) nq))
    generalize w1.drewN nq = wq at *
    go_upto_region 3 with fail
    have HBn := Lib.hid (bl_drew HBq.out)
    clear c0 c1 c2 c3 c4 c5
    obtain ⟨c0, c1, c2, c3, c4, c5⟩ := ycells (HR.out.later HBn.out)
    go_region_held3 (fun w' => w'.cell? ⟨y, 2, none⟩ = some (.int .i64 R)) (first | with_reducible exact c2 | exact (ycells (HR.out.later HB2.out)).2.2.1 | exact ((HR.out.later HB2.out).written 4 _).read (i := 2) rfl | go_keep)
      (first | (go_at_call 68; (with_reducible refine (HFR.out _ HBn.out).mono ?_); rintro e w2 ⟨rfl, hd2⟩; (have HB2 := Lib.hid (bl_step HBn.out hd2.below); have f4 := (HR.out.later HB2.out).free 4; clear hd2 c0 c1 c2 c3 c4 c5; obtain ⟨c0, c1, c2, c3, c4, c5⟩ := ycells (HR.out.later HB2.out))))
    go_wp2
    go_ret
    rw [HNC.out]
    exact ⟨rfl, HCC.out _ HB2.out, (Only.of_below HB2.out : Only (fun k => k = y) w w2).set (p := ⟨y, 4, none⟩) (.inl rfl) _⟩
  · have hgd : decide ((H : Int) ≤ (R : Int) + (i : Int)) = false := decide_eq_false (by omega)
    rw [show max H (R + i + 1) = H by omega]
    go_enter Try.func60, Try.ntmps60
    go_wp2_with (go_at_call 202; (with_reducible refine HF.out.mono ?_); rintro e w1 ⟨rfl, hd1⟩; (have HB1 := Lib.hid hd1.below; have HFQ := Lib.hid (fun k => HFR.out _ (bl_step HB1.out (below_drewN (Below.refl _ _) k))); obtain ⟨c0, c1, c2, c3, c4, c5⟩ := ycells (HR.out.later HB1.out); clear hd1))
    go_quiet ((go_at_call 68; exact Calls.quiet_of (HFQ.out _)))
    go_wp2
    go_ret
    have HBn := Lib.hid (bl_step HB1.out (below_drewN (Below.refl w1.heap.size w1) nq))
    exact ⟨rfl, HY.out.later HBn.out, Only.of_below HBn.out⟩
set_option maxRecDepth 100000 in
set_option maxHeartbeats 800000 in
theorem ylate_no (h : RY w y B b size R M H D) (hn : okn b n = false) : Calls Try.prog 63 #[.pointer (some ⟨y, 0, none⟩), .int .i64 n] w fun e w' => e = .returned (.int .i64 1) ∧ w = w' := by
  have HS := Lib.hid (fun W => q2is_any b n W)
  rw [hn] at HS
  obtain ⟨A, c, hr, _⟩ := h.row
  obtain ⟨c0, c1, c2, c3, c4, c5⟩ := ycells hr
  clear h hn hr
  go_enter Try.func63, Try.ntmps63
  go_wp2_with (go_at_call 180; (with_reducible refine (HS.out _).mono ?_); rintro e w1 ⟨rfl, rfl⟩)
  go_ret
  exact ⟨rfl, rfl⟩
set_option maxRecDepth 100000 in
set_option maxHeartbeats 1600000 in
theorem ylate_far (h : RY w y B b size R M H D) (hn : okn b n = true) (hf : H < R + ix (sz b) ((R : Int) % sz b) n) : Calls Try.prog 63 #[.pointer (some ⟨y, 0, none⟩), .int .i64 n] w fun e w' => e = .returned (.int .i64 11) ∧ Dr w w' := by
  have HS := Lib.hid (fun W => q2is_any b n W)
  rw [hn] at HS
  have HFR := Lib.hid (fun W (hb : Below w.heap.size w W) => by have h1 := yfar_any (h.later hb) n; rw [farx_ix hn] at h1; exact h1)
  have HFQ := Lib.hid (fun k => HFR.out _ (below_drewN (Below.refl w.heap.size w) k))
  have HY := Lib.hid h
  have hsz : size ≤ 40000 := by have := h.hs2; have := h.pos; omega
  have hRb : (R : Int) ≤ 1000 := by have := h.h5; omega
  have hHb : (H : Int) ≤ 50000 := by have := h.h3; omega
  have hMH : M ≤ H := h.h2
  have hixb : (ix (sz b) ((R : Int) % sz b) n : Int) ≤ 65536 := by have h1 := ix_lt (N := sz b) (f := (R : Int) % sz b) (n := n) (by have := h.pos; omega); have := h.pos; omega
  obtain ⟨A, c, hr, _⟩ := h.row
  obtain ⟨c0, c1, c2, c3, c4, c5⟩ := ycells hr
  generalize ix (sz b) ((R : Int) % sz b) n = i at *
  have hgd : decide ((H : Int) < (R : Int) + (i : Int)) = true := decide_eq_true (by omega)
  have hi0 : (0 : Int) ≤ i := by omega
  have hR0 : (0 : Int) ≤ R := by omega
  clear h hr hn hf
  go_enter Try.func63, Try.ntmps63
  go_wp2_with (go_at_call 180; (with_reducible refine (HS.out _).mono ?_); rintro e w1 ⟨rfl, rfl⟩)
  go_quiet ((go_at_call 68; exact Calls.quiet_of (HFQ.out _)))
  go_wp2
  go_ret
  exact ⟨rfl, _, rfl⟩
set_option maxRecDepth 100000 in
set_option maxHeartbeats 3200000 in
theorem ylate_ok (h : RY w y B b size R M H D) (hn : okn b n = true) (hf : R + ix (sz b) ((R : Int) % sz b) n ≤ H) : Calls Try.prog 63 #[.pointer (some ⟨y, 0, none⟩), .int .i64 n] w fun e w' => e = .returned (.int .i64 0) ∧ RY w' y B b size R (if M ≤ R + ix (sz b) ((R : Int) % sz b) n then opn D (R + ix (sz b) ((R : Int) % sz b) n) else M) H D ∧ Only (fun k => k = y) w w' := by
  have HS := Lib.hid (fun W => q2is_any b n W)
  rw [hn] at HS
  have HFR := Lib.hid (fun W (hb : Below w.heap.size w W) => by have h1 := yfar_any (h.later hb) n; rw [farx_ix hn] at h1; exact h1)
  have HFQ := Lib.hid (fun k => HFR.out _ (below_drewN (Below.refl w.heap.size w) k))
  have HY := Lib.hid h
  have hsz : size ≤ 40000 := by have := h.hs2; have := h.pos; omega
  have hRb : (R : Int) ≤ 1000 := by have := h.h5; omega
  have hHb : (H : Int) ≤ 50000 := by have := h.h3; omega
  have hMH : M ≤ H := h.h2
  have hixb : (ix (sz b) ((R : Int) % sz b) n : Int) ≤ 65536 := by have h1 := ix_lt (N := sz b) (f := (R : Int) % sz b) (n := n) (by have := h.pos; omega); have := h.pos; omega
  have hD4 : D.length ≤ H := h.h4
  obtain ⟨A, c, hr, _⟩ := h.row
  have HR := Lib.hid hr
  obtain ⟨c0, c1, c2, c3, c4, c5⟩ := ycells hr
  generalize ix (sz b) ((R : Int) % sz b) n = i at *
  have hgd : decide ((H : Int) < (R : Int) + (i : Int)) = false := decide_eq_false (by omega)
  have hi0 : (0 : Int) ≤ i := by omega
  have hR0 : (0 : Int) ≤ R := by omega
  have HWR : IntKind.i64.wrap ((R : Int) + (i : Int)) = ((R + i : Nat) : Int) := by rw [IntWalk.i64_in _ (by omega)]; omega
  have HWR := Lib.hid HWR
  clear h hr hn
  by_cases hg : M ≤ R + i
  · rw [if_pos hg]
    have hgd2 : decide ((M : Int) ≤ (R : Int) + (i : Int)) = true := decide_eq_true (by omega)
    have HOM := Lib.hid (show opn D (R + i) ≤ H by have := opn_max (l := D) (c := R + i); omega)
    go_enter Try.func63, Try.ntmps63
    go_wp2_with (go_at_call 180; (with_reducible refine (HS.out _).mono ?_); rintro e w1 ⟨rfl, rfl⟩)
    go_quiet ((go_at_call 68; exact Calls.quiet_of (HFQ.out _)))
    have HBq := Lib.hid (below_drewN (Below.refl w.heap.size w) nq)
    generalize w.drewN nq = wq at *
    clear c0 c1 c2 c3 c4 c5
    obtain ⟨c0, c1, c2, c3, c4, c5⟩ := ycells (HR.out.later HBq.out)
    have HFQ2 := Lib.hid (fun k => HFR.out _ (bl_step HBq.out (below_drewN (Below.refl wq.heap.size wq) k)))
    go_wp2
    go_quiet ((go_at_call 68; exact Calls.quiet_of (HFQ2.out _)))
    have HBr := Lib.hid (bl_step HBq.out (below_drewN (Below.refl wq.heap.size wq) nq))
    generalize wq.drewN nq = wz at *
    clear c0 c1 c2 c3 c4 c5
    go_upto_region 6 with fail
    have HBn := Lib.hid (bl_drew HBr.out)
    obtain ⟨c0, c1, c2, c3, c4, c5⟩ := ycells (HR.out.later HBn.out)
    go_region_held3 (fun w' => w'.cell? ⟨y, 2, none⟩ = some (.int .i64 R)) (first | with_reducible exact c2 | exact (ycells (HR.out.later HB2.out)).2.2.1 | exact ((HR.out.later HB2.out).written 3 _).read (i := 2) rfl | go_keep)
      (first | (go_at_call 68; (with_reducible refine (HFR.out _ HBn.out).mono ?_); rintro e w2 ⟨rfl, hd2⟩; (have HB2 := Lib.hid (bl_step HBn.out hd2.below); have f3 := (HR.out.later HB2.out).free 3; clear hd2 c0 c1 c2 c3 c4 c5; obtain ⟨c0, c1, c2, c3, c4, c5⟩ := ycells (HR.out.later HB2.out))))
    rw [show ((R : Int) + (i : Int)) = ((R + i : Nat) : Int) by omega]
    have HY3 := Lib.hid ((HY.out.later HB2.out).late (i := R + i) (by omega) hf)
    have HO3 := Lib.hid ((Only.of_below HB2.out : Only (fun k => k = y) w w2).set (p := ⟨y, 3, none⟩) (.inl rfl) (.int .i64 ((R + i : Nat) : Int)))
    generalize w2.setCell ⟨y, 3, none⟩ (.int .i64 ((R + i : Nat) : Int)) = w3 at *
    clear c0 c1 c2 c3 c4 c5
    have HOP := Lib.hid (show opn D (R + i) = opn D (R + i) from rfl)
    generalize ho : opn D (R + i) = o at HOP HOM ⊢
    have HOO := Lib.hid ho
    clear ho
    go_wp2
    go_loopw [49] (fun _ wr => ∃ k : Nat, R ≤ k ∧ k ≤ H ∧ Hid (RY wr y B b size R k H D) ∧ Hid (opn D k = o) ∧ Hid (Only (fun k => k = y) w wr)) (fun _ wr => yleft y H wr)
    case atStart => exact ⟨R + i, by omega, hf, HY3, HOO, HO3⟩
    case round =>
      obtain ⟨k, hk1, hk2, HYr, HOr, HOn⟩ := hrel
      have hd := ydone_any HYr.out k
      obtain ⟨A2, c2', hr2, _⟩ := HYr.out.row
      obtain ⟨c0, c1, c2, c3, c4, c5⟩ := ycells hr2
      have hkH : (k : Int) ≤ 50000 := by omega
      have hk0 : (0 : Int) ≤ k := by omega
      cases hv : D.getD k false
      · rw [hv] at hd
        have HD := Lib.hid hd
        have HE := Lib.hid (show o = k by rw [← HOr.out, opn_stop hv])
        clear hd hv
        go_wp2_with (go_at_call 203; (with_reducible refine HD.out.mono ?_); rintro e w4 ⟨rfl, rfl⟩)
        go_ret
        rw [HOO.out, HE.out]
        exact ⟨rfl, HYr.out, HOn.out⟩
      · rw [hv] at hd
        have HD := Lib.hid hd
        have hkl := getD_lt hv
        have hkH2 : k + 1 ≤ H := by omega
        have HNX := Lib.hid (HYr.out.late (i := k + 1) (by omega) hkH2)
        have HN := Lib.hid (show opn D (k + 1) = o by rw [← HOr.out, opn_step hv])
        have f3 := hr2.free 3
        have HML := Lib.hid (show yleft y H wr = H - k by unfold yleft; rw [c3]; simp)
        clear hd hv
        go_wp2_with (go_at_call 203; (with_reducible refine HD.out.mono ?_); rintro e w4 ⟨rfl, rfl⟩)
        go_roundw
        case rel => exact ⟨k + 1, by omega, hkH2, HNX, HN, Lib.hid (HOn.out.set (p := ⟨y, 3, none⟩) (.inl rfl) _)⟩
        case measure =>
          rw [HML.out]
          obtain ⟨A3, c3'', hr3, _⟩ := HNX.out.row
          have := (ycells hr3).2.2.2.1
          unfold yleft
          first
            | rw [this]
            | (rw [show ((k : Int) + 1) = ((k + 1 : Nat) : Int) by omega, this])
          simp
          omega
  · rw [if_neg hg]
    have hgd2 : decide ((M : Int) ≤ (R : Int) + (i : Int)) = false := decide_eq_false (by omega)
    go_enter Try.func63, Try.ntmps63
    go_wp2_with (go_at_call 180; (with_reducible refine (HS.out _).mono ?_); rintro e w1 ⟨rfl, rfl⟩)
    go_quiet ((go_at_call 68; exact Calls.quiet_of (HFQ.out _)))
    have HBq := Lib.hid (below_drewN (Below.refl w.heap.size w) nq)
    generalize w.drewN nq = wq at *
    clear c0 c1 c2 c3 c4 c5
    obtain ⟨c0, c1, c2, c3, c4, c5⟩ := ycells (HR.out.later HBq.out)
    have HFQ2 := Lib.hid (fun k => HFR.out _ (bl_step HBq.out (below_drewN (Below.refl wq.heap.size wq) k)))
    go_wp2
    go_quiet ((go_at_call 68; exact Calls.quiet_of (HFQ2.out _)))
    go_wp2
    go_ret
    have HBr := Lib.hid (bl_step HBq.out (below_drewN (Below.refl wq.heap.size wq) nq))
    exact ⟨rfl, HY.out.later HBr.out, Only.of_below HBr.out⟩
end
end Go.Proofs.Ytgdpjaojlhdhdaa
namespace Go.Proofs.Ytgdpjaojlhdhdaa
open Go.RowKit Go.Maps

section
variable {w v : World} {y B : Nat} {b size n : Int} {R M H : Nat} {D : List Bool}
theorem mod_add (a : Nat) (N : Int) (k : Nat) : ((a : Int) % N + (k : Int)) % N = ((a + k : Nat) : Int) % N := by
  rw [Int.emod_add_emod]; simp
set_option maxRecDepth 100000 in
set_option maxHeartbeats 3200000 in
theorem ymissing_any (h : RY w y B b size R M H D) : Calls Try.prog 66 #[.pointer (some ⟨y, 0, none⟩)] w fun e w' => ∃ A c, e = .returned (.slice A (miss (sz b) ((R : Int) % sz b) (D.drop R) (M - R)).length c) ∧ SlAt w.heap.size 3 w' A (ints (miss (sz b) ((R : Int) % sz b) (D.drop R) (M - R))) ∧ Below w.heap.size w w' := by
  have HD := Lib.hid (fun W (hb : Below w.heap.size w W) k => ydone_any (h.later hb) k)
  have HN := Lib.hid (fun W (hb : Below w.heap.size w W) k => ynumber_any (h.later hb) k)
  obtain ⟨A, c, hr, _⟩ := h.row
  have HR := Lib.hid hr
  have hRM := h.h1
  have hMb : M ≤ 50000 := by have h1 := h.h2; have h2 := h.h3; have h3 := h.h5; have h4 := h.hs2; have h5 := h.pos; omega
  have HOS := Lib.hid (fun k => miss_succ (N := sz b) (f := (R : Int) % sz b) (l := D.drop R) (k := k))
  have HOL := Lib.hid (fun k => miss_le (N := sz b) (f := (R : Int) % sz b) (l := D.drop R) (k := k))
  have HOG := Lib.hid (fun k => drop_getD (l := D) (j := R) (i := k))
  have HMO := Lib.hid (fun k => mod_add R (sz b) k)
  have HZ0 : ∀ wr : World, wr.ownsRow w.heap.size 3 1 (.slice none 0 0) (miss (sz b) ((R : Int) % sz b) (D.drop R) 0).length (ints (miss (sz b) ((R : Int) % sz b) (D.drop R) 0)) := fun wr => World.ownsRow_nil _ _ _ _
  have HZ0 := Lib.hid HZ0
  obtain ⟨c0, c1, c2, c3, c4, c5⟩ := ycells hr
  generalize miss (sz b) ((R : Int) % sz b) (D.drop R) = op at *
  generalize (D.drop R) = DR at *
  clear h hr
  go_enter Try.func66, Try.ntmps66
  go_wp2
  clear c0 c1 c2 c3 c4 c5
  go_loopw [3, 4] (fun s3 s4 wr => ∃ (k ik : Nat), k ≤ M - R ∧ s4 = .int .i64 (ik : Int) ∧ Hid (ik = R + k) ∧ Hid (wr.ownsRow w.heap.size 3 1 s3 (op k).length (ints (op k))) ∧ Hid (Below w.heap.size w wr)) (fun _ s4 _ => M - (intOf s4).toNat)
  case atStart => exact ⟨0, R, by omega, rfl, Lib.hid rfl, Lib.hid (HZ0.out _), Lib.hid (Below.refl _ _)⟩
  case round =>
    obtain ⟨k, ik, hk, rfl, HIK, HOW, HBr⟩ := hrel
    obtain ⟨c0, c1, c2, c3', c4, c5⟩ := ycells (HR.out.later HBr.out)
    obtain ⟨A3, c3, rfl, hc3, hc3m⟩ := own_shape HOW.out
    have hik : ik = R + k := HIK.out
    have hkb : (ik : Int) ≤ 50000 := by omega
    have hk0 : (0 : Int) ≤ ik := by omega
    by_cases hlt : k < M - R
    · have hlti : (ik : Int) < M := by omega
      have HLT := Lib.hid hlt
      have hd := HD.out wr HBr.out ik
      have hs := HOS.out k
      rw [HOG.out, ← hik, HMO.out, ← hik] at hs
      have HN2 := Lib.hid (fun W (hb : Below w.heap.size w W) => HN.out W hb ik)
      clear hik hlt
      cases hq : D.getD ik false
      · rw [hq] at hd hs
        simp only [Bool.false_eq_true, if_false] at hs
        have HDD := Lib.hid hd
        have HS := Lib.hid hs
        obtain ⟨A', c', w3, hrun, hown, hon⟩ := own_next (T := 85) (E := 3) (u := .int .i64 ((ik : Int) % sz b)) (by kernel_rfl) (show (Try.prog.info? 3).map (fun i => (i.zero, i.size, i.bytes)) = some (some (.int .i64 0), 1, 8) by kernel_rfl) rfl (by omega) rfl HOW.out HBr.out.size (by have := HOL.out k; omega)
        have HRUN := Lib.hid hrun
        have HOWN := Lib.hid hown
        have HON := Lib.hid (hon.below HBr.out.size (fun j hj hk => by have := (own_block HOW.out j hk).1; omega))
        clear hq hd hs hrun hown hon
        go_wp2_with (first
          | (go_at_call 203; (with_reducible refine HDD.out.mono ?_); rintro e w2 ⟨rfl, rfl⟩)
          | (go_at_call 204; (with_reducible refine (HN2.out _ HBr.out).mono ?_); rintro e w2 ⟨rfl, rfl⟩)
          | (at_builtin; refine wpList_is rfl (.tmp 21) (.tmp 25) 85 rfl _ _ (by rfl) (by rfl) HRUN.out ?_)
          | go_in)
        go_roundw
        case rel => exact ⟨k + 1, ik + 1, by have := HLT.out; omega, by go_num, Lib.hid (by rw [HIK.out]; omega), Lib.hid (by rw [HS.out, List.length_append, ints_app]; exact HOWN.out), Lib.hid (HBr.out.trans HON.out)⟩
        case measure => simp [intOf]; omega
      · rw [hq] at hd hs
        simp only [if_true, List.append_nil] at hs
        have HDD := Lib.hid hd
        have HS := Lib.hid hs
        clear hq hd hs
        go_wp2_with (first
          | (go_at_call 203; (with_reducible refine HDD.out.mono ?_); rintro e w2 ⟨rfl, rfl⟩)
          | go_in)
        go_roundw
        case rel => exact ⟨k + 1, ik + 1, by have := HLT.out; omega, by go_num, Lib.hid (by rw [HIK.out]; omega), Lib.hid (by rw [HS.out]; exact HOW.out), HBr⟩
        case measure => simp [intOf]; omega
    · obtain rfl : k = M - R := by omega
      have hlti : ¬ (ik : Int) < M := by omega
      go_wp2
      go_ret
      exact ⟨A3, ⟨c3, rfl⟩, own_at HOW.out, HBr.out⟩
end
end Go.Proofs.Ytgdpjaojlhdhdaa
namespace Go.Proofs.Ytgdpjaojlhdhdaa
open Go.RowKit Go.Maps

section
variable {w v : World} {y B n : Nat} {A : Option Addr} {c : Nat} {xs : List Value} {l : List Bool}
theorem blv_app (l k : List Bool) : blv (l ++ k) = blv l ++ blv k := by unfold blv; simp
theorem blv_set (l : List Bool) (i : Nat) : (blv l).set i (.bool true) = blv (l.set i true) := by unfold blv; rw [List.map_set]
theorem blv_len (l : List Bool) : (blv l).length = l.length := by unfold blv; simp
theorem own_set {m E i g : Nat} {c : Nat} (h : w.ownsRow m E 1 (.slice (some ⟨g, 0, none⟩) n c) n xs) (u : Value) : (w.setCell ⟨g, i, none⟩ u).ownsRow m E 1 (.slice (some ⟨g, 0, none⟩) n c) n (xs.set i u) := by
  rcases h.2 with ⟨h2, _⟩ | ⟨g', cap, cur, h1, h2, h3, h4, h5, h6, h7⟩
  · cases h2
  · injection h1 with hA _ hc
    injection hA with e
    injection e with e1
    subst e1
    subst hc
    refine ⟨by rw [List.length_set]; exact h.1, .inr ⟨g, _, cur.setIfInBounds i u, rfl, h2, ?_, h4, h5, by rw [Array.size_setIfInBounds]; exact h6, ?_⟩⟩
    · exact Row.written h3 i u
    · rw [← h7, Array.toList_setIfInBounds, List.take_set]
theorem own_down {m m2 E : Nat} {x : Value} (h : w.ownsRow m E 1 x n xs) (hm : m2 ≤ m) : w.ownsRow m2 E 1 x n xs := by
  refine ⟨h.1, ?_⟩
  rcases h.2 with h0 | ⟨g, cap, cur, h1, h2, h3⟩
  · exact .inl h0
  · exact .inr ⟨g, cap, cur, h1, Nat.le_trans hm h2, h3⟩
theorem run_app_none {P : Program} (w : World) (t ty e : TypeId) (i : TypeInfo) (ht : P.underlying t = some (.slice e)) (hi : P.info? e = some i) :
    (Builtin.append_ #[t, t] ty #[.slice none 0 0, .slice none 0 0]).run P w = .ok (.slice none 0 0) w := by
  simp [Builtin.append_, run_underlying ht, sizeOf, typeInfo, hi, Builtin.lenOf, Builtin.firstCells]
set_option maxRecDepth 100000 in
theorem own_copy {B by' : Nat} (h : w.ownsRow B 4 1 (.slice A n c) n (blv l)) (hI : (Try.prog.info? 4).map (fun i => (i.zero, i.size, i.bytes)) = some (some (.bool false), 1, by')) (hby : by' ≤ 24) (hn : n ≤ 100000) :
    ∃ A' c' w2, (Builtin.append_ #[95, 95] 95 #[.slice none 0 0, .slice A n c]).run Try.prog w = .ok (.slice A' n c') w2 ∧ w2.ownsRow w.heap.size 4 1 (.slice A' n c') n (blv l) ∧ Below w.heap.size w w2 := by
  obtain ⟨i0, hi, hi0, hi1, hi2⟩ := info_parts hI
  have hT : Try.prog.underlying 95 = some (.slice 4) := by kernel_rfl
  have hSA := own_at h
  rcases h.2 with ⟨h1, _⟩ | ⟨g, cap, cur, h1, _⟩
  · injection h1 with e1 e2 e3
    subst e1; subst e2; subst e3
    have hl : blv l = [] := List.eq_nil_of_length_eq_zero (by have := h.1; omega)
    exact ⟨none, 0, w, run_app_none w _ _ _ i0 hT hi, by rw [hl]; exact World.ownsRow_nil _ _ _ _, Below.refl _ _⟩
  · injection h1 with e1 e2 e3
    subst e1
    obtain ⟨v', w2, hrun, hown, hgr, _, _⟩ := run_append_own_at (P := Try.prog) (w := w) w.heap.size 95 95 4 i0 (.bool false) 1 by' hT hi hi0 hi1 hi2 rfl (by omega) (.slice none 0 0) 0 [] (World.ownsRow_nil _ _ _ _) ⟨g, 0, none⟩ n c (blv l) h.1
      (fun j u hu => by
        obtain ⟨g', hg, hc⟩ := hSA.cell hu
        injection hg with hg
        injection hg with hg
        subst hg
        rw [add_zero_o]
        exact hc) (by intro u hu; unfold blv at hu; obtain ⟨b0, _, rfl⟩ := List.mem_map.1 hu; rfl) (by unfold maxLen; omega) (by have := Nat.mul_le_mul (show 0 + n ≤ 100000 by omega) hby; omega) (Nat.le_refl _)
    rw [Nat.zero_add, List.nil_append] at hown
    obtain ⟨A', c', rfl, _, _⟩ := own_shape hown
    exact ⟨A', c', w2, hrun, hown, ((Only.refl (fun _ => False) w).grown hgr (fun k hk => by simp [Value.ownBlock] at hk)).below (Nat.le_refl _) (fun _ _ hk => hk)⟩
end
section
variable {w v : World} {y B : Nat} {b size n : Int} {R M H : Nat} {D : List Bool}
set_option maxRecDepth 100000 in
set_option maxHeartbeats 800000 in
theorem ywhole_bad (h : RY w y B b size R M H D) (hn : fltx b size ((R : Int) % sz b) n ≠ 0) : Calls Try.prog 61 #[.pointer (some ⟨y, 0, none⟩), .int .i64 n] w fun e w' => e = .returned (.tuple #[.slice none 0 0, .int .i64 (fltx b size ((R : Int) % sz b) n)]) ∧ Dr w w' := by
  have HF := Lib.hid (yask_any h n)
  generalize fltx b size ((R : Int) % sz b) n = q at *
  have hq : (q != 0) = true := by simpa using hn
  clear h hn
  go_enter Try.func61, Try.ntmps61
  go_wp2_with (go_at_call 202; (with_reducible refine HF.out.mono ?_); rintro e w1 ⟨rfl, hd1⟩; (have HD1 := Lib.hid hd1; clear hd1))
  go_ret2
  exact ⟨rfl, HD1.out⟩
set_option maxRecDepth 100000 in
set_option maxHeartbeats 800000 in
theorem ywhole_twice (h : RY w y B b size R M H D) (hn : okn b n = true) (hi : (ix (sz b) ((R : Int) % sz b) n : Int) < size) (ha : D.getD (R + ix (sz b) ((R : Int) % sz b) n) false = true) : Calls Try.prog 61 #[.pointer (some ⟨y, 0, none⟩), .int .i64 n] w fun e w' => e = .returned (.tuple #[.slice none 0 0, .int .i64 12]) ∧ Below w.heap.size w w' := by
  have HF := Lib.hid (yask_any h n)
  rw [flt_good hn hi] at HF
  have HI := Lib.hid (fun W (hb : Below w.heap.size w W) => by have h1 := yis_any (h.later hb) n; rw [ha, inx_ix hn, decide_eq_true hi] at h1; exact h1)
  clear h hn hi ha
  go_enter Try.func61, Try.ntmps61
  go_wp2_with (first
    | (go_at_call 202; (with_reducible refine HF.out.mono ?_); rintro e w1 ⟨rfl, hd1⟩; (have HB1 := Lib.hid hd1.below; clear hd1))
    | (go_at_call 69; (with_reducible refine (HI.out _ HB1.out).mono ?_); rintro e w2 ⟨rfl, hd2⟩; (have HB2 := Lib.hid (bl_step HB1.out hd2.below); clear hd2)))
  go_ret2
  exact ⟨rfl, HB2.out⟩
end
end Go.Proofs.Ytgdpjaojlhdhdaa
