/-
  The packet of amd that bytes are: Read walked. The packet of amd that bytes are: Read walked to its end. The packet of amd that bytes are: whatever the bytes.
-/
import Derived.Test.YtgdpjaojlhdhdaaJAmdReads14
namespace Go.Proofs.Ytgdpjaojlhdhdaa
open Go.RowKit

set_option maxRecDepth 100000 in
set_option maxHeartbeats 1600000 in
theorem headOf_kind {A : Option Addr} (wd : Int) (n cap : Nat) (w : World) (hw : ¬ (wd = 10 ∨ wd = 16)) :
    Calls Try.prog 172 #[.slice A n cap, .int .i64 wd] w fun e w' => e = .returned (.tuple #[.int .i64 0, .int .i64 9]) ∧ w = w' := by
  have hh : headA false wd = 0 := by unfold headA; rw [if_neg (fun h => hw (.inl h)), if_neg (fun h => hw (.inr h))]
  have HSH := Lib.hid (fun W => ahead_any false wd W)
  rw [hh] at HSH
  clear hh hw
  go_enter Try.func172, Try.ntmps172
  go_wp2_with (go_at_call 44; refine (HSH.out _).mono ?_; rintro e w1 ⟨rfl, rfl⟩)
  go_ret2
  exact ⟨rfl, rfl⟩
set_option maxRecDepth 100000 in
set_option maxHeartbeats 3200000 in
/-- what is wrong with the head's bytes -/
theorem aread_head {A : Option Addr} (wd er q : Int) (n cap : Nat) (w : World) (h0 : er ≠ 0) (hh : ∀ W, Below w.heap.size w W → Calls Try.prog 172 #[.slice A n cap, .int .i64 wd] W fun e w' => e = .returned (.tuple #[.int .i64 q, .int .i64 er]) ∧ W = w') :
    Calls Try.prog 34 #[.slice A n cap, .int .i64 wd] w fun e w' => e = .returned (.tuple #[.agg #[.bool false, .int .i64 0, .int .i64 0, .bool false, .bool false, .int .i64 0, .slice none 0 0], .int .i64 er]) ∧ Below w.heap.size w w' := by
  have HH := Lib.hid hh
  have he : (er != 0) = true := by simpa using h0
  clear hh h0
  go_enter Try.func34, Try.ntmps34
  go_wp2_with (go_at_call 172; refine (HH.out _ (bl_alloc (Below.refl _ _) _)).mono ?_; rintro e w1 ⟨rfl, rfl⟩)
  exact bodyPost_ret (v := .tuple #[.agg #[.bool false, .int .i64 0, .int .i64 0, .bool false, .bool false, .int .i64 0, .slice none 0 0], .int .i64 er]) (by simp [results, Try.results34, go_sem]) rfl ⟨rfl, by first | exact bl_alloc (Below.refl _ _) _ | exact (bl_alloc (Below.refl _ _) _).setCell (by simp) _⟩
set_option maxRecDepth 100000 in
set_option maxHeartbeats 6400000 in
/-- the head tells nothing -/
theorem aread_form {ad : Addr} (wd m n cap : Nat) (w : World) (hm : m ≤ n) (hcap : n ≤ cap) (hh : ∀ W, Below w.heap.size w W → Calls Try.prog 172 #[.slice (some ad) n cap, .int .i64 wd] W fun e w' => e = .returned (.tuple #[.int .i64 m, .int .i64 0]) ∧ W = w')
    (hr : ∀ W, Below w.heap.size w W → Calls Try.prog 173 #[.slice (some ad) m cap, .int .i64 wd] W fun e w' => e = .returned (.tuple #[.agg #[.bool false, .int .i64 0, .int .i64 0, .bool false, .bool false, .int .i64 0, .slice none 0 0], .bool false, .int .i64 3]) ∧ Below W.heap.size W w') :
    Calls Try.prog 34 #[.slice (some ad) n cap, .int .i64 wd] w fun e w' => e = .returned (.tuple #[.agg #[.bool false, .int .i64 0, .int .i64 0, .bool false, .bool false, .int .i64 0, .slice none 0 0], .int .i64 3]) ∧ Below w.heap.size w w' := by
  have HH := Lib.hid hh
  have HR := Lib.hid hr
  have ROW0 := Lib.hid (Row.made w 57 #[.bool false, .int .i64 0, .int .i64 0, .bool false, .bool false, .int .i64 0, .slice none 0 0])
  have HB0 := Lib.hid (bl_alloc (Below.refl w.heap.size w) (.cells #[.bool false, .int .i64 0, .int .i64 0, .bool false, .bool false, .int .i64 0, .slice none 0 0] 57))
  clear hh hr
  go_enter Try.func34, Try.ntmps34
  go_wp2_with (first
    | (go_at_call 172; refine (HH.out _ (bl_alloc (Below.refl _ _) _)).mono ?_; rintro e w1 ⟨rfl, rfl⟩)
    | (go_at_call 173; refine (HR.out _ HB0.out).mono ?_; rintro e w2 ⟨rfl, hb2⟩; (have R2 := ROW0.out.later hb2; have RW2 := Lib.hid R2; obtain ⟨⟨d0, d1, d2, d3, d4, d5, d6⟩, e0, e1, e2, e3, e4, e5, e6⟩ := cells_box R2; have HB2 := Lib.hid (HB0.out.trans (hb2.mono HB0.out.size)); have hz2 : w.heap.size < w2.heap.size := R2.inside; clear hb2 R2)))
  obtain ⟨dd, hdd⟩ := underamd_parts
  refine bodyPost_ret (results_two rfl _ _ w.heap.size 57 #[.bool false, .int .i64 0, .int .i64 0, .bool false, .bool false, .int .i64 0, .slice none 0 0] dd rfl ((((((((RW2.out.written 0 (.bool false)).written 1 (.int .i64 0)).written 2 (.int .i64 0)).written 3 (.bool false)).written 4 (.bool false)).written 5 (.int .i64 0)).written 6 (.slice none 0 0)).more (.cells #[.bool false, .int .i64 0, .int .i64 0, .bool false, .bool false, .int .i64 0, .slice none 0 0] 57)) hdd Try.infoamd) rfl ?_
  exact ⟨rfl, bl_alloc (((((((HB2.out.setCell (p := ⟨w.heap.size, 0, none⟩) (Nat.le_refl _) (.bool false)).setCell (p := ⟨w.heap.size, 1, none⟩) (Nat.le_refl _) (.int .i64 0)).setCell (p := ⟨w.heap.size, 2, none⟩) (Nat.le_refl _) (.int .i64 0)).setCell (p := ⟨w.heap.size, 3, none⟩) (Nat.le_refl _) (.bool false)).setCell (p := ⟨w.heap.size, 4, none⟩) (Nat.le_refl _) (.bool false)).setCell (p := ⟨w.heap.size, 5, none⟩) (Nat.le_refl _) (.int .i64 0)).setCell (p := ⟨w.heap.size, 6, none⟩) (Nat.le_refl _) (.slice none 0 0)) _⟩
end Go.Proofs.Ytgdpjaojlhdhdaa
namespace Go.Proofs.Ytgdpjaojlhdhdaa
open Go.RowKit

set_option maxRecDepth 100000 in
set_option maxHeartbeats 6400000 in
theorem aread_good {ad Ab : Addr} {t : List (List Nat)} (poll part last more : Bool) (fi sn off : Nat) (wd m n cap cb lw : Nat) (w : World) (hm : m ≤ n) (hcap : n ≤ cap) (hcut : (m < cap ∧ Ab = ad.add m ∧ cb = cap - m) ∨ (cap = m ∧ Ab = ad ∧ cb = 0))
    (hh : ∀ W, Below w.heap.size w W → Calls Try.prog 172 #[.slice (some ad) n cap, .int .i64 wd] W fun e w' => e = .returned (.tuple #[.int .i64 m, .int .i64 0]) ∧ W = w')
    (hr : ∀ W, Below w.heap.size w W → Calls Try.prog 173 #[.slice (some ad) m cap, .int .i64 wd] W fun e w' => e = .returned (.tuple #[.agg #[.bool poll, .int .i64 fi, .int .i64 sn, .bool part, .bool last, .int .i64 off, .slice none 0 0], .bool more, .int .i64 0]) ∧ Below W.heap.size W w')
    (hl : ∀ W, Calls Try.prog 174 #[.int .i64 wd] W fun e w' => e = .returned (.int .i64 lw) ∧ W = w')
    (hf : ∀ W, Below w.heap.size w W → Calls Try.prog 164 #[.slice (some Ab) (n - m) cb, .bool more, .int .i64 lw] W fun e w' => ∃ v L, t = texts L ∧ e = .returned (.tuple #[v, .int .i64 0]) ∧ OwnR W.heap.size w' v L ∧ Below W.heap.size W w') :
    Calls Try.prog 34 #[.slice (some ad) n cap, .int .i64 wd] w fun e w' => ∃ v L, t = texts L ∧ e = .returned (.tuple #[.agg #[.bool poll, .int .i64 fi, .int .i64 sn, .bool part, .bool last, .int .i64 off, v], .int .i64 0]) ∧ OwnR w.heap.size w' v L ∧ Below w.heap.size w w' := by
  have HH := Lib.hid hh
  have HR := Lib.hid hr
  have HL := Lib.hid hl
  have ROW0 := Lib.hid (Row.made w 57 #[.bool false, .int .i64 0, .int .i64 0, .bool false, .bool false, .int .i64 0, .slice none 0 0])
  have HB0 := Lib.hid (bl_alloc (Below.refl w.heap.size w) (.cells #[.bool false, .int .i64 0, .int .i64 0, .bool false, .bool false, .int .i64 0, .slice none 0 0] 57))
  clear hh hr hl
  rcases hcut with ⟨hk, rfl, rfl⟩ | ⟨rfl, rfl, rfl⟩
  · have HF := Lib.hid hf
    clear hf
    go_enter Try.func34, Try.ntmps34
    go_wp2_with (first
      | (go_at_call 172; refine (HH.out _ HB0.out).mono ?_; rintro e w1 ⟨rfl, rfl⟩)
      | (go_at_call 173; refine (HR.out _ HB0.out).mono ?_; rintro e w2 ⟨rfl, hb2⟩; (have R2 := ROW0.out.later hb2; have RW2 := Lib.hid R2; have HB2 := Lib.hid (HB0.out.trans (hb2.mono HB0.out.size)); have hz2 : w.heap.size < w2.heap.size := R2.inside; clear hb2 R2)))
    have HW3 := Lib.hid (bl_drew (bl_alloc (Below.refl w2.heap.size w2) (.cells #[.bool poll, .int .i64 fi, .int .i64 sn, .bool part, .bool last, .int .i64 off, .slice none 0 0] 57)))
    have RQ := Lib.hid (Row.made w2 57 #[.bool poll, .int .i64 fi, .int .i64 sn, .bool part, .bool last, .int .i64 off, .slice none 0 0])
    have RQD : Row (w2.alloc (.cells #[.bool poll, .int .i64 fi, .int .i64 sn, .bool part, .bool last, .int .i64 off, .slice none 0 0] 57)).drew w2.heap.size 57 #[.bool poll, .int .i64 fi, .int .i64 sn, .bool part, .bool last, .int .i64 off, .slice none 0 0] := RQ.out.drawn
    have g6 := RQD.read (i := 6) rfl
    have RQH := Lib.hid RQD
    clear RQD
    have HB3 := Lib.hid (HB2.out.trans (HW3.out.mono HB2.out.size))
    go_region_held3 (fun w' => w'.cell? ⟨w2.heap.size, 6, none⟩ = some (.slice none 0 0)) (first | assumption | go_keep) (first
      | (go_at_call 174; (with_reducible refine (HL.out _).mono ?_); rintro e v1 ⟨rfl, rfl⟩)
      | (go_at_call 164; (with_reducible refine (HF.out _ HB3.out).mono ?_); rintro e w7 ⟨v, L, ht, rfl, ho, hb7⟩; obtain ⟨Av, cv, rfl, hv1, hv2⟩ := ho.form; (have HO := Lib.hid ho; have HT := Lib.hid ht; have RQ7 := RQH.out.later hb7; have K6 := RQ7.read (i := 6) rfl; have HB7 := Lib.hid hb7; clear ho ht hb7)))
    have RQ8 := Lib.hid RQ7
    obtain ⟨⟨c0, c1, c2, c3, c4, c5, c6⟩, f0, f1, f2, f3, f4, f5, f6⟩ := cells_box RQ7
    have RW7 := Lib.hid ((((RW2.out.more (.cells #[.bool poll, .int .i64 fi, .int .i64 sn, .bool part, .bool last, .int .i64 off, .slice none 0 0] 57)).drawn)).later HB7.out)
    obtain ⟨⟨d0, d1, d2, d3, d4, d5, d6⟩, e0, e1, e2, e3, e4, e5, e6⟩ := cells_box RW7.out
    have HB8 := Lib.hid (HB3.out.trans (HB7.out.mono HB3.out.size))
    clear RQ7
    go_wp2
    obtain ⟨dd, hdd⟩ := underamd_parts
    have hnq : w.heap.size ≠ w2.heap.size := Nat.ne_of_lt hz2
    have hsz : w2.heap.size < w7.heap.size := RQ8.out.inside
    have hzq : w2.heap.size < (w2.alloc (.cells #[.bool poll, .int .i64 fi, .int .i64 sn, .bool part, .bool last, .int .i64 off, .slice none 0 0] 57)).drew.heap.size := RQH.out.inside
    refine bodyPost_ret (results_two rfl _ _ w.heap.size 57 #[.bool poll, .int .i64 fi, .int .i64 sn, .bool part, .bool last, .int .i64 off, .slice Av L.length cv] dd rfl ((((((((RW7.out.elsewhere (p := ⟨w2.heap.size, 6, none⟩) hnq (.slice Av L.length cv)).written 0 (.bool poll)).written 1 (.int .i64 fi)).written 2 (.int .i64 sn)).written 3 (.bool part)).written 4 (.bool last)).written 5 (.int .i64 off)).written 6 (.slice Av L.length cv)) hdd Try.infoamd) rfl ?_
    refine ⟨_, L, HT.out, rfl, ?_, ((((((((HB8.out.setCell (p := ⟨w2.heap.size, 6, none⟩) (Nat.le_of_lt hz2) (.slice Av L.length cv)).setCell (p := ⟨w.heap.size, 0, none⟩) (Nat.le_refl _) (.bool poll)).setCell (p := ⟨w.heap.size, 1, none⟩) (Nat.le_refl _) (.int .i64 fi)).setCell (p := ⟨w.heap.size, 2, none⟩) (Nat.le_refl _) (.int .i64 sn)).setCell (p := ⟨w.heap.size, 3, none⟩) (Nat.le_refl _) (.bool part)).setCell (p := ⟨w.heap.size, 4, none⟩) (Nat.le_refl _) (.bool last)).setCell (p := ⟨w.heap.size, 5, none⟩) (Nat.le_refl _) (.int .i64 off)).setCell (p := ⟨w.heap.size, 6, none⟩) (Nat.le_refl _) (.slice Av L.length cv))⟩
    exact (HO.out.only (S := fun k => (k = w.heap.size ∨ k = w2.heap.size)) (((((((((Only.refl (fun k => (k = w.heap.size ∨ k = w2.heap.size)) w7).set (p := ⟨w2.heap.size, 6, none⟩) (.inl (.inr rfl)) (.slice Av L.length cv)).set (p := ⟨w.heap.size, 0, none⟩) (.inl (.inl rfl)) (.bool poll)).set (p := ⟨w.heap.size, 1, none⟩) (.inl (.inl rfl)) (.int .i64 fi)).set (p := ⟨w.heap.size, 2, none⟩) (.inl (.inl rfl)) (.int .i64 sn)).set (p := ⟨w.heap.size, 3, none⟩) (.inl (.inl rfl)) (.bool part)).set (p := ⟨w.heap.size, 4, none⟩) (.inl (.inl rfl)) (.bool last)).set (p := ⟨w.heap.size, 5, none⟩) (.inl (.inl rfl)) (.int .i64 off)).set (p := ⟨w.heap.size, 6, none⟩) (.inl (.inl rfl)) (.slice Av L.length cv)) (fun k hk hS => by have := (HO.out.own.lt k hk).1; omega) (fun k cs hr hk hS => by omega)).down (by omega)
  · obtain rfl : n = cap := by omega
    simp only [Nat.sub_self] at hf
    have HF := Lib.hid hf
    clear hf
    go_enter Try.func34, Try.ntmps34
    go_wp2_with (first
      | (go_at_call 172; refine (HH.out _ HB0.out).mono ?_; rintro e w1 ⟨rfl, rfl⟩)
      | (go_at_call 173; refine (HR.out _ HB0.out).mono ?_; rintro e w2 ⟨rfl, hb2⟩; (have R2 := ROW0.out.later hb2; have RW2 := Lib.hid R2; have HB2 := Lib.hid (HB0.out.trans (hb2.mono HB0.out.size)); have hz2 : w.heap.size < w2.heap.size := R2.inside; clear hb2 R2)))
    have HW3 := Lib.hid (bl_drew (bl_alloc (Below.refl w2.heap.size w2) (.cells #[.bool poll, .int .i64 fi, .int .i64 sn, .bool part, .bool last, .int .i64 off, .slice none 0 0] 57)))
    have RQ := Lib.hid (Row.made w2 57 #[.bool poll, .int .i64 fi, .int .i64 sn, .bool part, .bool last, .int .i64 off, .slice none 0 0])
    have RQD : Row (w2.alloc (.cells #[.bool poll, .int .i64 fi, .int .i64 sn, .bool part, .bool last, .int .i64 off, .slice none 0 0] 57)).drew w2.heap.size 57 #[.bool poll, .int .i64 fi, .int .i64 sn, .bool part, .bool last, .int .i64 off, .slice none 0 0] := RQ.out.drawn
    have g6 := RQD.read (i := 6) rfl
    have RQH := Lib.hid RQD
    clear RQD
    have HB3 := Lib.hid (HB2.out.trans (HW3.out.mono HB2.out.size))
    go_region_held3 (fun w' => w'.cell? ⟨w2.heap.size, 6, none⟩ = some (.slice none 0 0)) (first | assumption | go_keep) (first
      | (go_at_call 174; (with_reducible refine (HL.out _).mono ?_); rintro e v1 ⟨rfl, rfl⟩)
      | (go_at_call 164; (with_reducible refine (HF.out _ HB3.out).mono ?_); rintro e w7 ⟨v, L, ht, rfl, ho, hb7⟩; obtain ⟨Av, cv, rfl, hv1, hv2⟩ := ho.form; (have HO := Lib.hid ho; have HT := Lib.hid ht; have RQ7 := RQH.out.later hb7; have K6 := RQ7.read (i := 6) rfl; have HB7 := Lib.hid hb7; clear ho ht hb7)))
    have RQ8 := Lib.hid RQ7
    obtain ⟨⟨c0, c1, c2, c3, c4, c5, c6⟩, f0, f1, f2, f3, f4, f5, f6⟩ := cells_box RQ7
    have RW7 := Lib.hid ((((RW2.out.more (.cells #[.bool poll, .int .i64 fi, .int .i64 sn, .bool part, .bool last, .int .i64 off, .slice none 0 0] 57)).drawn)).later HB7.out)
    obtain ⟨⟨d0, d1, d2, d3, d4, d5, d6⟩, e0, e1, e2, e3, e4, e5, e6⟩ := cells_box RW7.out
    have HB8 := Lib.hid (HB3.out.trans (HB7.out.mono HB3.out.size))
    clear RQ7
    go_wp2
    obtain ⟨dd, hdd⟩ := underamd_parts
    have hnq : w.heap.size ≠ w2.heap.size := Nat.ne_of_lt hz2
    have hsz : w2.heap.size < w7.heap.size := RQ8.out.inside
    have hzq : w2.heap.size < (w2.alloc (.cells #[.bool poll, .int .i64 fi, .int .i64 sn, .bool part, .bool last, .int .i64 off, .slice none 0 0] 57)).drew.heap.size := RQH.out.inside
    refine bodyPost_ret (results_two rfl _ _ w.heap.size 57 #[.bool poll, .int .i64 fi, .int .i64 sn, .bool part, .bool last, .int .i64 off, .slice Av L.length cv] dd rfl ((((((((RW7.out.elsewhere (p := ⟨w2.heap.size, 6, none⟩) hnq (.slice Av L.length cv)).written 0 (.bool poll)).written 1 (.int .i64 fi)).written 2 (.int .i64 sn)).written 3 (.bool part)).written 4 (.bool last)).written 5 (.int .i64 off)).written 6 (.slice Av L.length cv)) hdd Try.infoamd) rfl ?_
    refine ⟨_, L, HT.out, rfl, ?_, ((((((((HB8.out.setCell (p := ⟨w2.heap.size, 6, none⟩) (Nat.le_of_lt hz2) (.slice Av L.length cv)).setCell (p := ⟨w.heap.size, 0, none⟩) (Nat.le_refl _) (.bool poll)).setCell (p := ⟨w.heap.size, 1, none⟩) (Nat.le_refl _) (.int .i64 fi)).setCell (p := ⟨w.heap.size, 2, none⟩) (Nat.le_refl _) (.int .i64 sn)).setCell (p := ⟨w.heap.size, 3, none⟩) (Nat.le_refl _) (.bool part)).setCell (p := ⟨w.heap.size, 4, none⟩) (Nat.le_refl _) (.bool last)).setCell (p := ⟨w.heap.size, 5, none⟩) (Nat.le_refl _) (.int .i64 off)).setCell (p := ⟨w.heap.size, 6, none⟩) (Nat.le_refl _) (.slice Av L.length cv))⟩
    exact (HO.out.only (S := fun k => (k = w.heap.size ∨ k = w2.heap.size)) (((((((((Only.refl (fun k => (k = w.heap.size ∨ k = w2.heap.size)) w7).set (p := ⟨w2.heap.size, 6, none⟩) (.inl (.inr rfl)) (.slice Av L.length cv)).set (p := ⟨w.heap.size, 0, none⟩) (.inl (.inl rfl)) (.bool poll)).set (p := ⟨w.heap.size, 1, none⟩) (.inl (.inl rfl)) (.int .i64 fi)).set (p := ⟨w.heap.size, 2, none⟩) (.inl (.inl rfl)) (.int .i64 sn)).set (p := ⟨w.heap.size, 3, none⟩) (.inl (.inl rfl)) (.bool part)).set (p := ⟨w.heap.size, 4, none⟩) (.inl (.inl rfl)) (.bool last)).set (p := ⟨w.heap.size, 5, none⟩) (.inl (.inl rfl)) (.int .i64 off)).set (p := ⟨w.heap.size, 6, none⟩) (.inl (.inl rfl)) (.slice Av L.length cv)) (fun k hk hS => by have := (HO.out.own.lt k hk).1; omega) (fun k cs hr hk hS => by omega)).down (by omega)
set_option maxRecDepth 100000 in
set_option maxHeartbeats 6400000 in
theorem aread_fail {ad Ab : Addr} (poll part last more : Bool) (fi sn off : Nat) (er : Int) (h0 : er ≠ 0) (wd m n cap cb lw : Nat) (w : World) (hm : m ≤ n) (hcap : n ≤ cap) (hcut : (m < cap ∧ Ab = ad.add m ∧ cb = cap - m) ∨ (cap = m ∧ Ab = ad ∧ cb = 0))
    (hh : ∀ W, Below w.heap.size w W → Calls Try.prog 172 #[.slice (some ad) n cap, .int .i64 wd] W fun e w' => e = .returned (.tuple #[.int .i64 m, .int .i64 0]) ∧ W = w')
    (hr : ∀ W, Below w.heap.size w W → Calls Try.prog 173 #[.slice (some ad) m cap, .int .i64 wd] W fun e w' => e = .returned (.tuple #[.agg #[.bool poll, .int .i64 fi, .int .i64 sn, .bool part, .bool last, .int .i64 off, .slice none 0 0], .bool more, .int .i64 0]) ∧ Below W.heap.size W w')
    (hl : ∀ W, Calls Try.prog 174 #[.int .i64 wd] W fun e w' => e = .returned (.int .i64 lw) ∧ W = w')
    (hf : ∀ W, Below w.heap.size w W → Calls Try.prog 164 #[.slice (some Ab) (n - m) cb, .bool more, .int .i64 lw] W fun e w' => e = .returned (.tuple #[.slice none 0 0, .int .i64 er]) ∧ Below W.heap.size W w') :
    Calls Try.prog 34 #[.slice (some ad) n cap, .int .i64 wd] w fun e w' => e = .returned (.tuple #[.agg #[.bool false, .int .i64 0, .int .i64 0, .bool false, .bool false, .int .i64 0, .slice none 0 0], .int .i64 er]) ∧ Below w.heap.size w w' := by
  have HH := Lib.hid hh
  have HR := Lib.hid hr
  have HL := Lib.hid hl
  have ROW0 := Lib.hid (Row.made w 57 #[.bool false, .int .i64 0, .int .i64 0, .bool false, .bool false, .int .i64 0, .slice none 0 0])
  have HB0 := Lib.hid (bl_alloc (Below.refl w.heap.size w) (.cells #[.bool false, .int .i64 0, .int .i64 0, .bool false, .bool false, .int .i64 0, .slice none 0 0] 57))
  have he : (er != 0) = true := by simpa using h0
  clear hh hr hl h0
  rcases hcut with ⟨hk, rfl, rfl⟩ | ⟨rfl, rfl, rfl⟩
  · have HF := Lib.hid hf
    clear hf
    go_enter Try.func34, Try.ntmps34
    go_wp2_with (first
      | (go_at_call 172; refine (HH.out _ HB0.out).mono ?_; rintro e w1 ⟨rfl, rfl⟩)
      | (go_at_call 173; refine (HR.out _ HB0.out).mono ?_; rintro e w2 ⟨rfl, hb2⟩; (have R2 := ROW0.out.later hb2; have RW2 := Lib.hid R2; have HB2 := Lib.hid (HB0.out.trans (hb2.mono HB0.out.size)); have hz2 : w.heap.size < w2.heap.size := R2.inside; clear hb2 R2)))
    have HW3 := Lib.hid (bl_drew (bl_alloc (Below.refl w2.heap.size w2) (.cells #[.bool poll, .int .i64 fi, .int .i64 sn, .bool part, .bool last, .int .i64 off, .slice none 0 0] 57)))
    have RQ := Lib.hid (Row.made w2 57 #[.bool poll, .int .i64 fi, .int .i64 sn, .bool part, .bool last, .int .i64 off, .slice none 0 0])
    have RQD : Row (w2.alloc (.cells #[.bool poll, .int .i64 fi, .int .i64 sn, .bool part, .bool last, .int .i64 off, .slice none 0 0] 57)).drew w2.heap.size 57 #[.bool poll, .int .i64 fi, .int .i64 sn, .bool part, .bool last, .int .i64 off, .slice none 0 0] := RQ.out.drawn
    have g6 := RQD.read (i := 6) rfl
    have RQH := Lib.hid RQD
    clear RQD
    have HB3 := Lib.hid (HB2.out.trans (HW3.out.mono HB2.out.size))
    go_region_held3 (fun w' => w'.cell? ⟨w2.heap.size, 6, none⟩ = some (.slice none 0 0)) (first | assumption | go_keep) (first
      | (go_at_call 174; (with_reducible refine (HL.out _).mono ?_); rintro e v1 ⟨rfl, rfl⟩)
      | (go_at_call 164; (with_reducible refine (HF.out _ HB3.out).mono ?_); rintro e w7 ⟨rfl, hb7⟩; (have RQ7 := RQH.out.later hb7; have K6 := RQ7.read (i := 6) rfl; have HB7 := Lib.hid hb7; clear hb7)))
    have RQ8 := Lib.hid RQ7
    obtain ⟨⟨c0, c1, c2, c3, c4, c5, c6⟩, f0, f1, f2, f3, f4, f5, f6⟩ := cells_box RQ7
    have RW7 := Lib.hid ((((RW2.out.more (.cells #[.bool poll, .int .i64 fi, .int .i64 sn, .bool part, .bool last, .int .i64 off, .slice none 0 0] 57)).drawn)).later HB7.out)
    obtain ⟨⟨d0, d1, d2, d3, d4, d5, d6⟩, e0, e1, e2, e3, e4, e5, e6⟩ := cells_box RW7.out
    have HB8 := Lib.hid (HB3.out.trans (HB7.out.mono HB3.out.size))
    clear RQ7
    go_wp2
    obtain ⟨dd, hdd⟩ := underamd_parts
    refine bodyPost_ret (results_two rfl _ _ w.heap.size 57 #[.bool false, .int .i64 0, .int .i64 0, .bool false, .bool false, .int .i64 0, .slice none 0 0] dd rfl (((((((RW7.out.written 0 (.bool false)).written 1 (.int .i64 0)).written 2 (.int .i64 0)).written 3 (.bool false)).written 4 (.bool false)).written 5 (.int .i64 0)).written 6 (.slice none 0 0)) hdd Try.infoamd) rfl ?_
    exact ⟨rfl, (((((((HB8.out.setCell (p := ⟨w.heap.size, 0, none⟩) (Nat.le_refl _) (.bool false)).setCell (p := ⟨w.heap.size, 1, none⟩) (Nat.le_refl _) (.int .i64 0)).setCell (p := ⟨w.heap.size, 2, none⟩) (Nat.le_refl _) (.int .i64 0)).setCell (p := ⟨w.heap.size, 3, none⟩) (Nat.le_refl _) (.bool false)).setCell (p := ⟨w.heap.size, 4, none⟩) (Nat.le_refl _) (.bool false)).setCell (p := ⟨w.heap.size, 5, none⟩) (Nat.le_refl _) (.int .i64 0)).setCell (p := ⟨w.heap.size, 6, none⟩) (Nat.le_refl _) (.slice none 0 0))⟩
  · obtain rfl : n = cap := by omega
    simp only [Nat.sub_self] at hf
    have HF := Lib.hid hf
    clear hf
    go_enter Try.func34, Try.ntmps34
    go_wp2_with (first
      | (go_at_call 172; refine (HH.out _ HB0.out).mono ?_; rintro e w1 ⟨rfl, rfl⟩)
      | (go_at_call 173; refine (HR.out _ HB0.out).mono ?_; rintro e w2 ⟨rfl, hb2⟩; (have R2 := ROW0.out.later hb2; have RW2 := Lib.hid R2; have HB2 := Lib.hid (HB0.out.trans (hb2.mono HB0.out.size)); have hz2 : w.heap.size < w2.heap.size := R2.inside; clear hb2 R2)))
    have HW3 := Lib.hid (bl_drew (bl_alloc (Below.refl w2.heap.size w2) (.cells #[.bool poll, .int .i64 fi, .int .i64 sn, .bool part, .bool last, .int .i64 off, .slice none 0 0] 57)))
    have RQ := Lib.hid (Row.made w2 57 #[.bool poll, .int .i64 fi, .int .i64 sn, .bool part, .bool last, .int .i64 off, .slice none 0 0])
    have RQD : Row (w2.alloc (.cells #[.bool poll, .int .i64 fi, .int .i64 sn, .bool part, .bool last, .int .i64 off, .slice none 0 0] 57)).drew w2.heap.size 57 #[.bool poll, .int .i64 fi, .int .i64 sn, .bool part, .bool last, .int .i64 off, .slice none 0 0] := RQ.out.drawn
    have g6 := RQD.read (i := 6) rfl
    have RQH := Lib.hid RQD
    clear RQD
    have HB3 := Lib.hid (HB2.out.trans (HW3.out.mono HB2.out.size))
    go_region_held3 (fun w' => w'.cell? ⟨w2.heap.size, 6, none⟩ = some (.slice none 0 0)) (first | assumption | go_keep) (first
      | (go_at_call 174; (with_reducible refine (HL.out _).mono ?_); rintro e v1 ⟨rfl, rfl⟩)
      | (go_at_call 164; (with_reducible refine (HF.out _ HB3.out).mono ?_); rintro e w7 ⟨rfl, hb7⟩; (have RQ7 := RQH.out.later hb7; have K6 := RQ7.read (i := 6) rfl; have HB7 := Lib.hid hb7; clear hb7)))
    have RQ8 := Lib.hid RQ7
    obtain ⟨⟨c0, c1, c2, c3, c4, c5, c6⟩, f0, f1, f2, f3, f4, f5, f6⟩ := cells_box RQ7
    have RW7 := Lib.hid ((((RW2.out.more (.cells #[.bool poll, .int .i64 fi, .int .i64 sn, .bool part, .bool last, .int .i64 off, .slice none 0 0] 57)).drawn)).later HB7.out)
    obtain ⟨⟨d0, d1, d2, d3, d4, d5, d6⟩, e0, e1, e2, e3, e4, e5, e6⟩ := cells_box RW7.out
    have HB8 := Lib.hid (HB3.out.trans (HB7.out.mono HB3.out.size))
    clear RQ7
    go_wp2
    obtain ⟨dd, hdd⟩ := underamd_parts
    refine bodyPost_ret (results_two rfl _ _ w.heap.size 57 #[.bool false, .int .i64 0, .int .i64 0, .bool false, .bool false, .int .i64 0, .slice none 0 0] dd rfl (((((((RW7.out.written 0 (.bool false)).written 1 (.int .i64 0)).written 2 (.int .i64 0)).written 3 (.bool false)).written 4 (.bool false)).written 5 (.int .i64 0)).written 6 (.slice none 0 0)) hdd Try.infoamd) rfl ?_
    exact ⟨rfl, (((((((HB8.out.setCell (p := ⟨w.heap.size, 0, none⟩) (Nat.le_refl _) (.bool false)).setCell (p := ⟨w.heap.size, 1, none⟩) (Nat.le_refl _) (.int .i64 0)).setCell (p := ⟨w.heap.size, 2, none⟩) (Nat.le_refl _) (.int .i64 0)).setCell (p := ⟨w.heap.size, 3, none⟩) (Nat.le_refl _) (.bool false)).setCell (p := ⟨w.heap.size, 4, none⟩) (Nat.le_refl _) (.bool false)).setCell (p := ⟨w.heap.size, 5, none⟩) (Nat.le_refl _) (.int .i64 0)).setCell (p := ⟨w.heap.size, 6, none⟩) (Nat.le_refl _) (.slice none 0 0))⟩
end Go.Proofs.Ytgdpjaojlhdhdaa
namespace Go.Proofs.Ytgdpjaojlhdhdaa
open Go.RowKit

theorem src_cut {W : World} {ad : Addr} {bs : List Nat} {n cap : Nat} (m : Nat) (hn : bs.length = n) (hm : m ≤ n) (hcap : n ≤ cap) (hs : Src W (some ad) (bts bs)) :
    ∃ (Ab : Addr) (cb : Nat), ((m < cap ∧ Ab = ad.add m ∧ cb = cap - m) ∨ (cap = m ∧ Ab = ad ∧ cb = 0)) ∧ n - m ≤ cb ∧ cb ≤ cap ∧ ∀ V, Below W.heap.size W V → Src V (some Ab) (bts (bs.drop m)) := by
  by_cases hk : cap = m
  · refine ⟨ad, 0, .inr ⟨hk, rfl, rfl⟩, by omega, by omega, fun V hV h0 => absurd h0 ?_⟩
    rw [length_bts, List.length_drop]
    omega
  · refine ⟨ad.add m, cap - m, .inl ⟨by omega, rfl, rfl⟩, by omega, by omega, fun V hV => ?_⟩
    have h9 := src_dropc (c := 0) m (show Src V (some ad) (bts (bs.drop 0)) from src_later hs hV)
    rw [Nat.zero_add] at h9
    exact h9
theorem aread_yes {A : Option Addr} {bs : List Nat} (wd n cap : Nat) (w : World) (hw : wd = 10 ∨ wd = 16) (hn : bs.length = n) (hm : n ≤ 8192) (hc : n ≤ cap) (hcm : cap ≤ 9223372036854775807) (hs : Src w A (bts bs)) (hb : ∀ b ∈ bs, b < 256) :
    Calls Try.prog 34 #[.slice A n cap, .int .i64 wd] w (ArdAns w.heap.size w (amdRd bs wd)) := by
  by_cases h0 : (headR bs wd).2 = 0
  · obtain ⟨h1, h2, h3, h4, h5, h6⟩ := headR_ok hw h0
    obtain ⟨ad, rfl, _⟩ := hs (by rw [length_bts]; omega)
    have hR : amdRd bs wd = amdRd2 (amdHd (bs.take (headNA (bitAt bs 1) wd)) (bitAt bs 1) wd) (bs.drop (headNA (bitAt bs 1) wd)) (lwNA wd) := by
      unfold amdRd
      rw [if_pos h0, h4]
    have hpart : bitAt (bs.take (headNA (bitAt bs 1) wd)) 1 = bitAt bs 1 := bitAt_take (by have := headNA_bd (bitAt bs 1) wd; omega) h5
    have hho : ∀ W, Below w.heap.size w W → Calls Try.prog 172 #[.slice (some ad) n cap, .int .i64 wd] W fun e w' => e = .returned (.tuple #[.int .i64 (headNA (bitAt bs 1) wd), .int .i64 0]) ∧ W = w' := fun W hW => by
      have h9 := headOf_any (A := some ad) wd n cap W hw hn (src_later hs hW) hb
      rw [h6] at h9
      exact h9
    have hlen : (bs.take (headNA (bitAt bs 1) wd)).length = headNA (bitAt bs 1) wd := by rw [List.length_take]; omega
    have hsm : ∀ b ∈ bs.take (headNA (bitAt bs 1) wd), b < 256 := fun b h => hb b (List.mem_of_mem_take h)
    obtain ⟨hlw, hlw2, _⟩ := lwA_cast hw
    have hl : ∀ W, Calls Try.prog 174 #[.int .i64 wd] W fun e w' => e = .returned (.int .i64 (lwNA wd)) ∧ W = w' := fun W => by
      have h9 := alen_any wd W
      rw [hlw] at h9
      exact h9
    have hdl : (bs.drop (headNA (bitAt bs 1) wd)).length = n - headNA (bitAt bs 1) wd := by rw [List.length_drop, hn]
    obtain ⟨Ab, cb, hcut, hcb, hcb2, hsb⟩ := src_cut (headNA (bitAt bs 1) wd) hn (by omega) hc hs
    have hf : ∀ more W, Below w.heap.size w W → Calls Try.prog 164 #[.slice (some Ab) (n - headNA (bitAt bs 1) wd) cb, .bool more, .int .i64 (lwNA wd)] W (FldAns W.heap.size W (fldR (bs.drop (headNA (bitAt bs 1) wd)) more (lwNA wd))) := fun more W hW =>
      fread_any more (lwNA wd) _ cb (lwNA wd) W hlw2 rfl hdl (by omega) hcb (by omega) (hsb W hW) (fun b h => hb b (List.mem_of_mem_drop h))
    rw [hR]
    generalize hmm : headNA (bitAt bs 1) wd = m at *
    cases ha : amdHd (bs.take m) (bitAt bs 1) wd with
    | none =>
      refine (aread_form wd m n cap w (by omega) hc hho (fun W hW => aread_none m cap W hw hmm hlen (by omega) (src_take m (src_later hs hW)) hsm hpart ha)).mono ?_
      rintro e w' ⟨rfl, hbl⟩
      exact ard_bad rfl (by decide) hbl
    | some hq =>
      obtain ⟨h, more⟩ := hq
      have hr := fun W hW => aread_some m cap W hw hmm hlen (by omega) (src_take m (src_later hs hW)) hsm hpart ha
      by_cases hz : (fldR (bs.drop m) more (lwNA wd)).1 = 0
      · refine (aread_good (t := (fldR (bs.drop m) more (lwNA wd)).2) h.poll h.part h.last more h.fi h.sn h.off wd m n cap cb (lwNA wd) w (by omega) hc hcut hho hr hl (fun W hW => (hf more W hW).mono ?_)).mono ?_
        · rintro e w' ⟨⟨_, v, L, h8, rfl, h9⟩ | h7, hbl⟩
          · exact ⟨v, L, h8, rfl, h9, hbl⟩
          · exact absurd hz h7.1
        · rintro e w' ⟨v, L, ht, rfl, ho, hbl⟩
          refine ard_ok ?_ ho hbl
          unfold amdRd2
          simp only [hz, if_true, ht]
      · refine (aread_fail h.poll h.part h.last more h.fi h.sn h.off (fldR (bs.drop m) more (lwNA wd)).1 hz wd m n cap cb (lwNA wd) w (by omega) hc hcut hho hr hl (fun W hW => (hf more W hW).mono ?_)).mono ?_
        · rintro e w' ⟨⟨h7, _⟩ | ⟨_, rfl⟩, hbl⟩
          · exact absurd h7 hz
          · exact ⟨rfl, hbl⟩
        · rintro e w' ⟨rfl, hbl⟩
          refine ard_bad ?_ hz hbl
          unfold amdRd2
          simp only [hz, if_false]
  · refine (aread_head wd (headR bs wd).2 (headR bs wd).1 n cap w h0 (fun W hW => headOf_any wd n cap W hw hn (src_later hs hW) hb)).mono ?_
    rintro e w' ⟨rfl, hbl⟩
    exact ard_bad (by unfold amdRd; rw [if_neg h0]) h0 hbl
theorem aread_kind {A : Option Addr} (n cap : Nat) (wd : Int) (w : World) (hw : ¬ (wd = 10 ∨ wd = 16)) :
    Calls Try.prog 34 #[.slice A n cap, .int .i64 wd] w fun e w' => e = .returned (.tuple #[.agg #[.bool false, .int .i64 0, .int .i64 0, .bool false, .bool false, .int .i64 0, .slice none 0 0], .int .i64 9]) ∧ Below w.heap.size w w' :=
  aread_head wd 9 0 n cap w (by decide) (fun W _ => headOf_kind wd n cap W hw)
theorem amdRd_kind {bs : List Nat} {wd : Nat} (h : ¬ (wd = 10 ∨ wd = 16)) : (amdRd bs wd).1 = 9 := by
  have e : headR bs wd = (0, 9) := by unfold headR; rw [if_neg h]
  unfold amdRd
  rw [e]
  rfl
end Go.Proofs.Ytgdpjaojlhdhdaa
