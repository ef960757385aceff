/-
  reseg, the document's: Cut: what may not be, and what goes as it is.
-/
import Derived.Test.YtolinlnnbdjimaaJResegCuts08
namespace Go.Proofs.Ytolinlnnbdjimaa
open Go.RowKit

theorem underrf_parts : ∃ fs, Try.prog.underlying 35 = some (.struct fs) := underref10_parts
theorem rows3 (w : World) (t : TypeId) (a b c : Array Value) : Row (((w.alloc (.cells a t)).alloc (.cells b t)).alloc (.cells c t)) w.heap.size t a ∧ Row (((w.alloc (.cells a t)).alloc (.cells b t)).alloc (.cells c t)) (w.heap.size + 1) t b ∧ Row (((w.alloc (.cells a t)).alloc (.cells b t)).alloc (.cells c t)) (w.heap.size + 2) t c := by
  have h1 := Row.made (w.alloc (.cells a t)) t b
  have h2 := Row.made ((w.alloc (.cells a t)).alloc (.cells b t)) t c
  rw [show (w.alloc (.cells a t)).heap.size = w.heap.size + 1 by simp] at h1
  rw [show ((w.alloc (.cells a t)).alloc (.cells b t)).heap.size = w.heap.size + 2 by simp] at h2
  exact ⟨((Row.made w t a).more _).more _, h1.more _, h2⟩
theorem radata_len {A : Option Addr} {L : List RowB} (poll part last : Bool) (fi sn off : Int) (n cap : Nat) (w : World) (hL : L.length = n) (hn : n ≤ 40) (hs : RSrc w A L) (hm : (lens L).sum ≤ 9000) :
    Calls Try.prog 31 #[.agg #[.bool poll, .int .i64 fi, .int .i64 sn, .bool part, .bool last, .int .i64 off, .slice A n cap]] w fun e w' => ∃ A' c', e = .returned (.slice A' (lens L).sum c') ∧ OwnY w.heap.size w' (.slice A' (lens L).sum c') (flat L) ∧ Below w.heap.size w w' :=
  (radata_any poll part last fi sn off n cap w hL hn hs hm).mono fun e w' h => by
    obtain ⟨v, rfl, ho, hbl⟩ := h
    obtain ⟨A', c', rfl, _⟩ := ho.form
    rw [length_flat] at *
    exact ⟨A', c', rfl, ho, hbl⟩
set_option maxRecDepth 100000 in
set_option maxHeartbeats 12800000 in
theorem rrc_bad {A : Option Addr} {L : List RowB} (poll part last : Bool) (fi sn off : Int) (n cap : Nat) (a b grant wd : Int) (w : World) (hL : L.length = n) (hn : n ≤ 40) (hs : RSrc w A L) (hsum : (lens L).sum ≤ 9000) (h0 : faultR part last fi sn off (lens L) a b grant wd ≠ 0) :
    Calls Try.prog 40 #[.agg #[.bool poll, .int .i64 fi, .int .i64 sn, .bool part, .bool last, .int .i64 off, .slice A n cap], .int .i64 a, .int .i64 b, .int .i64 grant, .int .i64 wd] w fun e w' => e = .returned (.tuple #[.agg #[.bool false, .int .i64 0, .int .i64 0, .bool false, .bool false, .int .i64 0, .slice none 0 0], .int .i64 0, .int .i64 (faultR part last fi sn off (lens L) a b grant wd)]) ∧ Below w.heap.size w w' := by
  have HS := Lib.hid (fun W (hb : Below w.heap.size w W) => rasize_any (A := A) poll part last fi sn off wd n cap W hL hn hsum (hs.later hb))
  have HD := Lib.hid (fun W (hb : Below w.heap.size w W) => radata_len (A := A) (L := L) poll part last fi sn off n cap W hL hn (hs.later hb) hsum)
  have hF : faultR part last fi sn off (lens L) a b grant wd = if part = true ∨ amdF part last fi sn off (lens L) wd = 0 then 3 else if grant < 0 ∨ 4096 < grant then 1 else if a < 0 ∨ b ≤ a ∨ ((lens L).sum : Int) < b then 1 else 0 := rfl
  generalize faultR part last fi sn off (lens L) a b grant wd = F at *
  generalize amdF part last fi sn off (lens L) wd = z at *
  generalize (lens L).sum = d at *
  obtain ⟨r0, r1, r2⟩ := rows3 w 35 #[.bool poll, .int .i64 fi, .int .i64 sn, .bool part, .bool last, .int .i64 off, .slice A n cap] #[.bool false, .int .i64 0, .int .i64 0, .bool false, .bool false, .int .i64 0, .slice none 0 0] #[.bool false, .int .i64 0, .int .i64 0, .bool false, .bool false, .int .i64 0, .slice none 0 0]
  have HB0 := Lib.hid (bl_alloc (bl_alloc (bl_alloc (Below.refl w.heap.size w) (.cells #[.bool poll, .int .i64 fi, .int .i64 sn, .bool part, .bool last, .int .i64 off, .slice A n cap] 35)) (.cells #[.bool false, .int .i64 0, .int .i64 0, .bool false, .bool false, .int .i64 0, .slice none 0 0] 35)) (.cells #[.bool false, .int .i64 0, .int .i64 0, .bool false, .bool false, .int .i64 0, .slice none 0 0] 35))
  have R0 := Lib.hid r0
  have R1 := Lib.hid r1
  have R2 := Lib.hid r2
  obtain ⟨k_0, k_1, k_2, k_3, k_4, k_5, k_6⟩ := cells_pk R0.out
  clear r0 r1 r2 hs hL hsum
  obtain ⟨dq, hdq⟩ := underref10_parts
  have key : ∀ e1 e2 b1 b2 b3 b4 b5 : Bool, part = e1 → (z == 0) = e2 → decide (grant < 0) = b1 → decide (4096 < grant) = b2 → decide (a < 0) = b3 → decide (b ≤ a) = b4 → decide ((d : Int) < b) = b5 → F = (if e1 || e2 then 3 else if b1 || b2 then 1 else if b3 || (b4 || b5) then 1 else 0) → Calls Try.prog 40 #[.agg #[.bool poll, .int .i64 fi, .int .i64 sn, .bool part, .bool last, .int .i64 off, .slice A n cap], .int .i64 a, .int .i64 b, .int .i64 grant, .int .i64 wd] w fun e w' => e = .returned (.tuple #[.agg #[.bool false, .int .i64 0, .int .i64 0, .bool false, .bool false, .int .i64 0, .slice none 0 0], .int .i64 0, .int .i64 F]) ∧ Below w.heap.size w w' := by
    intro e1 e2 b1 b2 b3 b4 b5 g1 g2 h1 h2 h3 h4 h5 hq
    subst g1
    clear hF
    have hcase : (part = true ∧ F = 3) ∨ (part = false ∧ e2 = true ∧ F = 3) ∨ (part = false ∧ e2 = false ∧ F = 1 ∧ (b1 = true ∨ (b1 = false ∧ b2 = true) ∨ (b1 = false ∧ b2 = false ∧ b3 = true) ∨ (b1 = false ∧ b2 = false ∧ b3 = false ∧ b4 = true) ∨ (b1 = false ∧ b2 = false ∧ b3 = false ∧ b4 = false ∧ b5 = true))) := by
      revert hq h0
      cases part <;> cases e2 <;> cases b1 <;> cases b2 <;> cases b3 <;> cases b4 <;> cases b5 <;> simp
    clear hq h0
    rcases hcase with ⟨rfl, rfl⟩ | ⟨rfl, rfl, rfl⟩ | ⟨rfl, rfl, rfl, hb⟩
    rotate_left 2
    · rcases hb with rfl | ⟨rfl, rfl⟩ | ⟨rfl, rfl, rfl⟩ | ⟨rfl, rfl, rfl, rfl⟩ | ⟨rfl, rfl, rfl, rfl, rfl⟩
      all_goals
        go_enter Try.func40, Try.ntmps40
        go_wp2_with (first
          | (go_at_call 21; (with_reducible refine (HS.out _ HB0.out).mono ?_); rintro e w1 ⟨rfl, hbl⟩; (have HB1 := Lib.hid (HB0.out.trans (hbl.mono HB0.out.size))); (have S0 := Lib.hid (R0.out.later hbl)); (have S1 := Lib.hid (R1.out.later hbl)); (have S2 := Lib.hid (R2.out.later hbl)); obtain ⟨l_0, l_1, l_2, l_3, l_4, l_5, l_6⟩ := cells_pk S0.out; clear hbl)
          | (go_at_call 31; (with_reducible refine (HD.out _ HB1.out).mono ?_); rintro e w2 ⟨A2, c2, rfl, -, hbl⟩; (have HB2 := Lib.hid (HB1.out.trans (hbl.mono HB1.out.size))); (have T1 := Lib.hid (S1.out.later hbl)); (have T2 := Lib.hid (S2.out.later hbl)); obtain ⟨m_0, m_1, m_2, m_3, m_4, m_5, m_6⟩ := cells_pk T2.out; obtain ⟨o_0, o_1, o_2, o_3, o_4, o_5, o_6⟩ := cells_pk T1.out; have f_0 := T1.out.free 0; have f_1 := T1.out.free 1; have f_2 := T1.out.free 2; have f_3 := T1.out.free 3; have f_4 := T1.out.free 4; have f_5 := T1.out.free 5; have f_6 := T1.out.free 6; clear hbl))
        refine bodyPost_ret (results_three rfl _ _ (w.heap.size + 1) 35 #[.bool false, .int .i64 0, .int .i64 0, .bool false, .bool false, .int .i64 0, .slice none 0 0] dq rfl (row_set7 T1.out) hdq Try.inforf) rfl ?_
        exact ⟨rfl, below_set7 HB2.out (by omega)⟩
    all_goals
      go_enter Try.func40, Try.ntmps40
      go_wp2_with (go_at_call 21; (with_reducible refine (HS.out _ HB0.out).mono ?_); rintro e w1 ⟨rfl, hbl⟩; (have HB1 := Lib.hid (HB0.out.trans (hbl.mono HB0.out.size))); (have S0 := Lib.hid (R0.out.later hbl)); (have S1 := Lib.hid (R1.out.later hbl)); (have S2 := Lib.hid (R2.out.later hbl)); obtain ⟨l_0, l_1, l_2, l_3, l_4, l_5, l_6⟩ := cells_pk S0.out; obtain ⟨m_0, m_1, m_2, m_3, m_4, m_5, m_6⟩ := cells_pk S2.out; obtain ⟨o_0, o_1, o_2, o_3, o_4, o_5, o_6⟩ := cells_pk S1.out; have f_0 := S1.out.free 0; have f_1 := S1.out.free 1; have f_2 := S1.out.free 2; have f_3 := S1.out.free 3; have f_4 := S1.out.free 4; have f_5 := S1.out.free 5; have f_6 := S1.out.free 6; clear hbl)
      refine bodyPost_ret (results_three rfl _ _ (w.heap.size + 1) 35 #[.bool false, .int .i64 0, .int .i64 0, .bool false, .bool false, .int .i64 0, .slice none 0 0] dq rfl (row_set7 S1.out) hdq Try.inforf) rfl ?_
      exact ⟨rfl, below_set7 HB1.out (by omega)⟩
  refine key part (z == 0) _ _ _ _ _ rfl rfl rfl rfl rfl rfl rfl ?_
  rw [hF]
  simp only [Bool.or_eq_true, decide_eq_true_iff, beq_iff_eq]
set_option maxRecDepth 100000 in
set_option maxHeartbeats 3200000 in
theorem rrc_whole {A : Option Addr} {L : List RowB} (poll last : Bool) (fi sn off : Int) (n cap b : Nat) (grant wd : Int) (w : World) (hL : L.length = n) (hn : n ≤ 40) (hs : RSrc w A L) (hsum : (lens L).sum ≤ 9000) (h0 : faultR false last fi sn off (lens L) 0 b grant wd = 0) (hb : b = (lens L).sum) (hg : amdF false last fi sn off (lens L) wd ≤ grant) :
    Calls Try.prog 40 #[.agg #[.bool poll, .int .i64 fi, .int .i64 sn, .bool false, .bool last, .int .i64 off, .slice A n cap], .int .i64 0, .int .i64 b, .int .i64 grant, .int .i64 wd] w fun e w' => e = .returned (.tuple #[.agg #[.bool false, .int .i64 fi, .int .i64 sn, .bool false, .bool last, .int .i64 off, .slice A n cap], .int .i64 b, .int .i64 0]) ∧ Below w.heap.size w w' := by
  obtain ⟨_, hne, hg0, hg1, _, hlt, hle⟩ := faultR_ok h0
  have HS := Lib.hid (fun W (hb : Below w.heap.size w W) => rasize_any (A := A) poll false last fi sn off wd n cap W hL hn hsum (hs.later hb))
  have HD := Lib.hid (fun W (hb : Below w.heap.size w W) => radata_len (A := A) (L := L) poll false last fi sn off n cap W hL hn (hs.later hb) hsum)
  rw [← hb] at HD
  generalize amdF false last fi sn off (lens L) wd = z at *
  have hz : (z == 0) = false := by simpa using hne
  obtain ⟨r0, r1, r2⟩ := rows3 w 35 #[.bool poll, .int .i64 fi, .int .i64 sn, .bool false, .bool last, .int .i64 off, .slice A n cap] #[.bool false, .int .i64 0, .int .i64 0, .bool false, .bool false, .int .i64 0, .slice none 0 0] #[.bool false, .int .i64 0, .int .i64 0, .bool false, .bool false, .int .i64 0, .slice none 0 0]
  have HB0 := Lib.hid (bl_alloc (bl_alloc (bl_alloc (Below.refl w.heap.size w) (.cells #[.bool poll, .int .i64 fi, .int .i64 sn, .bool false, .bool last, .int .i64 off, .slice A n cap] 35)) (.cells #[.bool false, .int .i64 0, .int .i64 0, .bool false, .bool false, .int .i64 0, .slice none 0 0] 35)) (.cells #[.bool false, .int .i64 0, .int .i64 0, .bool false, .bool false, .int .i64 0, .slice none 0 0] 35))
  have R0 := Lib.hid r0
  have R1 := Lib.hid r1
  obtain ⟨k_0, k_1, k_2, k_3, k_4, k_5, k_6⟩ := cells_pk R0.out
  clear r0 r1 r2 hs hL hsum h0 hb hne hle
  obtain ⟨dq, hdq⟩ := underref10_parts
  go_enter Try.func40, Try.ntmps40
  go_wp2_with (first
    | (go_at_call 21; (with_reducible refine (HS.out _ HB0.out).mono ?_); rintro e w1 ⟨rfl, hbl⟩; (have HB1 := Lib.hid (HB0.out.trans (hbl.mono HB0.out.size))); (have S0 := Lib.hid (R0.out.later hbl)); (have S1 := Lib.hid (R1.out.later hbl)); obtain ⟨l_0, l_1, l_2, l_3, l_4, l_5, l_6⟩ := cells_pk S0.out; clear hbl)
    | (go_at_call 31; (with_reducible refine (HD.out _ HB1.out).mono ?_); rintro e w2 ⟨A2, c2, rfl, -, hbl⟩; (have HB2 := Lib.hid (HB1.out.trans (hbl.mono HB1.out.size))); (have T0 := Lib.hid (S0.out.later hbl)); (have T1 := Lib.hid (S1.out.later hbl)); have g0 := T0.out.free 0; have g00 := T0.out.read (i := 0) (x := .bool poll) rfl; (have U0 := Lib.hid (T0.out.written 0 (.bool false))); (have U1 := Lib.hid (T1.out.only ((Only.refl (fun k => k = w.heap.size) w2).set (p := ⟨w.heap.size, 0, none⟩) (.inl rfl) (.bool false)) (by omega))); obtain ⟨m_0, m_1, m_2, m_3, m_4, m_5, m_6⟩ := cells_pk U0.out; obtain ⟨o_0, o_1, o_2, o_3, o_4, o_5, o_6⟩ := cells_pk U1.out; have f_0 := U1.out.free 0; have f_1 := U1.out.free 1; have f_2 := U1.out.free 2; have f_3 := U1.out.free 3; have f_4 := U1.out.free 4; have f_5 := U1.out.free 5; have f_6 := U1.out.free 6; clear hbl))
  refine bodyPost_ret (results_three rfl _ _ (w.heap.size + 1) 35 #[.bool false, .int .i64 fi, .int .i64 sn, .bool false, .bool last, .int .i64 off, .slice A n cap] dq rfl (row_set7 U1.out) hdq Try.inforf) rfl ?_
  exact ⟨rfl, below_set7 (HB2.out.setCell (p := ⟨w.heap.size, 0, none⟩) (Nat.le_refl _) _) (by omega)⟩
end Go.Proofs.Ytolinlnnbdjimaa
