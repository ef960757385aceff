/-
  Clear; what is answered of a set that is nil or that no call made; the fixed calls at the statements' end.
-/
import Derived.Test.YtieokmmejdngcaaTick
namespace Go.Proofs.Ytieokmmejdngcaa
open Go.RowKit

theorem clearF_eq (L : List Int) : (L.map fun x => if 0 < x then (fun _ => 0) x else x) = clearL L := rfl

set_option maxHeartbeats 800000 in
theorem clear_t {p : Nat} {L : List Int} (w : World) (h : TRep w p L) :
    Calls Try.prog 18 #[.pointer (some ⟨p, 0, none⟩)] w fun e w' => e = .returned (.tuple #[]) ∧ TRep w' p (clearL L) ∧ Only (isP p) w w' := by
  have H0 := Lib.hid h
  have hp := h.inside
  have h8 := Lib.hid h.1
  clear h
  go_enter Try.func18, Try.ntmps18
  go_wp2_with fail
  refine (running_t w H0.out).mono ?_
  rintro e w1 ⟨⟨ru, rfl, hu⟩, hb⟩
  have hp1 : p < w1.heap.size := Nat.lt_of_lt_of_le hp hb.size
  have HT := Lib.hid (show TickInv (fun _ => 0) w.heap.size w1.heap.size p L 0 ru w1 from ⟨by rw [List.take_zero, upd_nil]; exact H0.out.later hb, hu, hu.lt, hp1, Nat.le_refl _⟩)
  have HB := Lib.hid hb
  obtain ⟨RA, hRA, _⟩ := hu
  subst hRA
  clear hb hp
  have hrl := runF_le L 8
  go_wp2_with fail
  go_loopw [7] (fun i wr => ∃ j : Nat, j ≤ (runF L 8).length ∧ i = .int .i64 j ∧ Hid (TickInv (fun _ => 0) w.heap.size w1.heap.size p L j (.slice RA (runF L 8).length (runF L 8).length) wr) ∧ Hid (Only (isP p) w1 wr)) (fun i _ => (runF L 8).length - (intOf i).toNat)
  case atStart => exact ⟨0, by omega, rfl, HT, Lib.hid (Only.refl _ _)⟩
  case round =>
    obtain ⟨j, hj, rfl, HT2, HO⟩ := hrel
    clear HT
    by_cases hlt : j < (runF L 8).length
    · obtain ⟨i, x, hri, hi, hx, h0, hni, htk⟩ := run_entry h8.out hlt
      obtain ⟨A, hA, hread⟩ := HT2.out.2.1.read
      obtain ⟨rfl⟩ : RA = A := by injection hA
      obtain ⟨gr, rfl, hgr, hcr⟩ := hread j _ hri
      have hcp : wr.cell? ⟨p, 1 + i, none⟩ = some (.int .i64 x) := HT2.out.1.at (by rw [upd_at hx, if_neg hni])
      have hfp := HT2.out.1.free (1 + i)
      have hi0 : (0 : Int) ≤ (i : Int) := by omega
      have hi8 : (i : Int) < 8 := by omega
      have hj0 : (0 : Int) ≤ (j : Int) := by omega
      have hjl : (j : Int) < ((runF L 8).length : Int) := by omega
      have HT3 := Lib.hid (show TickInv (fun _ => 0) w.heap.size w1.heap.size p L (j + 1) (.slice (some ⟨gr, 0, none⟩) (runF L 8).length (runF L 8).length) (wr.setCell ⟨p, 1 + i, none⟩ (.int .i64 0)) from
        TickInv.store HT2.out hx htk (by omega) (by omega))
      have HO3 := Lib.hid (show Only (isP p) w1 (wr.setCell ⟨p, 1 + i, none⟩ (.int .i64 0)) from
        HO.out.andThen (wrote_at wr p (1 + i) (.int .i64 0)) (fun k _ hk => hk))
      clear hread hA hri hgr hx htk hni HT2 HO
      go_wp2
      go_roundw
      case rel => exact ⟨j + 1, by omega, by go_num, HT3, HO3⟩
      case measure => simp [intOf]; omega
    · obtain rfl : j = (runF L 8).length := by omega
      have HL := Lib.hid (tick_rep h8.out HT2.out)
      rw [clearF_eq] at HL
      have hjl : ¬ ((runF L 8).length : Int) < ((runF L 8).length : Int) := by omega
      have h1 : Only (isP p) w w1 := .of_below HB.out
      have HO1 := Lib.hid (h1.andThen HO.out (fun k _ hk => hk))
      clear hlt h1
      go_wp2
      go_end0
      exact ⟨rfl, HL.out, HO1.out⟩

/-- nothing of a set that is none -/
def NoSet (w : World) (v : Value) : Prop := v = .pointer none ∨ ∃ p, v = .pointer (some ⟨p, 0, none⟩) ∧ TZero w p
theorem NoSet.later {w w' : World} {v : Value} (h : NoSet w v) (hb : Below w.heap.size w w') : NoSet w' v := by
  rcases h with h | ⟨p, h, L, hr⟩
  · exact .inl h
  · exact .inr ⟨p, h, L, hr.later hb⟩
theorem left_none {v : Value} (i : Int) (w : World) (h : NoSet w v) : Calls Try.prog 19 #[v, .int .i64 i] w fun e w' => e = .returned (.int .i64 0) ∧ w = w' := by
  rcases h with rfl | ⟨p, rfl, h⟩
  · exact left_nil i w
  · exact left_zero i w h
theorem start_none {v : Value} (i n : Int) (w : World) (h : NoSet w v) : Calls Try.prog 11 #[v, .int .i64 i, .int .i64 n] w fun e w' => e = .returned (.int .i64 6) ∧ w = w' := by
  rcases h with rfl | ⟨p, rfl, h⟩
  · exact start_nil i n w
  · exact start_zero i n w h
theorem stop_none {v : Value} (i : Int) (w : World) (h : NoSet w v) : Calls Try.prog 13 #[v, .int .i64 i] w fun e w' => e = .returned (.int .i64 6) ∧ w = w' := by
  rcases h with rfl | ⟨p, rfl, h⟩
  · exact stop_nil i w
  · exact stop_zero i w h
theorem clip_nil (w : World) : Calls Try.prog 38 #[.slice none 0 0] w fun e w' => e = .returned (.slice none 0 0) ∧ w = w' := by
  go_enter Try.func38, Try.ntmps38
  go_wp2
  go_ret
  exact ⟨rfl, rfl⟩
theorem running_none {v : Value} (w : World) (h : NoSet w v) : Calls Try.prog 21 #[v] w fun e w' => e = .returned (.slice none 0 0) ∧ w = w' := by
  have H := Lib.hid h
  clear h
  go_enter Try.func21, Try.ntmps21
  go_wp2_with fail
  go_loop [3, 5] (fun v i => ∃ k : Nat, k ≤ 8 ∧ i = .int .i64 k ∧ v = .slice none 0 0) (fun _ i => 8 - (intOf i).toNat)
  case atStart => exact ⟨0, by omega, rfl, rfl⟩
  case round =>
    obtain ⟨k, hk, rfl, rfl⟩ := hrel
    by_cases hlt : k < 8
    · go_wp2_with (go_at_call 19; refine (left_none _ _ H.out).mono ?_; rintro e w1 ⟨rfl, rfl⟩)
      go_round
      case rel => exact ⟨k + 1, by omega, by go_num, rfl⟩
      case measure => simp [intOf]; omega
    · obtain rfl : k = 8 := by omega
      clear hk hlt
      go_wp2_with (go_at_call 38; refine (clip_nil _).mono ?_; rintro e w1 ⟨rfl, rfl⟩)
      go_ret
      exact ⟨rfl, rfl⟩
theorem tick_none {v : Value} (w : World) (h : NoSet w v) : Calls Try.prog 16 #[v] w fun e w' => e = .returned (.slice none 0 0) ∧ w = w' := by
  have H := Lib.hid h
  clear h
  go_enter Try.func16, Try.ntmps16
  go_wp2_with (go_at_call 21; refine (running_none _ H.out).mono ?_; rintro e w1 ⟨rfl, rfl⟩)
  go_loop [3, 9] (fun v i => v = .slice none 0 0 ∧ i = .int .i64 0) (fun _ _ => 0)
  case atStart => exact ⟨rfl, rfl⟩
  case round =>
    obtain ⟨rfl, rfl⟩ := hrel
    go_wp2_with (go_at_call 38; refine (clip_nil _).mono ?_; rintro e w1 ⟨rfl, rfl⟩)
    go_ret
    exact ⟨rfl, rfl⟩
theorem clear_nil (w : World) : Calls Try.prog 18 #[.pointer none] w fun e w' => e = .returned (.tuple #[]) ∧ w = w' := by
  go_enter Try.func18, Try.ntmps18
  have HN := Lib.hid (show NoSet w (.pointer none) from .inl rfl)
  go_wp2_with (go_at_call 21; refine (running_none _ HN.out).mono ?_; rintro e w1 ⟨rfl, rfl⟩)
  go_loop [7] (fun i => i = .int .i64 0) (fun _ => 0)
  case atStart => exact rfl
  case round =>
    subst hrel
    go_wp2
    go_end0
    exact ⟨rfl, rfl⟩

def L1 : List Int := [0, 0, 0, 2, 0, 0, 0, 0]
def L2 : List Int := [0, 1, 0, 2, 0, 0, 0, 0]
def L3 : List Int := [0, 0, 0, 1, 0, 0, 0, 0]
def L4 : List Int := [0, 0, 0, 0, 0, 0, 0, 0]

set_option maxHeartbeats 800000 in
theorem alive5_any (w : World) : Calls Try.prog 22 #[] w fun e w' => e = .returned (.bool true) ∧ Below w.heap.size w w' := by
  have a1 : SL (List.replicate 8 0) 3 2 = L1 := by decide
  have a2 : SL L1 1 1 = L2 := by decide
  have a3 : tickL L2 = L3 := by decide
  have a4 : tickL L3 = L4 := by decide
  have a5 : tickE L2 = [1] := by decide
  have a6 : tickE L3 = [3] := by decide
  have a7 : runF L4 8 = [] := by decide
  have b1 : SE 3 2 = 0 := by decide
  have b2 : SE 1 1 = 0 := by decide
  have b3 : SE 8 1 = 1 := by decide
  have a8 : SL L4 8 1 = L4 := by decide
  have HA := Lib.hid (And.intro a1 (And.intro a2 (And.intro a3 (And.intro a4 (And.intro a5 (And.intro a6 (And.intro a7 (And.intro a8 (And.intro b1 (And.intro b2 b3))))))))))
  clear a1 a2 a3 a4 a5 a6 a7 a8 b1 b2 b3
  go_enter Try.func22, Try.ntmps22
  go_wp2_with fail
  refine (new_t w).mono ?_
  rintro e w1 ⟨rfl, h1, hb1⟩
  have H1 := Lib.hid h1
  have HB1 := Lib.hid hb1
  clear h1 hb1
  go_wp2_with fail
  refine (start_t 3 2 _ H1.out).mono ?_
  rintro e w2 ⟨rfl, h2, ho2⟩
  rw [HA.out.1] at h2
  rw [HA.out.2.2.2.2.2.2.2.2.1]
  have H2 := Lib.hid h2
  have HB2 := Lib.hid (HB1.out.trans (ho2.below HB1.out.size (fun k hk e => by unfold isP at e; omega)))
  clear h2 ho2 H1 HB1
  go_wp2_with fail
  refine (start_t 1 1 _ H2.out).mono ?_
  rintro e w3 ⟨rfl, h3, ho3⟩
  rw [HA.out.2.1] at h3
  rw [HA.out.2.2.2.2.2.2.2.2.2.1]
  have H3 := Lib.hid h3
  have HB3 := Lib.hid (HB2.out.trans (ho3.below HB2.out.size (fun k hk e => by unfold isP at e; omega)))
  clear h3 ho3 H2 HB2
  go_wp2_with fail
  refine (tick_t _ H3.out).mono ?_
  rintro e w4 ⟨⟨u4, rfl, hu4⟩, h4, ho4⟩
  rw [HA.out.2.2.1] at h4
  rw [HA.out.2.2.2.2.1] at hu4
  have H4 := Lib.hid h4
  have HU4 := Lib.hid hu4
  have HB4 := Lib.hid (HB3.out.trans (ho4.below HB3.out.size (fun k hk e => by unfold isP at e; omega)))
  clear h4 ho4 H3 HB3 hu4
  go_wp2_with fail
  refine (tick_t _ H4.out).mono ?_
  rintro e w5 ⟨⟨u5, rfl, hu5⟩, h5, ho5⟩
  rw [HA.out.2.2.2.1] at h5
  rw [HA.out.2.2.2.2.2.1] at hu5
  obtain ⟨A4, rfl, r4⟩ := (HU4.out.only ho5 H4.out.2.2 (by decide)).read
  obtain ⟨g4, rfl, _, c4⟩ := r4 0 1 rfl
  obtain ⟨A5, rfl, r5⟩ := hu5.read
  obtain ⟨g5, rfl, _, c5⟩ := r5 0 3 rfl
  have H5 := Lib.hid h5
  have HB5 := Lib.hid (HB4.out.trans (ho5.below HB4.out.size (fun k hk e => by unfold isP at e; omega)))
  have hc4 := Lib.hid c4
  have hc5 := Lib.hid c5
  clear h5 ho5 H4 HB4 hu5 HU4 r4 r5
  simp only [List.length_cons, List.length_nil]
  go_wp2_with (first
    | (go_at_call 11; refine (start_t 8 1 _ H5.out).mono ?_; rintro e w6 ⟨rfl, h6, ho6⟩; rw [HA.out.2.2.2.2.2.2.2.1] at h6; rw [HA.out.2.2.2.2.2.2.2.2.2.2]; have H6 := Lib.hid h6; have HB6 := Lib.hid (HB5.out.trans (ho6.below HB5.out.size (fun k hk e => by unfold isP at e; omega))); clear h6 ho6)
    | (go_at_call 21; refine (running_t _ H6.out).mono ?_; rintro e w7 ⟨⟨u7, rfl, hu7⟩, hb7⟩; rw [HA.out.2.2.2.2.2.2.1] at hu7; obtain ⟨A7, rfl, _⟩ := hu7; have HB7 := Lib.hid (bl_step HB6.out hb7); clear hb7; simp only [List.length_nil]))
  go_ret
  exact ⟨rfl, HB7.out⟩
end Go.Proofs.Ytieokmmejdngcaa
