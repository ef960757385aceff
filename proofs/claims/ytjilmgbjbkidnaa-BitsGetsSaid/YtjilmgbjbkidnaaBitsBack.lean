/-
  BitsBack: what was put is got, one by one; and no more is left than fills up a byte.
-/
import Derived.Test.YtjilmgbjbkidnaaBackMath
import Derived.Deep.RegionHeld3
namespace Go.Proofs.Ytjilmgbjbkidnaa
open Go.RowKit

/-- the argument: numbers and how many bits each has -/
def PSrc (w : World) (A : Option Addr) (l : List (Nat × Int)) : Prop :=
  0 < l.length → ∃ b off, A = some ⟨b, off, none⟩ ∧ ∀ j x, l[j]? = some x → w.cell? ⟨b, off + j * 2, none⟩ = some (.int .u64 x.1) ∧ w.cell? ⟨b, off + j * 2 + 1, none⟩ = some (.int .i64 x.2)
theorem cell_later {w v : World} {p : Addr} {x : Value} (h : w.cell? p = some x) (hb : Below w.heap.size w v) : v.cell? p = some x := by
  rw [← h]
  refine hb.cell ?_
  rcases Nat.lt_or_ge p.block w.heap.size with h2 | h2
  · exact h2
  · exfalso
    simp [World.cell?, Array.getElem?_eq_none h2] at h
theorem cell_below {B : Nat} {w v : World} {p : Addr} {x : Value} (h : w.cell? p = some x) (hB : B = w.heap.size) (hb : Below B w v) : v.cell? p = some x := by
  subst hB
  exact cell_later h hb

/-- rows of the call's own, of different element types, lie apart -/
theorem own_own {w : World} {b1 b2 : Nat} {e1 e2 : TypeId} {s1 s2 : Nat} {x y : Value} {n m : Nat} {xs ys : List Value} (h : w.ownsRow b1 e1 s1 x n xs) (h' : w.ownsRow b2 e2 s2 y m ys) (hne : e1 ≠ e2) : ∀ k, x.ownBlock = some k → y.ownBlock ≠ some k := by
  intro k hk
  rcases h.2 with ⟨rfl, _⟩ | ⟨g, cap, cur, rfl, _, hh, _⟩
  · simp [Value.ownBlock] at hk
  · have e : g = k := by simpa [Value.ownBlock] using hk
    subst e
    exact own_apart h' (show Row w g e1 cur from hh) (Ne.symm hne)

/-- the first loop: what was put, and what is kept of it -/
def BackInv (B p k : Nat) (v : Value) (w : World) : Prop :=
  ∃ (kp : List (Nat × Nat)) (sv : Value), WRep B w p sv (bitsP kp) ∧ w.ownsRow B 30 2 v kp.length (cellsP kp) ∧ kp.length ≤ k ∧ ∀ x ∈ kp, x.2 ≤ 64 ∧ x.1 < 2 ^ x.2

theorem BackInv.later {B p k : Nat} {v : Value} {w u : World} (h : BackInv B p k v w) (hb : Below w.heap.size w u) : BackInv B p k v u := by
  obtain ⟨kp, sv, h1, h2, h3⟩ := h
  exact ⟨kp, sv, h1.later hb, own_only h2 (S := fun _ => False) (.of_below hb) (fun _ _ h => h), h3⟩
theorem BackInv.next {B p k : Nat} {v : Value} {w : World} (h : BackInv B p k v w) : BackInv B p (k + 1) v w := by
  obtain ⟨kp, sv, h1, h2, h3, h4⟩ := h
  exact ⟨kp, sv, h1, h2, by omega, h4⟩

theorem Try.info30 : (Try.prog.info? 30).map (fun i => (i.zero, i.size, i.bytes)) = some (some (.agg #[.int .u64 0, .int .i64 0]), 2, 16) := by kernel_rfl

theorem put_keeps {B : Nat} {w w' : World} {p : Nat} {sv : Value} {bl bl' : List Bool} {b o : Nat} {x : Value} (hr : WRep B w p sv bl)
    (h : ∃ sv', WRep B w' p sv' bl' ∧ (sv'.ownBlock = sv.ownBlock ∨ ∃ k, sv'.ownBlock = some k ∧ w.drew.heap.size ≤ k) ∧ Only (fun k => k = p ∨ sv.ownBlock = some k) w.drew w')
    (hb : b < B) (hc : w.cell? ⟨b, o, none⟩ = some x) : w'.cell? ⟨b, o, none⟩ = some x := by
  obtain ⟨_, _, _, hy⟩ := h
  have h1 := wrote_below (show WRep B w.drew p sv bl from hr) hy
  exact (h1.cell (p := ⟨b, o, none⟩) hb).trans hc

theorem back_own {B p n : Nat} {w w' : World} {sv v : Value} {bl : List Bool} {xs : List Value} (hw : WRep B w p sv bl) (ho : w.ownsRow B 30 2 v n xs) (h : Only (fun k => k = p ∨ sv.ownBlock = some k) w.drew w') : w'.ownsRow B 30 2 v n xs :=
  own_only (w := w.drew) (show w.drew.ownsRow B 30 2 v n xs from ho) h fun k hk hS => by
    rcases hS with rfl | hS
    · exact own_apart ho hw.2.1 (by decide) hk
    · exact own_own ho hw.2.2 (by decide) k hk hS

theorem back_kept {B p k V n g cap : Nat} {w w2 w3 : World} {sv v : Value} {kp : List (Nat × Nat)} {o : Obj} (hw : WRep B w p sv (bitsP kp)) (ho : w.ownsRow B 30 2 v kp.length (cellsP kp)) (hall : ∀ x ∈ kp, x.2 ≤ 64 ∧ x.1 < 2 ^ x.2) (hkp : kp.length ≤ k)
    (h : ∃ sv', WRep B w2 p sv' (bitsP kp ++ unval V n) ∧ (sv'.ownBlock = sv.ownBlock ∨ ∃ k, sv'.ownBlock = some k ∧ w.drew.heap.size ≤ k) ∧ Only (fun k => k = p ∨ sv.ownBlock = some k) w.drew w2)
    (hn : n ≤ 64) (hv : V < 2 ^ n) (hown : w3.ownsRow B 30 2 (.slice (some ⟨g, 0, none⟩) (kp.length + 1) cap) (kp.length + 1) (cellsP kp ++ [.int .u64 V, .int .i64 n])) (hgrow : (w2.alloc o).grownBy w3 v.ownBlock) :
    BackInv B p (k + 1) (.slice (some ⟨g, 0, none⟩) (kp.length + 1) cap) w3 ∧ Below B w w3 := by
  obtain ⟨sv', hr, _, hy⟩ := h
  have ho2 := back_own hw ho hy
  have hy3 : Only (fun k => v.ownBlock = some k) w2 w3 := ((Only.refl _ _).alloc o).grown hgrow fun k hk => .inl hk
  have hr3 := hr.only hy3 (own_apart ho2 hr.2.1 (by decide)) (fun k hk h' => own_own ho2 hr.2.2 (by decide) k h' hk)
  refine ⟨⟨kp ++ [(V, n)], sv', by rw [bitsP_snoc]; exact hr3, by rw [cellsP_snoc, List.length_append]; exact hown, by rw [List.length_append, List.length_singleton]; omega, fun x hx => ?_⟩, ?_⟩
  · rcases List.mem_append.1 hx with h1 | h1
    · exact hall x h1
    · simp at h1
      subst h1
      exact ⟨hn, hv⟩
  · have h1 := wrote_below (show WRep B w.drew p sv (bitsP kp) from hw) hy
    have hB : B ≤ w2.heap.size := by have := hr.1; have := hr.2.1.inside; omega
    have h2 : Below B w2 w3 := hy3.below hB fun k hk h' => by have := (ho2.lt k h').1; omega
    exact ((Below.refl B w).drew.trans h1).trans h2

theorem two_new_cells (w : World) (x y : Value) (t : TypeId) : ∀ j u, [x, y][j]? = some u → (w.alloc (.cells #[x, y] t)).cell? ((⟨w.heap.size, 0, none⟩ : Addr).add j) = some u := by
  intro j u hu
  rw [add_zero_addr]
  match j, hu with
  | 0, hu => simp at hu; subst hu; simp
  | 1, hu => simp at hu; subst hu; simp

theorem put_bad (p V : Nat) (N : Int) (w : World) (h : ¬ (0 ≤ N ∧ N ≤ 64 ∧ V < 2 ^ N.toNat)) : Calls Try.prog 14 #[.pointer (some ⟨p, 0, none⟩), .int .u64 V, .int .i64 N] w fun e w' => e = .returned (.int .i64 1) ∧ w = w' := by
  by_cases h1 : 0 ≤ N ∧ N ≤ 64
  · obtain ⟨n, rfl⟩ : ∃ n : Nat, N = n := ⟨N.toNat, by omega⟩
    rw [Int.toNat_natCast] at h
    exact put_arg2 p V n w (by omega) (by
      rcases Nat.lt_or_ge V (2 ^ n) with h2 | h2
      · exact absurd ⟨h1.1, h1.2, h2⟩ h
      · exact h2)
  · exact put_arg1 p V N w (mayB_not (by omega))

theorem read_back {bl : List Bool} (g : Nat) (W : World) (hbl : bl.length ≤ 65536) (h : Row W g 5 (bts (pack bl)).toArray) :
    Calls Try.prog 20 #[.slice (some ⟨g, 0, none⟩) (packLen bl.length) (packLen bl.length)] W fun e w' => ∃ p g', e = .returned (.pointer (some ⟨p, 0, none⟩)) ∧ W.heap.size ≤ p ∧ W.heap.size ≤ g' ∧ RRep w' p g' (pack bl) 0 ∧ Below W.heap.size W w' := by
  have h1 := read_any (some ⟨g, 0, none⟩) (packLen bl.length) (pack bl) W (by rw [length_pack]; unfold packLen; omega) (by rw [length_pack]; omega) (row_src h) (pack_small bl)
  rw [length_pack] at h1
  exact h1

/-- the second loop: so many are got -/
def BackGot (p g : Nat) (kp : List (Nat × Nat)) (j : Nat) (w3 w : World) : Prop := RRep w p g (pack (bitsP kp)) (bitsP (kp.take j)).length ∧ Only (fun b => b = p) w3 w

set_option maxRecDepth 100000 in
set_option maxHeartbeats 6400000 in
theorem back_bits (A : Option Addr) (l : List (Nat × Int)) (cap : Nat) (w : World) (_hcap : l.length ≤ cap) (_hmax : cap ≤ 9223372036854775807) (hs : PSrc w A l) (hv : ∀ x ∈ l, x.1 < 18446744073709551616) :
    Calls Try.prog 5 #[.slice A l.length cap] w fun e w' => e = .returned (.bool true) ∧ Below w.heap.size w w' := by
  have HS := Lib.hid hs
  have HV := Lib.hid hv
  clear hs hv
  obtain ⟨i0, hi, hz0, hz1, hz2⟩ := info_parts Try.info30
  go_enter Try.func5, Try.ntmps5
  go_wp2_with fail
  refine (new_any w.heap.size _ (Nat.le_refl _)).mono ?_
  rintro e w1 ⟨rfl, hr1, hb1⟩
  have HI := Lib.hid (show BackInv w.heap.size w.heap.size 0 (.slice none 0 0) w1 from ⟨[], _, hr1, World.ownsRow_nil _ _ _ _, Nat.le_refl _, fun x hx => by cases hx⟩)
  have HB1 := Lib.hid hb1
  clear hr1 hb1
  go_wp2_with fail
  go_loopw [4, 5] (fun v i wr => ∃ k : Nat, k ≤ l.length ∧ k ≤ 200 ∧ i = .int .i64 k ∧ BackInv w.heap.size w.heap.size k v wr ∧ Below w.heap.size w wr) (fun _ i _ => l.length - (intOf i).toNat)
  case atStart => exact ⟨0, by omega, by omega, rfl, HI.out, HB1.out⟩
  case round =>
    obtain ⟨k, hk, hk2, rfl, hinv, hbr⟩ := hrel
    have HINV := Lib.hid hinv
    have HBR := Lib.hid hbr
    clear hinv hbr HI HB1
    by_cases hlt : k < l.length ∧ k < 200
    · obtain ⟨hlt, hlt2⟩ := hlt
      obtain ⟨b, off, rfl, hc⟩ := HS.out (by omega)
      have hx : l[k]? = some l[k] := List.getElem?_eq_getElem hlt
      obtain ⟨c0, c1⟩ := hc k l[k] hx
      have d0 := cell_below c0 rfl HBR.out
      have d1 := cell_below c1 rfl HBR.out
      have hvk := HV.out l[k] (List.getElem_mem hlt)
      generalize l[k].1 = V at *
      generalize l[k].2 = N at *
      clear hc hx c1
      have hbb : b < w.heap.size := by
        rcases Nat.lt_or_ge b w.heap.size with h | h
        · exact h
        · exfalso
          simp [World.cell?, Array.getElem?_eq_none h] at c0
      clear c0
      have hi0 : (0 : Int) ≤ (k : Int) := by omega
      have hi1 : (k : Int) < (l.length : Int) := by omega
      obtain ⟨kp, sv, hw, hown, hkp, hall⟩ := HINV.out
      have HW := Lib.hid hw
      have HO := Lib.hid hown
      have HA := Lib.hid hall
      have hbl := length_bitsP hall
      clear hw hown hall
      by_cases hok : 0 ≤ N ∧ N ≤ 64 ∧ V < 2 ^ N.toNat
      · obtain ⟨hn0, hn1, hn2⟩ := hok
        obtain ⟨n, rfl⟩ : ∃ n : Nat, N = n := ⟨N.toNat, by omega⟩
        rw [Int.toNat_natCast] at hn2
        have HP := Lib.hid (put_any V n wr HW.out (by omega) hn2 (by omega) hvk)
        have HN2 := Lib.hid hn2
        have HVK := Lib.hid hvk
        clear hn2 hvk
        go_wp2
        go_region_held3 (fun w' => w'.cell? ⟨b, off + k * 2, none⟩ = some (.int .u64 V) ∧ w'.cell? ⟨b, off + k * 2 + 1, none⟩ = some (.int .i64 n)) (go_keep) (first
          | (go_at_call 14; refine (put_any V n _ (show WRep w.heap.size wr.drew w.heap.size sv (bitsP kp) from HW.out) (by omega) HN2.out (by omega) HVK.out).mono ?_; rintro e w2 ⟨rfl, hw2⟩; have HX := Lib.hid hw2; have q0 := put_keeps HW.out hw2 hbb d0; have q1 := put_keeps HW.out hw2 hbb d1; clear hw2))
        go_wp2_with (at_builtin; refine wpList_append_lies _ rfl _ _ _ (by rfl) w.heap.size 30 i0 (.agg #[.int .u64 0, .int .i64 0]) 2 16 Try.underlying22 hi hz0 hz1 hz2 rfl (by omega) u4 kp.length (cellsP kp) (by rfl) ?h0 ⟨w2.heap.size, 0, none⟩ 1 1 [.int .u64 V, .int .i64 n] (by rfl) (by rfl) ?h1 ?h2 ?h3 ?h4 ?h5 ?h6 (w2.heap.size + 1) ?h7 ?_)
        case h0 =>
          obtain ⟨_, _, _, hy⟩ := HX.out
          exact (back_own HW.out HO.out hy).alloc _
        case h1 => exact two_new_cells _ _ _ _
        case h2 => intro u hu; simp at hu; rcases hu with rfl | rfl <;> rfl
        case h3 => omega
        case h4 => unfold maxLen; omega
        case h5 => omega
        case h6 =>
          obtain ⟨_, hr, _, _⟩ := HX.out
          have := hr.2.1.inside
          simp
          omega
        case h7 => simp
        intro g cap' w3 hown3 hgrow3 _ _
        have hfin := back_kept HW.out HO.out HA.out hkp HX.out (by omega) HN2.out hown3 hgrow3
        have HF := Lib.hid hfin
        clear hfin hown3 hgrow3 q0 q1
        go_wp2
        go_roundw
        case rel => exact ⟨k + 1, by omega, by omega, by go_num, HF.out.1, HBR.out.trans HF.out.2⟩
        case measure => simp [intOf]; omega
      · have HBAD := Lib.hid hok
        clear hok hvk
        go_wp2
        go_region_held3 (fun w' => w'.cell? ⟨b, off + k * 2, none⟩ = some (.int .u64 V) ∧ w'.cell? ⟨b, off + k * 2 + 1, none⟩ = some (.int .i64 N)) (go_keep) (first
          | (go_at_call 14; refine (put_bad _ V N _ HBAD.out).mono ?_; rintro e _ ⟨rfl, rfl⟩))
        have HF := Lib.hid (HINV.out.later ((Below.refl wr.heap.size wr).drew)).next
        have HB := Lib.hid HBR.out.drew
        go_wp2
        go_roundw
        case rel => exact ⟨k + 1, by omega, by omega, by go_num, HF.out, HB.out⟩
        case measure => simp [intOf]; omega
    · obtain ⟨kp, sv, hw, hown, hkp, hall⟩ := HINV.out
      have hbl := length_bitsP hall
      have hv4 : ∃ A4 c4, u4 = .slice A4 kp.length c4 := by
        rcases hown.2 with ⟨rfl, h0⟩ | ⟨g, c, cur, rfl, _⟩
        · exact ⟨none, 0, by rw [h0]⟩
        · exact ⟨_, c, rfl⟩
      obtain ⟨A4, c4, rfl⟩ := hv4
      have HW := Lib.hid hw
      have HO := Lib.hid hown
      have HA := Lib.hid hall
      clear HINV hw hown hall HS HV
      have hlt' : l.length ≤ k ∨ 200 ≤ k := by omega
      clear hlt
      rcases Nat.lt_or_ge k l.length with hkl | hkl
      · have h200 : 200 ≤ k := by omega
        clear hlt'
        go_wp2_with fail
        refine (bytes_any HW.out (by omega)).mono ?_
        rintro e w2 ⟨g8, rfl, hg8, hrow8, hb8⟩
        have HW2 := Lib.hid (HW.out.later hb8)
        have HO2 := Lib.hid (own_only HO.out (S := fun _ => False) (.of_below hb8) (fun _ _ h => h))
        have HB2 := Lib.hid (bl_step HBR.out hb8)
        have HROW := Lib.hid hrow8
        clear hb8 hrow8
        go_wp2_with fail
        refine (read_back g8 _ (by omega) HROW.out).mono ?_
        rintro e w3 ⟨p5, g5, rfl, hp5, hg5, hrr, hb3⟩
        have HW3 := Lib.hid (HW2.out.later hb3)
        have HO3 := Lib.hid (own_only HO2.out (S := fun _ => False) (.of_below hb3) (fun _ _ h => h))
        have HB3 := Lib.hid (bl_step HB2.out hb3)
        have HG0 := Lib.hid (show BackGot p5 g5 kp 0 w3 w3 from ⟨by simpa [bitsP] using hrr, Only.refl _ _⟩)
        have hw2p : w.heap.size < w2.heap.size := HW2.out.2.1.inside
        have own5 : ∀ b, sv.ownBlock = some b → b ≠ p5 := fun b hb => by have := (HW2.out.2.2.lt b hb).2; omega
        have HOW := Lib.hid own5
        have own4 : ∀ b, (Value.slice A4 kp.length c4).ownBlock = some b → b ≠ p5 := fun b hb => by have := (HO2.out.lt b hb).2; omega
        have HOK := Lib.hid own4
        clear hb3 hrr own5 own4
        go_wp2_with fail
        go_loopw [7] (fun i wq => ∃ j : Nat, j ≤ kp.length ∧ i = .int .i64 j ∧ BackGot p5 g5 kp j w3 wq) (fun i _ => kp.length - (intOf i).toNat)
        case atStart => exact ⟨0, by omega, rfl, HG0.out⟩
        case round =>
          obtain ⟨j, hj, rfl, hgot⟩ := hrel
          have HGOT := Lib.hid hgot
          clear hgot
          by_cases hjl : j < kp.length
          · have hA4 : ∃ g4, A4 = some ⟨g4, 0, none⟩ := by
              obtain ⟨g4, c4', hv4, _, _⟩ := HO3.out.form (by omega)
              injection hv4 with h _ _
              exact ⟨g4, h⟩
            obtain ⟨g4, rfl⟩ := hA4
            have hca := cellsP_at hjl
            have e0 := ((HO3.out.cellAt (j * 2) (by omega)).trans hca.1)
            have e1 := ((HO3.out.cellAt (j * 2 + 1) (by omega)).trans hca.2)
            have hne4 := HOK.out g4 rfl
            have d0 := cell_only e0 HGOT.out.2 hne4
            have d1 := cell_only e1 HGOT.out.2 hne4
            have hallj := HA.out kp[j] (List.getElem_mem hjl)
            have hseg := seg_back hjl hallj.2
            have hfit := back_fits hjl
            have htk := bitsP_take hjl
            have hn64 := hallj.1
            have HG := Lib.hid (fun (W : World) hr => get_any (p := p5) (g := g5) (bs := pack (bitsP kp)) (i := (bitsP (kp.take j)).length) kp[j].2 W hr hn64 hfit)
            rw [hseg] at HG
            generalize kp[j].1 = V at *
            generalize kp[j].2 = N at *
            have HTK := Lib.hid htk
            have hj0 : (0 : Int) ≤ (j : Int) := by omega
            have hj1 : (j : Int) < (kp.length : Int) := by omega
            clear hallj hseg hfit htk hca e0 e1
            go_wp2_with (go_at_call 22; refine (HG.out _ HGOT.out.1).mono ?_; rintro e w5 ⟨rfl, hr5, hy5⟩; have q0 := cell_only d0 hy5 hne4; have H5 := Lib.hid (And.intro hr5 hy5); clear hr5 hy5)
            go_roundw
            case rel =>
              have hgot2 : BackGot p5 g5 kp (j + 1) w3 w5 := by
                unfold BackGot
                rw [HTK.out]
                exact ⟨H5.out.1, HGOT.out.2.andThen H5.out.2 (fun _ _ h => h)⟩
              first
                | exact ⟨j + 1, by omega, by go_num, hgot2⟩
                | ((repeat apply Exists.intro); exact ⟨⟨j + 1, by omega, by go_num, hgot2⟩, rfl⟩)
            case measure => simp [intOf]; omega
          · obtain rfl : j = kp.length := by omega
            have hgot := HGOT.out
            unfold BackGot at hgot
            rw [List.take_length] at hgot
            have HR := Lib.hid hgot.1
            have HWQ := Lib.hid (HW3.out.only hgot.2 (by omega) HOW.out)
            have HBQ := Lib.hid (HB3.out.trans (get_below hgot.2 (by omega) (by have := HB3.out.size; omega)))
            have hup : up (bitsP kp).length = (pack (bitsP kp)).length := by rw [length_pack]; rfl
            have HUP := Lib.hid hup
            have hpl : (pack (bitsP kp)).length = packLen (bitsP kp).length := length_pack _
            have hpl2 : 8 * packLen (bitsP kp).length < (bitsP kp).length + 8 ∧ (bitsP kp).length ≤ 8 * packLen (bitsP kp).length := by unfold packLen; omega
            have HBR2 := Lib.hid (back_rest (bitsP kp))
            rw [hpl] at hup
            have HPL := Lib.hid hpl
            obtain ⟨hpl3, hpl4⟩ := hpl2
            clear hgot HGOT hup hpl
            go_wp2_with fail
            refine (left_any HR.out).mono ?_
            rintro e w6 ⟨rfl, hb6⟩
            rw [HPL.out]
            have HR6 := Lib.hid (HR.out.later hb6)
            have HW6 := Lib.hid (HWQ.out.later hb6)
            have HB6 := Lib.hid (bl_step HBQ.out hb6)
            clear hb6
            go_wp2_with fail
            refine (rest_ok w6 HR6.out HBR2.out).mono ?_
            rintro e w7 ⟨g7, rfl, hg7, _, _, hy7⟩
            rw [← HUP.out, Nat.sub_self]
            have HW7 := Lib.hid (HW6.out.only hy7 (by omega) HOW.out)
            have HB7 := Lib.hid (HB6.out.trans (get_below hy7 (by omega) (by have := HB6.out.size; omega)))
            clear hy7
            generalize hLL : (bitsP kp).length = L at *
            have HLL := Lib.hid hLL
            clear hLL
            generalize packLen L = PL at *
            have hm8 : (((L : Int) + ((8 * PL - L : Nat) : Int)) % 8 == 0) = true := by simp; omega
            have hl8 : ((8 * PL - L : Nat) : Int) < 8 := by omega
            go_wp2_with (first
              | (go_at_call 17; refine (alive1_any _).mono ?_; rintro e w8 ⟨rfl, hb8⟩; have HW8 := Lib.hid (HW7.out.later hb8))
              | (go_at_call 16; refine (len_any HW8.out).mono ?_; rintro e _ ⟨rfl, rfl⟩; rw [HLL.out]))
            go_ret
            exact ⟨rfl, bl_step HB7.out hb8⟩
      · clear hlt'
        have hkl' : k = l.length := by omega
        have HKL := Lib.hid hkl'
        clear hkl'
        go_wp2_with fail
        refine (bytes_any HW.out (by omega)).mono ?_
        rintro e w2 ⟨g8, rfl, hg8, hrow8, hb8⟩
        have HW2 := Lib.hid (HW.out.later hb8)
        have HO2 := Lib.hid (own_only HO.out (S := fun _ => False) (.of_below hb8) (fun _ _ h => h))
        have HB2 := Lib.hid (bl_step HBR.out hb8)
        have HROW := Lib.hid hrow8
        clear hb8 hrow8
        go_wp2_with fail
        refine (read_back g8 _ (by omega) HROW.out).mono ?_
        rintro e w3 ⟨p5, g5, rfl, hp5, hg5, hrr, hb3⟩
        have HW3 := Lib.hid (HW2.out.later hb3)
        have HO3 := Lib.hid (own_only HO2.out (S := fun _ => False) (.of_below hb3) (fun _ _ h => h))
        have HB3 := Lib.hid (bl_step HB2.out hb3)
        have HG0 := Lib.hid (show BackGot p5 g5 kp 0 w3 w3 from ⟨by simpa [bitsP] using hrr, Only.refl _ _⟩)
        have hw2p : w.heap.size < w2.heap.size := HW2.out.2.1.inside
        have own5 : ∀ b, sv.ownBlock = some b → b ≠ p5 := fun b hb => by have := (HW2.out.2.2.lt b hb).2; omega
        have HOW := Lib.hid own5
        have own4 : ∀ b, (Value.slice A4 kp.length c4).ownBlock = some b → b ≠ p5 := fun b hb => by have := (HO2.out.lt b hb).2; omega
        have HOK := Lib.hid own4
        clear hb3 hrr own5 own4
        go_wp2_with fail
        go_loopw [7] (fun i wq => ∃ j : Nat, j ≤ kp.length ∧ i = .int .i64 j ∧ BackGot p5 g5 kp j w3 wq) (fun i _ => kp.length - (intOf i).toNat)
        case atStart => exact ⟨0, by omega, rfl, HG0.out⟩
        case round =>
          obtain ⟨j, hj, rfl, hgot⟩ := hrel
          have HGOT := Lib.hid hgot
          clear hgot
          by_cases hjl : j < kp.length
          · have hA4 : ∃ g4, A4 = some ⟨g4, 0, none⟩ := by
              obtain ⟨g4, c4', hv4, _, _⟩ := HO3.out.form (by omega)
              injection hv4 with h _ _
              exact ⟨g4, h⟩
            obtain ⟨g4, rfl⟩ := hA4
            have hca := cellsP_at hjl
            have e0 := ((HO3.out.cellAt (j * 2) (by omega)).trans hca.1)
            have e1 := ((HO3.out.cellAt (j * 2 + 1) (by omega)).trans hca.2)
            have hne4 := HOK.out g4 rfl
            have d0 := cell_only e0 HGOT.out.2 hne4
            have d1 := cell_only e1 HGOT.out.2 hne4
            have hallj := HA.out kp[j] (List.getElem_mem hjl)
            have hseg := seg_back hjl hallj.2
            have hfit := back_fits hjl
            have htk := bitsP_take hjl
            have hn64 := hallj.1
            have HG := Lib.hid (fun (W : World) hr => get_any (p := p5) (g := g5) (bs := pack (bitsP kp)) (i := (bitsP (kp.take j)).length) kp[j].2 W hr hn64 hfit)
            rw [hseg] at HG
            generalize kp[j].1 = V at *
            generalize kp[j].2 = N at *
            have HTK := Lib.hid htk
            have hj0 : (0 : Int) ≤ (j : Int) := by omega
            have hj1 : (j : Int) < (kp.length : Int) := by omega
            clear hallj hseg hfit htk hca e0 e1
            go_wp2_with (go_at_call 22; refine (HG.out _ HGOT.out.1).mono ?_; rintro e w5 ⟨rfl, hr5, hy5⟩; have q0 := cell_only d0 hy5 hne4; have H5 := Lib.hid (And.intro hr5 hy5); clear hr5 hy5)
            go_roundw
            case rel =>
              have hgot2 : BackGot p5 g5 kp (j + 1) w3 w5 := by
                unfold BackGot
                rw [HTK.out]
                exact ⟨H5.out.1, HGOT.out.2.andThen H5.out.2 (fun _ _ h => h)⟩
              first
                | exact ⟨j + 1, by omega, by go_num, hgot2⟩
                | ((repeat apply Exists.intro); exact ⟨⟨j + 1, by omega, by go_num, hgot2⟩, rfl⟩)
            case measure => simp [intOf]; omega
          · obtain rfl : j = kp.length := by omega
            have hgot := HGOT.out
            unfold BackGot at hgot
            rw [List.take_length] at hgot
            have HR := Lib.hid hgot.1
            have HWQ := Lib.hid (HW3.out.only hgot.2 (by omega) HOW.out)
            have HBQ := Lib.hid (HB3.out.trans (get_below hgot.2 (by omega) (by have := HB3.out.size; omega)))
            have hup : up (bitsP kp).length = (pack (bitsP kp)).length := by rw [length_pack]; rfl
            have HUP := Lib.hid hup
            have hpl : (pack (bitsP kp)).length = packLen (bitsP kp).length := length_pack _
            have hpl2 : 8 * packLen (bitsP kp).length < (bitsP kp).length + 8 ∧ (bitsP kp).length ≤ 8 * packLen (bitsP kp).length := by unfold packLen; omega
            have HBR2 := Lib.hid (back_rest (bitsP kp))
            rw [hpl] at hup
            have HPL := Lib.hid hpl
            obtain ⟨hpl3, hpl4⟩ := hpl2
            clear hgot HGOT hup hpl
            go_wp2_with fail
            refine (left_any HR.out).mono ?_
            rintro e w6 ⟨rfl, hb6⟩
            rw [HPL.out]
            have HR6 := Lib.hid (HR.out.later hb6)
            have HW6 := Lib.hid (HWQ.out.later hb6)
            have HB6 := Lib.hid (bl_step HBQ.out hb6)
            clear hb6
            go_wp2_with fail
            refine (rest_ok w6 HR6.out HBR2.out).mono ?_
            rintro e w7 ⟨g7, rfl, hg7, _, _, hy7⟩
            rw [← HUP.out, Nat.sub_self]
            have HW7 := Lib.hid (HW6.out.only hy7 (by omega) HOW.out)
            have HB7 := Lib.hid (HB6.out.trans (get_below hy7 (by omega) (by have := HB6.out.size; omega)))
            clear hy7
            generalize hLL : (bitsP kp).length = L at *
            have HLL := Lib.hid hLL
            clear hLL
            generalize packLen L = PL at *
            have hm8 : (((L : Int) + ((8 * PL - L : Nat) : Int)) % 8 == 0) = true := by simp; omega
            have hl8 : ((8 * PL - L : Nat) : Int) < 8 := by omega
            go_wp2_with (first
              | (go_at_call 17; refine (alive1_any _).mono ?_; rintro e w8 ⟨rfl, hb8⟩; have HW8 := Lib.hid (HW7.out.later hb8))
              | (go_at_call 16; refine (len_any HW8.out).mono ?_; rintro e _ ⟨rfl, rfl⟩; rw [HLL.out]))
            go_ret
            exact ⟨rfl, bl_step HB7.out hb8⟩
end Go.Proofs.Ytjilmgbjbkidnaa
