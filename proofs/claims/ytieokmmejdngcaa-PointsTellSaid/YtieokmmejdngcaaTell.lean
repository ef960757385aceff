/-
  PointsTell: the points of bytes, turned by quarters, the nearest ones, and the bytes of points of whole parts, are told.
-/
import Derived.Test.YtieokmmejdngcaaRefTurn
import Derived.Test.YtieokmmejdngcaaRefBack
namespace Go.Proofs.Ytieokmmejdngcaa
open Go.RowKit

theorem QOwn.later {B : Nat} {L : List (Int × Int)} {v : Value} {w u : World} (h : QOwn B L v w) (hb : Below w.heap.size w u) : QOwn B L v u :=
  ⟨own_only h.1 (Only.of_below (S := fun _ => False) hb) (fun _ _ h => h), Nat.le_trans h.2 hb.size⟩
theorem rof_n (A : Option Addr) (l : List Nat) (n c : Nat) (w : World) (hl : (ptsL l).length = n) (hn : l.length ≤ 10000) (hb : ∀ b ∈ l, b < 256) (hs : BSrc w A l) :
    Calls Try.prog 25 #[.slice A l.length c] w fun e w' => (∃ A' c', e = .returned (.slice A' n c') ∧ QSrc w' A' (ptsL l)) ∧ Below w.heap.size w w' := by
  subst hl
  refine (rof_t A l c w hn hb hs).mono ?_
  rintro e w' ⟨⟨A', c', h1, h3⟩, hb⟩
  exact ⟨⟨A', c', by rw [h1, length_ptsL], h3⟩, hb⟩
theorem rturn_n (a b a' b' : Int) (h4 : four (a, b)) (k : Int) (hk : -9223372036854775808 ≤ k ∧ k ≤ 9223372036854775807) (ht : turnN (k % 4).toNat (a, b) = (a', b')) (w : World) :
    Calls Try.prog 28 #[.agg #[.float .f64 (fl a), .float .f64 (fl b)], .int .i64 k] w fun e w' => e = .returned (.agg #[.float .f64 (fl a'), .float .f64 (fl b')]) ∧ Below w.heap.size w w' := by
  have := rturn_t a b h4 k hk w
  unfold RTurn at this
  rw [ht] at this
  exact this
theorem near_p (a b : Int) (h0 : sml a) (h1 : sml b) (w : World) : Calls Try.prog 30 #[.complex .f64 (fl a) (fl b)] w fun e w' => e = .returned (.complex .f64 (fl (sg a)) (fl (sg b))) ∧ Below w.heap.size w w' := by
  refine (near_t (a, b) h0 h1 w).mono ?_
  rintro e w' ⟨rfl, rfl⟩
  exact ⟨rfl, Below.refl _ _⟩
theorem back_ok (A : Option Addr) (L : List (Int × Int)) (n c : Nat) (w : World) (hl : L.length = n) (hn : n ≤ 100000) (hsm : ∀ p ∈ L, sml p.1 ∧ sml p.2) (hs : PSrc w A L) (ho : okB L = true) :
    Calls Try.prog 32 #[.slice A n c] w fun e w' => (∃ A', e = .returned (.tuple #[.slice A' (backB L).length (backB L).length, .int .i64 0]) ∧ BSrc w' A' (backB L)) ∧ Below w.heap.size w w' := by
  subst hl
  refine (back_t A L c w hn hsm hs).mono ?_
  rintro e w' ⟨⟨_, v, h1, A', h2, h3⟩ | ⟨h, _⟩, hb⟩
  · exact ⟨⟨A', by rw [h1, h2], h3⟩, hb⟩
  · rw [ho] at h; cases h
theorem back_no (A : Option Addr) (L : List (Int × Int)) (n c : Nat) (w : World) (hl : L.length = n) (hn : n ≤ 100000) (hsm : ∀ p ∈ L, sml p.1 ∧ sml p.2) (hs : PSrc w A L) (ho : okB L = false) :
    Calls Try.prog 32 #[.slice A n c] w fun e w' => e = .returned (.tuple #[.slice none 0 0, .int .i64 3]) ∧ Below w.heap.size w w' := by
  subst hl
  refine (back_t A L c w hn hsm hs).mono ?_
  rintro e w' ⟨⟨h, _⟩ | ⟨_, h⟩, hb⟩
  · rw [ho] at h; cases h
  · exact ⟨h, hb⟩
theorem rback_ok (A : Option Addr) (L : List (Int × Int)) (n c : Nat) (w : World) (hl : L.length = n) (hn : n ≤ 100000) (hsm : ∀ p ∈ L, sml p.1 ∧ sml p.2) (hs : QSrc w A L) (ho : okB L = true) :
    Calls Try.prog 33 #[.slice A n c] w fun e w' => (∃ A' c', e = .returned (.tuple #[.slice A' (backB L).length c', .bool true]) ∧ BSrc w' A' (backB L)) ∧ Below w.heap.size w w' := by
  subst hl
  refine (rback_t A L c w hn hsm hs).mono ?_
  rintro e w' ⟨⟨_, A', c', h2, h3⟩ | ⟨h, _⟩, hb⟩
  · exact ⟨⟨A', c', h2, h3⟩, hb⟩
  · rw [ho] at h; cases h
theorem rback_no (A : Option Addr) (L : List (Int × Int)) (n c : Nat) (w : World) (hl : L.length = n) (hn : n ≤ 100000) (hsm : ∀ p ∈ L, sml p.1 ∧ sml p.2) (hs : QSrc w A L) (ho : okB L = false) :
    Calls Try.prog 33 #[.slice A n c] w fun e w' => e = .returned (.tuple #[.slice none 0 0, .bool false]) ∧ Below w.heap.size w w' := by
  subst hl
  refine (rback_t A L c w hn hsm hs).mono ?_
  rintro e w' ⟨⟨h, _⟩ | ⟨_, h⟩, hb⟩
  · rw [ho] at h; cases h
  · exact ⟨h, hb⟩
theorem bsrc_nil (w : World) : BSrc w none [] := fun i b h => by simp at h

set_option maxHeartbeats 400000 in
theorem tell_guard (A A' : Option Addr) (n m c c' : Nat) (k : Int) (w : World) (h : 1000 < n ∨ 1000 < m) :
    Calls Try.prog 6 #[.slice A n c, .int .i64 k, .slice A' m c'] w fun e w' => e = .returned (.bool true) ∧ Below w.heap.size w w' := by
  by_cases h1 : 1000 < n
  · have h : (1000 : Int) < (n : Int) := by omega
    clear h1
    go_enter Try.func6, Try.ntmps6
    go_wp2_with (go_at_call 23; refine (alive6_any _).mono ?_; rintro e w1 ⟨rfl, hb⟩)
    go_ret
    exact ⟨rfl, hb⟩
  · have h2 : ¬ (1000 : Int) < (n : Int) := by omega
    have h3 : (1000 : Int) < (m : Int) := by omega
    clear h1 h
    go_enter Try.func6, Try.ntmps6
    go_wp2_with (go_at_call 23; refine (alive6_any _).mono ?_; rintro e w1 ⟨rfl, hb⟩)
    go_ret
    exact ⟨rfl, hb⟩
def ThreeRows (w : World) (A1 A2 A3 : Option Addr) (L : List (Int × Int)) (q : Nat) : Prop := PSrc w A1 L ∧ QSrc w A2 L ∧ PSrc w A3 (L.map (turnN q))
theorem ThreeRows.later {w v : World} {A1 A2 A3 : Option Addr} {L : List (Int × Int)} {q : Nat} (h : ThreeRows w A1 A2 A3 L q) (hb : Below w.heap.size w v) : ThreeRows v A1 A2 A3 L q :=
  ⟨h.1.later hb, h.2.1.later hb, h.2.2.later hb⟩

set_option maxRecDepth 100000 in
set_option maxHeartbeats 3200000 in
theorem tell_walk (A A' : Option Addr) (l : List Nat) (c : Nat) (k : Int) (P : List Int) (c' : Nat) (w : World) (hn : l.length ≤ 1000) (hm : P.length ≤ 1000) (hk : -9223372036854775808 ≤ k ∧ k ≤ 9223372036854775807)
    (hb : ∀ b ∈ l, b < 256) (hs : BSrc w A l) (hb' : ∀ b ∈ P, -128 ≤ b ∧ b ≤ 127) (hs' : KSrc .i8 w A' P) :
    Calls Try.prog 6 #[.slice A l.length c, .int .i64 k, .slice A' P.length c'] w fun e w' => e = .returned (.bool true) ∧ Below w.heap.size w w' := by
  have HS := Lib.hid hs
  have HB := Lib.hid hb
  have HS' := Lib.hid hs'
  have HB' := Lib.hid hb'
  have HK := Lib.hid hk
  have hn2 : ¬ (1000 : Int) < (l.length : Int) := by omega
  have hm2 : ¬ (1000 : Int) < (P.length : Int) := by omega
  obtain ⟨n, hL⟩ : ∃ n, (ptsL l).length = n := ⟨_, rfl⟩
  have hn4 : n ≤ 4000 := by rw [← hL, length_ptsL]; omega
  have HL := Lib.hid hL
  have H4 := Lib.hid (ptsL_four l)
  obtain ⟨q, hq⟩ : ∃ q, (k % 4).toNat = q := ⟨_, rfl⟩
  have HQ := Lib.hid hq
  clear hs hb hs' hb' hL hk hq
  go_enter Try.func6, Try.ntmps6
  go_wp2_with fail
  refine (of_n A l n c w HL.out (by omega) HB.out HS.out).mono ?_
  rintro e w1 ⟨⟨A1, rfl, hp⟩, hb1⟩
  have HP1 := Lib.hid hp
  have HB1 := Lib.hid hb1
  clear hp hb1
  go_wp2_with fail
  refine (rof_n A l n c w1 HL.out (by omega) HB.out (HS.out.later HB1.out)).mono ?_
  rintro e w2 ⟨⟨A2, c2, rfl, hp⟩, hb2⟩
  have HP2 := Lib.hid (And.intro (HP1.out.later hb2) hp)
  have HB2 := Lib.hid (bl_step HB1.out hb2)
  clear hp hb2 HP1 HB1
  go_wp2_with fail
  refine (turn_n A1 (ptsL l) n _ k _ HL.out (by omega) H4.out HP2.out.1).mono ?_
  rintro e w3 ⟨⟨A3, rfl, hp⟩, hb3⟩
  rw [HQ.out] at hp
  have HT := Lib.hid (show ThreeRows w3 A1 A2 A3 (ptsL l) q from ⟨HP2.out.1.later hb3, HP2.out.2.later hb3, hp⟩)
  have HB3 := Lib.hid (bl_step HB2.out hb3)
  clear hp hb3 HP2 HB2
  have hnn : ((n : Int) != (n : Int)) = false := by simp
  go_wp2_with fail
  go_loopw [10] (fun i wr => ∃ j : Nat, j ≤ n ∧ i = .int .i64 j ∧ Hid (ThreeRows wr A1 A2 A3 (ptsL l) q) ∧ Hid (Below w.heap.size w wr)) (fun i _ => n - (intOf i).toNat)
  case atStart => exact ⟨0, by omega, rfl, HT, HB3⟩
  case round =>
    obtain ⟨j, hj, rfl, HF, HBW⟩ := hrel
    clear HT HB3
    by_cases hlt : j < n
    · obtain ⟨p, hp⟩ : ∃ p, (ptsL l)[j]? = some p := ⟨_, List.getElem?_eq_getElem (by rw [HL.out]; exact hlt)⟩
      have hp' : ((ptsL l).map (turnN q))[j]? = some (turnN q p) := by rw [List.getElem?_map, hp]; rfl
      have h4 := H4.out p (List.mem_of_getElem? hp)
      have h4' := four_turnN q h4
      obtain ⟨g1, rfl, c1⟩ := HF.out.1 j p hp
      obtain ⟨g2, rfl, c2, c2'⟩ := HF.out.2.1 j p hp
      obtain ⟨g3, rfl, c3⟩ := HF.out.2.2 j _ hp'
      have o1 := fl_eq (four_sml h4).1 (four_sml h4).1
      have o2 := fl_eq (four_sml h4).2 (four_sml h4).2
      have o3 := fl_eq (four_sml h4').1 (four_sml h4').1
      have o4 := fl_eq (four_sml h4').2 (four_sml h4').2
      rw [decide_eq_true rfl] at o1 o2 o3 o4
      have hj0 : (0 : Int) ≤ (j : Int) := by omega
      have hj1 : (j : Int) < (n : Int) := by omega
      have HX := Lib.hid (show turnN (k % 4).toNat p = turnN q p by rw [HQ.out])
      have H44 := Lib.hid h4
      clear hp hp' h4 h4'
      generalize turnN q p = r at *
      obtain ⟨a, b⟩ := p
      obtain ⟨a', b'⟩ := r
      simp only [cpx] at c1 c3
      simp only at o1 o2 o3 o4 c2 c2'
      have heq := eq_flt9
      go_wp2_with fail
      go_region_held3 (fun w' => w'.cell? ⟨g1, j, none⟩ = some (.complex .f64 (fl a) (fl b)) ∧ w'.cell? ⟨g3, j, none⟩ = some (.complex .f64 (fl a') (fl b')) ∧ w'.cell? ⟨g2, j * 2, none⟩ = some (.float .f64 (fl a)) ∧ w'.cell? ⟨g2, j * 2 + 1, none⟩ = some (.float .f64 (fl b))) (go_keep) (first
        | (go_at_call 27; (with_reducible refine (as_p a b _).mono ?_); rintro e v1 ⟨rfl, hv1⟩; have q1 := kept_box hv1 (show wr.drew.cell? _ = _ from c1); have q2 := kept_box hv1 (show wr.drew.cell? _ = _ from c3); have q3 := kept_box hv1 (show wr.drew.cell? _ = _ from c2); have q4 := kept_box hv1 (show wr.drew.cell? _ = _ from c2'); have HV1 := Lib.hid (bl_step (bl_drew (Below.refl _ _)) hv1); clear hv1)
        | (go_at_call 27; (with_reducible refine (as_p a' b' _).mono ?_); rintro e v2 ⟨rfl, hv2⟩; have p1 := kept_box hv2 q1; have p2 := kept_box hv2 q2; have p3 := kept_box hv2 q3; have p4 := kept_box hv2 q4; have HV2 := Lib.hid (bl_step HV1.out hv2); clear hv2)
        | (go_at_call 28; (with_reducible refine (rturn_n a b a' b' H44.out k HK.out HX.out _).mono ?_); rintro e v3 ⟨rfl, hv3⟩; have r1 := kept_box hv3 p1; have r2 := kept_box hv3 p2; have r3 := kept_box hv3 p3; have r4 := kept_box hv3 p4; have HV3 := Lib.hid (bl_step HV2.out hv3); clear hv3))
      have HF3 := Lib.hid (HF.out.later HV3.out)
      have HB9 := Lib.hid (bl_step HBW.out HV3.out)
      go_wp2
      go_roundw
      case rel => exact ⟨j + 1, by omega, by go_num, HF3, HB9⟩
      case measure => simp [intOf]; omega
    · have hj1 : ¬ (j : Int) < (n : Int) := by omega
      go_wp2_with fail
      refine (made_t A' P c' wr hm (HS'.out.later HBW.out)).mono ?_
      rintro e w5 ⟨⟨A5, c5, rfl, hp⟩, hb5⟩
      have HP5 := Lib.hid hp
      have HB5 := Lib.hid (bl_step HBW.out hb5)
      clear hp hb5 hj1 hj hlt HF HBW
      have HML := Lib.hid (length_madeP P)
      have HMB := Lib.hid (i8_sml HB'.out)
      have hmm : P.length / 2 ≤ 500 := by omega
      generalize hMM : madeP P = M at *
      generalize hm3 : P.length / 2 = m at *
      clear hMM hm3
      have HI0 := Lib.hid (show QOwn w5.heap.size (M.take 0) (.slice none 0 0) w5 from QOwn.nil w5)
      have HX0 := Lib.hid (Below.refl w5.heap.size w5)
      go_wp2_with fail
      go_loopw [12, 13] (fun v i wr => ∃ j : Nat, j ≤ m ∧ i = .int .i64 j ∧ Hid (QOwn w5.heap.size (M.take j) v wr) ∧ Hid (Below w5.heap.size w5 wr)) (fun _ i _ => m - (intOf i).toNat)
      case atStart => exact ⟨0, by omega, rfl, HI0, HX0⟩
      case round =>
        obtain ⟨j, hj, rfl, HI, HX⟩ := hrel
        clear HI0 HX0
        by_cases hlt : j < m
        · obtain ⟨p, hp⟩ : ∃ p, M[j]? = some p := ⟨_, List.getElem?_eq_getElem (by rw [HML.out]; exact hlt)⟩
          obtain ⟨a, b⟩ := p
          obtain ⟨hs1, hs2⟩ := HMB.out _ (List.mem_of_getElem? hp)
          obtain ⟨g1, rfl, c1⟩ := HP5.out j _ hp
          have d1 := kept_box HX.out c1
          simp only [cpx] at d1 c1
          simp only at hs1 hs2
          have hj0 : (0 : Int) ≤ (j : Int) := by omega
          have hj1 : (j : Int) < (m : Int) := by omega
          have o1 := fl_eq (sml_sg a) (sml_sg a)
          have o2 := fl_eq (sml_sg b) (sml_sg b)
          rw [decide_eq_true rfl] at o1 o2
          have hlen : (M.take j).length = j := by rw [List.length_take, HML.out]; omega
          have hlen1 : (M.take (j + 1)).length = j + 1 := by rw [List.length_take, HML.out]; omega
          have hat : (M.take (j + 1))[j]? = some (a, b) := by rw [List.getElem?_take, if_pos (by omega), hp]
          obtain ⟨A9, c9, rfl⟩ := HI.out.form
          rw [hlen]
          rw [hlen] at HI
          go_wp2_with fail
          refine (as_p a b _).mono ?_
          rintro e w8 ⟨rfl, hb8⟩
          have d8 := kept_box hb8 d1
          obtain ⟨g9, cap9, W9, hr9, hq9, hb9, hs9⟩ := (HI.out.later hb8).step (a, b) (by rw [hlen]; omega)
          rw [hlen] at hr9 hq9
          rw [← take_snocP hp] at hq9
          have hx9 := (HX.out.trans (hb8.mono HI.out.2)).trans hb9
          have d9 := kept_box hx9 c1
          obtain ⟨gx, hgx, e1, e2⟩ := QOwn.src (c := cap9) (A := some ⟨g9, 0, none⟩) (by rw [hlen1]; exact hq9) j _ hat
          obtain rfl : g9 = gx := by simpa using hgx
          have HQ9 := Lib.hid hq9
          have HX9 := Lib.hid hx9
          have HR9 := Lib.hid hr9
          have hj2 : (j : Int) < ((j + 1 : Nat) : Int) := by omega
          have hj3 : (j : Int) < (j : Int) + 1 := by omega
          simp only at e1 e2
          clear hp hat hr9 hq9 hx9 hb9 hs9 hlen hlen1 hgx c1 d1
          go_wp2_with (at_builtin; refine wpList_run rfl (.tmp 84) (.tmp 90) 48 rfl (.slice A9 j c9) (.slice (some ⟨w8.heap.size, 0, none⟩) 1 1) (by rfl) (by rfl) HR9.out ?_)
          have heq := eq_flt9
          go_region_held3 (fun w' => w'.cell? ⟨g1, j, none⟩ = some (.complex .f64 (fl a) (fl b)) ∧ w'.cell? ⟨g9, j * 2, none⟩ = some (.float .f64 (fl a)) ∧ w'.cell? ⟨g9, j * 2 + 1, none⟩ = some (.float .f64 (fl b))) (go_keep) (first
            | (go_at_call 30; (with_reducible refine (near_p a b hs1 hs2 _).mono ?_); rintro e v1 ⟨rfl, hv1⟩; have q1 := kept_box hv1 (show W9.drew.cell? _ = _ from d9); have q2 := kept_box hv1 (show W9.drew.cell? _ = _ from e1); have q3 := kept_box hv1 (show W9.drew.cell? _ = _ from e2); have HV1 := Lib.hid (bl_step (bl_drew (Below.refl _ _)) hv1); clear hv1)
            | (go_at_call 27; (with_reducible refine (as_p (sg a) (sg b) _).mono ?_); rintro e v2 ⟨rfl, hv2⟩; have p1 := kept_box hv2 q1; have p2 := kept_box hv2 q2; have p3 := kept_box hv2 q3; have HV2 := Lib.hid (bl_step HV1.out hv2); clear hv2)
            | (go_at_call 31; (with_reducible refine (rnear_p a b hs1 hs2 _).mono ?_); rintro e v3 ⟨rfl, hv3⟩; have r1 := kept_box hv3 p1; have r2 := kept_box hv3 p2; have r3 := kept_box hv3 p3; have HV3 := Lib.hid (bl_step HV2.out hv3); clear hv3))
          have HQ3 := Lib.hid (HQ9.out.later HV3.out)
          have HX3 := Lib.hid (HX9.out.trans (HV3.out.mono HQ9.out.2))
          go_wp2
          go_roundw
          case rel => exact ⟨j + 1, by omega, by go_num, HQ3, HX3⟩
          case measure => simp [intOf]; omega
        · obtain rfl : j = m := by omega
          have hj1 : ¬ (j : Int) < (j : Int) := by omega
          have htk : M.take j = M := List.take_of_length_le (by rw [HML.out]; exact Nat.le_refl _)
          rw [htk] at HI
          obtain ⟨A9, c9, rfl⟩ := HI.out.form
          have HS9 := Lib.hid HI.out.src
          have HP9 := Lib.hid (HP5.out.later HX.out)
          have HX9 := Lib.hid (show Below w.heap.size w wr from HB5.out.trans (HX.out.mono HB5.out.size))
          rw [HML.out]
          clear HI HX HP5 htk
          cases ho : okB M
          · go_wp2_with fail
            refine (back_no A5 M j _ _ HML.out (by omega) HMB.out HP9.out ho).mono ?_
            rintro e w8 ⟨rfl, hb8⟩
            go_wp2_with fail
            refine (rback_no A9 M j _ _ HML.out (by omega) HMB.out (HS9.out.later hb8) ho).mono ?_
            rintro e w9 ⟨rfl, hb9⟩
            have hv0 := fun W => (show (convert 44 9 (.slice none 0 0)).run Try.prog W = .ok (.string (strOf [])) W from conv_b (c := 0) (bsrc_nil W) (by simp))
            go_wp2_with (go_at_call 23; refine (alive6_any _).mono ?_; rintro e w10 ⟨rfl, hb10⟩)
            go_ret
            exact ⟨rfl, bl_step (bl_step (bl_step HX9.out hb8) hb9) hb10⟩
          · go_wp2_with fail
            refine (back_ok A5 M j _ _ HML.out (by omega) HMB.out HP9.out ho).mono ?_
            rintro e w8 ⟨⟨A6, rfl, hx⟩, hb8⟩
            have HX8 := Lib.hid hx
            clear hx
            go_wp2_with fail
            refine (rback_ok A9 M j _ _ HML.out (by omega) HMB.out (HS9.out.later hb8) ho).mono ?_
            rintro e w9 ⟨⟨A7, c7, rfl, hy⟩, hb9⟩
            have HY9 := Lib.hid hy
            clear hy
            go_wp2_with (go_at_call 23; refine (alive6_any _).mono ?_; rintro e w10 ⟨rfl, hb10⟩; have hv1 := conv_b (c := (backB M).length) ((HX8.out.later hb9).later hb10) (backB_lt M); have hv2 := conv_b (c := c7) (HY9.out.later hb10) (backB_lt M))
            go_ret
            exact ⟨rfl, bl_step (bl_step (bl_step HX9.out hb8) hb9) hb10⟩
end Go.Proofs.Ytieokmmejdngcaa
