/-
  StatusBack: the law walked. status: the document's Size; the law StatusWrites walked. status: the law StatusWrites where the width is none.
-/
import Derived.Test.YtbdjgdkafbkdbaaJStatusWrites14
import Derived.Test.YtbdjgdkafbkdbaaJStatusWrites09
import Derived.Test.YtbdjgdkafbkdbaaJStatusWrites11
import Derived.Test.YtbdjgdkafbkdbaaJStatusWrites07
import Derived.Test.YtbdjgdkafbkdbaaJStatusWrites13
import Derived.Deep.RegionHeld3
namespace Go.Proofs.Ytbdjgdkafbkdbaa
open Go.RowKit

theorem eqMs_refl (L : List MissM) : eqMs L L = true := by
  induction L with
  | nil => rfl
  | cons m t ih => simp [eqMs, ih, (eqM_iff m m).2 rfl]
theorem sread_yes {A : Option Addr} {bs : List Nat} {M : List MissM} {a : Int} (x n cap : Nat) (w : World) (hn : bs.length = n) (hm : n ≤ 8192) (hc : n ≤ cap) (hs : Src w A (bts bs)) (hb : ∀ b ∈ bs, b < 256) (h : stRd bs x = (0, a, M)) :
    Calls Try.prog 60 #[.slice A n cap, .int .i64 x] w fun e w' => ∃ A' c, e = .returned (.tuple #[.agg #[.int .i64 a, .slice A' M.length c], .int .i64 0]) ∧ M.length ≤ c ∧ c ≤ 9223372036854775807 ∧ MSrc w' A' M ∧ Below w.heap.size w w' := by
  refine (sread_any x n cap w hn hm hc hs hb).mono ?_
  rintro e w' ⟨h1, h2, _⟩
  rw [h] at h2
  obtain ⟨A', c, e1, e2, e3, e4⟩ := h2 rfl
  exact ⟨A', c, e1, e2, e3, e4, h1⟩
theorem sread_err {A : Option Addr} {bs : List Nat} {M : List MissM} {a c : Int} (x n cap : Nat) (w : World) (hn : bs.length = n) (hm : n ≤ 8192) (hc : n ≤ cap) (hs : Src w A (bts bs)) (hb : ∀ b ∈ bs, b < 256) (h : stRd bs x = (c, a, M)) (h0 : c ≠ 0) :
    Calls Try.prog 60 #[.slice A n cap, .int .i64 x] w fun e w' => e = .returned (.tuple #[.agg #[.int .i64 0, .slice none 0 0], .int .i64 c]) ∧ Below w.heap.size w w' := by
  refine (sread_any x n cap w hn hm hc hs hb).mono ?_
  rintro e w' ⟨h1, _, h3⟩
  rw [h] at h3
  exact ⟨h3 h0, h1⟩
theorem swrite_zero (x : Nat) (w : World) (hk : okS (x : Int) = true) : Calls Try.prog 52 #[.agg #[.int .i64 0, .slice none 0 0], .int .i64 x] w fun e w' => ∃ g n, e = .returned (.tuple #[.slice (some ⟨g, 0, none⟩) n n, .int .i64 0]) ∧ Below w.heap.size w w' := by
  have hr0 : rightB ((0 : Nat) : Int) [] x = true := by
    rcases okS_nat hk with h | h
    · obtain rfl : x = 10 := by omega
      decide +kernel
    · obtain rfl : x = 16 := by omega
      decide +kernel
  refine (stwrite_ok (A := none) (L := []) 0 x 0 0 w rfl (fun h => absurd h (by decide)) hr0).mono ?_
  rintro e w' ⟨g, rfl, _, _, hb⟩
  exact ⟨g, _, rfl, hb⟩
theorem cells2x {w : World} {g : Nat} {t : TypeId} {a b : Value} (hr : Row w g t #[a, b]) : w.cell? ⟨g, 0, none⟩ = some a ∧ w.cell? ⟨g, 1, none⟩ = some b := ⟨hr.read rfl, hr.read rfl⟩
set_option maxRecDepth 100000 in
set_option maxHeartbeats 1600000 in
theorem sread_kind {A : Option Addr} (x : Int) (n cap : Nat) (w : World) (h : okS x = false) :
    Calls Try.prog 60 #[.slice A n cap, .int .i64 x] w fun e w' => e = .returned (.tuple #[.agg #[.int .i64 0, .slice none 0 0], .int .i64 9]) ∧ Below w.heap.size w w' := by
  have HM := Lib.hid (fun W => smay_any x W)
  rw [h] at HM
  have HF : Calls Try.prog 112 #[.slice A n cap, .int .i64 x] (w.alloc (.cells #[.int .i64 0, .slice none 0 0] 81)) fun e w' => e = .returned (.int .i64 9) ∧ w.alloc (.cells #[.int .i64 0, .slice none 0 0] 81) = w' := by
    generalize w.alloc (.cells #[.int .i64 0, .slice none 0 0] 81) = W
    clear h
    go_enter Try.func112, Try.ntmps112
    go_wp2_with (go_at_call 96; refine (HM.out _).mono ?_; rintro e w1 ⟨rfl, rfl⟩)
    go_ret
    exact ⟨rfl, rfl⟩
  have HFH := Lib.hid HF
  have ROW := Lib.hid (Row.made w 81 #[.int .i64 0, .slice none 0 0])
  obtain ⟨⟨c0, c1⟩, f0, f1⟩ := cells2 ROW.out
  clear h HF
  go_enter Try.func60, Try.ntmps60
  go_wp2
  refine st_scope_through 0 (fun _ _ => False) (fun _ _ => 0) rfl (fun _ => ?_) (fun _ _ h => h.elim)
  go_wp2_with (go_at_call 112; (with_reducible refine HFH.out.mono ?_); rintro e w1 ⟨rfl, rfl⟩)
  simp only [Exit.jump]
  obtain ⟨dd, hdd⟩ := understat_parts
  refine bodyPost_ret (st_results_two rfl _ _ w.heap.size 81 #[.int .i64 0, .slice none 0 0] dd rfl ROW.out hdd Try.infostat) rfl ?_
  exact ⟨rfl, bl_alloc (Below.refl _ _) _⟩
set_option maxRecDepth 100000 in
set_option maxHeartbeats 6400000 in
theorem stback_kind {A Bd : Option Addr} {L : List MissM} {bs : List Nat} (ack : Int) (x : Int) (n cap nb cb : Nat) (w : World) (hn : n ≤ 60) (hL : L.length = n) (_hcap : n ≤ cap) (_hcm : cap ≤ 9223372036854775807) (hs : MSrc w A L) (hnb : nb ≤ 400) (hB : bs.length = nb) (hcb : nb ≤ cb) (hsb : Src w Bd (bts bs)) (hb : ∀ b ∈ bs, b < 256) (hk : okS x = false) :
    Calls Try.prog 6 #[.agg #[.int .i64 ack, .slice A n cap], .slice Bd nb cb, .int .i64 x] w fun e w' => e = .returned (.bool true) ∧ Below w.heap.size w w' := by
  have ROW0 := Lib.hid (Row.made w 81 #[.int .i64 ack, .slice A n cap])
  have HB0 := Lib.hid (bl_alloc (Below.refl w.heap.size w) (.cells #[.int .i64 ack, .slice A n cap] 81))
  have hn60 : ¬ (60 : Int) < n := by omega
  have hnb4 : ¬ (400 : Int) < nb := by omega
  have hn60' : decide ((60 : Int) < n) = false := decide_eq_false hn60
  have hnb4' : decide ((400 : Int) < nb) = false := decide_eq_false hnb4
  have hw : rightB ack L x = false := by unfold rightB; rw [hk]; rfl
  have hw0 : rightB 0 [] x = false := by unfold rightB; rw [hk]; rfl
  have HW1 := Lib.hid (fun W (hb : Below w.heap.size w W) => stwrite_bad ack x n cap W hL (by omega) (hs.later hb) hw)
  have HW2 := Lib.hid (fun W => stwrite_bad (A := none) (L := []) 0 x 0 0 W rfl (by omega) (fun h => absurd h (by decide)) hw0)
  have HRD := Lib.hid (fun W => sread_kind (A := Bd) x nb cb W hk)
  rw [hk] at HW1 HW2
  simp only [Bool.false_eq_true, if_false] at HW1 HW2
  clear hs hsb hb hL hB hk hw hw0 hn hnb hn60 hnb4
  go_enter Try.func6, Try.ntmps6
  go_wp2_with (first
    | (go_at_call 52; (with_reducible refine (HW1.out _ HB0.out).mono ?_); rintro e w1 ⟨rfl, hb1⟩; (have HB1 := Lib.hid (bl_step HB0.out hb1); clear hb1))
    | (go_at_call 60; (with_reducible refine (HRD.out _).mono ?_); rintro e w2 ⟨rfl, hb2⟩; (have HB2 := Lib.hid (bl_step HB1.out hb2); have HB2A := Lib.hid (bl_alloc HB2.out (.cells #[.int .i64 0, .slice none 0 0] 81)); clear hb2))
    | (go_at_call 52; (with_reducible refine (HW2.out _).mono ?_); rintro e w3 ⟨rfl, hb3⟩; (have HB3 := Lib.hid (bl_step HB2A.out hb3); clear hb3))
    | (go_at_call 50; (with_reducible refine (stalive_any _).mono ?_); rintro e w4 ⟨rfl, hb4⟩; (have HB4 := Lib.hid (bl_step HB3.out hb4); clear hb4)))
  go_ret
  exact ⟨rfl, HB4.out⟩
set_option maxRecDepth 100000 in
set_option maxHeartbeats 6400000 in
theorem stback_w1r1 {A Bd : Option Addr} {L : List MissM} {bs : List Nat} (ack : Nat) (x : Nat) (n cap nb cb : Nat) (w : World) (hn : n ≤ 60) (hL : L.length = n) (_hcap : n ≤ cap) (_hcm : cap ≤ 9223372036854775807) (hs : MSrc w A L) (hnb : nb ≤ 400) (hB : bs.length = nb) (hcb : nb ≤ cb) (hsb : Src w Bd (bts bs)) (hb : ∀ b ∈ bs, b < 256) (hk : okS x = true) (hw : rightB ack L x = true) (hr : (stRd bs x).1 = 0) :
    Calls Try.prog 6 #[.agg #[.int .i64 ack, .slice A n cap], .slice Bd nb cb, .int .i64 x] w fun e w' => e = .returned (.bool true) ∧ Below w.heap.size w w' := by
  have ROW0 := Lib.hid (Row.made w 81 #[.int .i64 ack, .slice A n cap])
  have HB0 := Lib.hid (bl_alloc (Below.refl w.heap.size w) (.cells #[.int .i64 ack, .slice A n cap] 81))
  have hn60 : ¬ (60 : Int) < n := by omega
  have hnb4 : ¬ (400 : Int) < nb := by omega
  have hn60' : decide ((60 : Int) < n) = false := decide_eq_false hn60
  have hnb4' : decide ((400 : Int) < nb) = false := decide_eq_false hnb4
  have HW1 := Lib.hid (fun W (hb : Below w.heap.size w W) => stwrite_ok ack x n cap W hL (hs.later hb) hw)
  have HSZ := Lib.hid (fun W (hb : Below w.heap.size w W) => ssize_any ack x n cap W hL (by omega) (hs.later hb))
  rw [← st_len hw] at HSZ
  have hst := st_back hw
  have hlen : (stBytes ack L x).length ≤ 8192 := by
    have h1 := len_stBytes ack L x
    obtain ⟨_, hok, _, hl, _⟩ := rightB_parts hw
    have h2 := (bitsS_bd hok L).2
    have := (rightB_parts hw).1
    omega
  have HRD1 := Lib.hid (fun W g (hrow : Row W g 5 (bts (stBytes ack L x)).toArray) => sread_yes (A := some ⟨g, 0, none⟩) (bs := stBytes ack L x) x _ (stBytes ack L x).length W rfl hlen (Nat.le_refl _) (row_src hrow) (pack_small _) hst)
  unfold StWAns at HW1
  rw [hL] at HRD1
  have HAS := Lib.hid (fun W (hb : Below w.heap.size w W) => sas_any ack n cap W hL hn (hs.later hb))
  have HAT := Lib.hid (fun W A2 c2 (h : MSrc W A2 L) => sas_any (A := A2) ack n c2 W hL hn h)
  have HSM := Lib.hid (fun W A1 A2 c1 c2 (h1 : MSrc W A1 L) (h2 : MSrc W A2 L) => rssame_any (A := A1) (B := A2) ack ack n n c1 c2 W hL hL (by omega) h1 h2)
  rw [show eqS ack L ack L = true from by unfold eqS; rw [eqMs_refl]; simp] at HSM
  have HLL := Lib.hid hL
  generalize hsb0 : stBytes ack L x = sby at *
  obtain ⟨c0, a0, M, hrd⟩ : ∃ c a M, stRd bs x = (c, a, M) := ⟨_, _, _, rfl⟩
  rw [hrd] at hr
  simp only at hr
  subst hr
  obtain ⟨hm1, hm2⟩ := st_write hb hrd
  obtain ⟨a, rfl⟩ : ∃ a : Nat, a0 = a := ⟨a0.toNat, by have := ((okn_nat (rightB_parts hm1).1).1 (rightB_parts hm1).2.2.1).1; omega⟩
  have HRD := Lib.hid (fun W (hb1 : Below w.heap.size w W) => sread_yes (A := Bd) (bs := bs) x nb cb W hB (by omega) hcb (st_src_later hsb hb1) hb hrd)
  have HW2 := Lib.hid (fun W A2 c2 (h : MSrc W A2 M) => stwrite_ok (A := A2) (L := M) a x M.length c2 W rfl h hm1)
  have HRI := Lib.hid (fun W A2 c2 (h : MSrc W A2 M) => sright_any (A := A2) (L := M) a x M.length c2 W rfl (by have := (rightB_parts hm1).2.2.2.1; omega) h)
  rw [hm1] at HRI
  unfold StWAns at HW2
  rw [hm2, hB] at HW2
  have HCV := Lib.hid (fun W (hb1 : Below w.heap.size w W) => conv_src nb cb hB (st_src_later hsb hb1) hb)
  have HCW := Lib.hid (fun W g (hrow : Row W g 5 (bts bs).toArray) => conv_str (c := bs.length) hrow hb)
  rw [hB] at HCW
  clear hs hsb hb hL hB hk hw hn hnb hn60 hnb4 hrd  hst hlen hsb0
  clear hm1 hm2
  go_enter Try.func6, Try.ntmps6
  go_wp2_with (first
    | (go_at_call 52; (with_reducible refine (HW1.out _ HB0.out).mono ?_); rintro e w1 ⟨g1, rfl, hg1, hr1, hb1⟩; (have HB1 := Lib.hid (bl_step HB0.out hb1); have ROW1 := Lib.hid (ROW0.out.later hb1); have HR1 := Lib.hid (HRD1.out _ _ hr1); clear hb1 hr1 hg1))
    | (go_at_call 60; (with_reducible refine HR1.out.mono ?_); rintro e w2 ⟨A2, c2, rfl, hc2, hcm2, hs2, hb2⟩; (have HB2 := Lib.hid (bl_alloc (bl_step HB1.out hb2) (.cells #[.int .i64 ack, .slice A2 n c2] 81)); have ROW2 := Lib.hid ((ROW1.out.later hb2).more (.cells #[.int .i64 ack, .slice A2 n c2] 81)); have HS2 := Lib.hid (hs2.later (bl_alloc (Below.refl _ _) (.cells #[.int .i64 ack, .slice A2 n c2] 81))); have ROWT := Lib.hid (Row.made w2 81 #[.int .i64 ack, .slice A2 n c2]); clear hb2 hs2)))
  generalize w2.alloc (.cells #[.int .i64 ack, .slice A2 n c2] 81) = W2 at *
  generalize w2.heap.size = q at *
  obtain ⟨d0, d1⟩ := cells2x ROW2.out.drawn
  obtain ⟨d2, d3⟩ := cells2x ROWT.out.drawn
  go_region_held3 (fun w' => w'.cell? ⟨w.heap.size, 0, none⟩ = some (.int .i64 ack) ∧ w'.cell? ⟨w.heap.size, 1, none⟩ = some (.slice A n cap) ∧ w'.cell? ⟨q, 0, none⟩ = some (.int .i64 ack) ∧ w'.cell? ⟨q, 1, none⟩ = some (.slice A2 n c2)) (first | assumption | exact ⟨d0, d1, d2, d3⟩ | exact k3 | exact k4 | exact k5 | exact k6 | go_keep) (first
    | (go_at_call 51; (with_reducible refine (HAS.out _ (bl_drew HB2.out)).mono ?_); rintro e v3 ⟨A3, c3, rfl, _, _, hs3, hb3⟩; have B3 := Lib.hid (show Below W2.heap.size W2 v3 from bl_step (bl_drew (Below.refl _ _)) hb3); have HS3 := Lib.hid hs3; have k3 : _ ∧ _ ∧ _ ∧ _ := ⟨(cells2x (ROW2.out.later B3.out)).1, (cells2x (ROW2.out.later B3.out)).2, (cells2x (ROWT.out.later B3.out)).1, (cells2x (ROWT.out.later B3.out)).2⟩; clear hs3 hb3)
    | (go_at_call 51; (with_reducible refine (HAT.out _ _ _ (HS2.out.later B3.out)).mono ?_); rintro e v4 ⟨A4, c4, rfl, _, _, hs4, hb4⟩; have B4 := Lib.hid (bl_step B3.out hb4); have HS4 := Lib.hid hs4; have HS34 := Lib.hid (HS3.out.later hb4); have k4 : _ ∧ _ ∧ _ ∧ _ := ⟨(cells2x (ROW2.out.later B4.out)).1, (cells2x (ROW2.out.later B4.out)).2, (cells2x (ROWT.out.later B4.out)).1, (cells2x (ROWT.out.later B4.out)).2⟩; clear hs4 hb4)
    | (go_at_call 58; (with_reducible refine (HSM.out _ _ _ _ _ HS34.out HS4.out).mono ?_); rintro e v5 ⟨rfl, hb5⟩; have B5 := Lib.hid (bl_step B4.out hb5); have k5 : _ ∧ _ ∧ _ ∧ _ := ⟨(cells2x (ROW2.out.later B5.out)).1, (cells2x (ROW2.out.later B5.out)).2, (cells2x (ROWT.out.later B5.out)).1, (cells2x (ROWT.out.later B5.out)).2⟩; clear hb5)
    | (go_at_call 55; (with_reducible refine (HSZ.out _ (bl_step HB2.out B5.out)).mono ?_); rintro e v6 ⟨rfl, hb6⟩; have B6 := Lib.hid (bl_step B5.out hb6); have k6 : _ ∧ _ ∧ _ ∧ _ := ⟨(cells2x (ROW2.out.later B6.out)).1, (cells2x (ROW2.out.later B6.out)).2, (cells2x (ROWT.out.later B6.out)).1, (cells2x (ROWT.out.later B6.out)).2⟩; clear hb6))
  have HBX := Lib.hid (bl_step HB2.out B6.out)
  go_wp2_with (first
    | (go_at_call 60; (with_reducible refine (HRD.out _ HBX.out).mono ?_); rintro e u1 ⟨A7, c7, rfl, _, _, hs7, hb7⟩; (have HB7 := Lib.hid (bl_alloc (bl_step HBX.out hb7) (.cells #[.int .i64 a, .slice A7 M.length c7] 81)); have HS7 := Lib.hid (hs7.later (bl_alloc (Below.refl _ _) (.cells #[.int .i64 a, .slice A7 M.length c7] 81))); have ROW7 := Lib.hid (Row.made u1 81 #[.int .i64 a, .slice A7 M.length c7]); clear hs7 hb7))
    | (go_at_call 52; (with_reducible refine (HW2.out _ _ _ HS7.out).mono ?_); rintro e u2 ⟨g8, rfl, _, hr8, hb8⟩; (have HB8 := Lib.hid (bl_step HB7.out hb8); have HR8 := Lib.hid hr8; have ROW8 := Lib.hid (ROW7.out.later hb8); have HS8 := Lib.hid (HS7.out.later hb8); clear hr8 hb8))
    | (go_at_call 50; (with_reducible refine (stalive_any _).mono ?_); rintro e u3 ⟨rfl, hb9⟩; (have HB9 := Lib.hid (bl_step HB8.out hb9); have HR9 := Lib.hid (HR8.out.later hb9); have HS9 := Lib.hid (HS8.out.later hb9); obtain ⟨y0, y1⟩ := cells2x (ROW8.out.later hb9); clear hb9))
    | (go_at_call 53; (with_reducible refine (HRI.out _ _ _ HS9.out).mono ?_); rintro e u4 ⟨rfl, hb10⟩; (have HB10 := Lib.hid (bl_step HB9.out hb10); have kc1 := HCW.out u4 g8 (HR9.out.later hb10); have kc2 := HCV.out u4 HB10.out; clear hb10)))
  go_ret
  exact ⟨rfl, HB10.out⟩
set_option maxRecDepth 100000 in
set_option maxHeartbeats 6400000 in
theorem stback_w1r0 {A Bd : Option Addr} {L : List MissM} {bs : List Nat} (ack : Nat) (x : Nat) (n cap nb cb : Nat) (w : World) (hn : n ≤ 60) (hL : L.length = n) (_hcap : n ≤ cap) (_hcm : cap ≤ 9223372036854775807) (hs : MSrc w A L) (hnb : nb ≤ 400) (hB : bs.length = nb) (hcb : nb ≤ cb) (hsb : Src w Bd (bts bs)) (hb : ∀ b ∈ bs, b < 256) (hk : okS x = true) (hw : rightB ack L x = true) (hr : (stRd bs x).1 ≠ 0) :
    Calls Try.prog 6 #[.agg #[.int .i64 ack, .slice A n cap], .slice Bd nb cb, .int .i64 x] w fun e w' => e = .returned (.bool true) ∧ Below w.heap.size w w' := by
  have ROW0 := Lib.hid (Row.made w 81 #[.int .i64 ack, .slice A n cap])
  have HB0 := Lib.hid (bl_alloc (Below.refl w.heap.size w) (.cells #[.int .i64 ack, .slice A n cap] 81))
  have hn60 : ¬ (60 : Int) < n := by omega
  have hnb4 : ¬ (400 : Int) < nb := by omega
  have hn60' : decide ((60 : Int) < n) = false := decide_eq_false hn60
  have hnb4' : decide ((400 : Int) < nb) = false := decide_eq_false hnb4
  have HW1 := Lib.hid (fun W (hb : Below w.heap.size w W) => stwrite_ok ack x n cap W hL (hs.later hb) hw)
  have HSZ := Lib.hid (fun W (hb : Below w.heap.size w W) => ssize_any ack x n cap W hL (by omega) (hs.later hb))
  rw [← st_len hw] at HSZ
  have hst := st_back hw
  have hlen : (stBytes ack L x).length ≤ 8192 := by
    have h1 := len_stBytes ack L x
    obtain ⟨_, hok, _, hl, _⟩ := rightB_parts hw
    have h2 := (bitsS_bd hok L).2
    have := (rightB_parts hw).1
    omega
  have HRD1 := Lib.hid (fun W g (hrow : Row W g 5 (bts (stBytes ack L x)).toArray) => sread_yes (A := some ⟨g, 0, none⟩) (bs := stBytes ack L x) x _ (stBytes ack L x).length W rfl hlen (Nat.le_refl _) (row_src hrow) (pack_small _) hst)
  unfold StWAns at HW1
  rw [hL] at HRD1
  have HAS := Lib.hid (fun W (hb : Below w.heap.size w W) => sas_any ack n cap W hL hn (hs.later hb))
  have HAT := Lib.hid (fun W A2 c2 (h : MSrc W A2 L) => sas_any (A := A2) ack n c2 W hL hn h)
  have HSM := Lib.hid (fun W A1 A2 c1 c2 (h1 : MSrc W A1 L) (h2 : MSrc W A2 L) => rssame_any (A := A1) (B := A2) ack ack n n c1 c2 W hL hL (by omega) h1 h2)
  rw [show eqS ack L ack L = true from by unfold eqS; rw [eqMs_refl]; simp] at HSM
  have HLL := Lib.hid hL
  generalize hsb0 : stBytes ack L x = sby at *
  obtain ⟨c0, a0, M, hrd⟩ : ∃ c a M, stRd bs x = (c, a, M) := ⟨_, _, _, rfl⟩
  rw [hrd] at hr
  simp only at hr
  have HRD := Lib.hid (fun W (hb1 : Below w.heap.size w W) => sread_err (A := Bd) (bs := bs) x nb cb W hB (by omega) hcb (st_src_later hsb hb1) hb hrd hr)
  have hne : (c0 != 0) = true := by simpa using hr
  have HW2 := Lib.hid (fun W => swrite_zero x W hk)
  have HNZ := Lib.hid hr
  clear hs hsb hb hL hB hk hw hn hnb hn60 hnb4 hrd  hst hlen hsb0
  clear hr
  go_enter Try.func6, Try.ntmps6
  go_wp2_with (first
    | (go_at_call 52; (with_reducible refine (HW1.out _ HB0.out).mono ?_); rintro e w1 ⟨g1, rfl, hg1, hr1, hb1⟩; (have HB1 := Lib.hid (bl_step HB0.out hb1); have ROW1 := Lib.hid (ROW0.out.later hb1); have HR1 := Lib.hid (HRD1.out _ _ hr1); clear hb1 hr1 hg1))
    | (go_at_call 60; (with_reducible refine HR1.out.mono ?_); rintro e w2 ⟨A2, c2, rfl, hc2, hcm2, hs2, hb2⟩; (have HB2 := Lib.hid (bl_alloc (bl_step HB1.out hb2) (.cells #[.int .i64 ack, .slice A2 n c2] 81)); have ROW2 := Lib.hid ((ROW1.out.later hb2).more (.cells #[.int .i64 ack, .slice A2 n c2] 81)); have HS2 := Lib.hid (hs2.later (bl_alloc (Below.refl _ _) (.cells #[.int .i64 ack, .slice A2 n c2] 81))); have ROWT := Lib.hid (Row.made w2 81 #[.int .i64 ack, .slice A2 n c2]); clear hb2 hs2)))
  generalize w2.alloc (.cells #[.int .i64 ack, .slice A2 n c2] 81) = W2 at *
  generalize w2.heap.size = q at *
  obtain ⟨d0, d1⟩ := cells2x ROW2.out.drawn
  obtain ⟨d2, d3⟩ := cells2x ROWT.out.drawn
  go_region_held3 (fun w' => w'.cell? ⟨w.heap.size, 0, none⟩ = some (.int .i64 ack) ∧ w'.cell? ⟨w.heap.size, 1, none⟩ = some (.slice A n cap) ∧ w'.cell? ⟨q, 0, none⟩ = some (.int .i64 ack) ∧ w'.cell? ⟨q, 1, none⟩ = some (.slice A2 n c2)) (first | assumption | exact ⟨d0, d1, d2, d3⟩ | exact k3 | exact k4 | exact k5 | exact k6 | go_keep) (first
    | (go_at_call 51; (with_reducible refine (HAS.out _ (bl_drew HB2.out)).mono ?_); rintro e v3 ⟨A3, c3, rfl, _, _, hs3, hb3⟩; have B3 := Lib.hid (show Below W2.heap.size W2 v3 from bl_step (bl_drew (Below.refl _ _)) hb3); have HS3 := Lib.hid hs3; have k3 : _ ∧ _ ∧ _ ∧ _ := ⟨(cells2x (ROW2.out.later B3.out)).1, (cells2x (ROW2.out.later B3.out)).2, (cells2x (ROWT.out.later B3.out)).1, (cells2x (ROWT.out.later B3.out)).2⟩; clear hs3 hb3)
    | (go_at_call 51; (with_reducible refine (HAT.out _ _ _ (HS2.out.later B3.out)).mono ?_); rintro e v4 ⟨A4, c4, rfl, _, _, hs4, hb4⟩; have B4 := Lib.hid (bl_step B3.out hb4); have HS4 := Lib.hid hs4; have HS34 := Lib.hid (HS3.out.later hb4); have k4 : _ ∧ _ ∧ _ ∧ _ := ⟨(cells2x (ROW2.out.later B4.out)).1, (cells2x (ROW2.out.later B4.out)).2, (cells2x (ROWT.out.later B4.out)).1, (cells2x (ROWT.out.later B4.out)).2⟩; clear hs4 hb4)
    | (go_at_call 58; (with_reducible refine (HSM.out _ _ _ _ _ HS34.out HS4.out).mono ?_); rintro e v5 ⟨rfl, hb5⟩; have B5 := Lib.hid (bl_step B4.out hb5); have k5 : _ ∧ _ ∧ _ ∧ _ := ⟨(cells2x (ROW2.out.later B5.out)).1, (cells2x (ROW2.out.later B5.out)).2, (cells2x (ROWT.out.later B5.out)).1, (cells2x (ROWT.out.later B5.out)).2⟩; clear hb5)
    | (go_at_call 55; (with_reducible refine (HSZ.out _ (bl_step HB2.out B5.out)).mono ?_); rintro e v6 ⟨rfl, hb6⟩; have B6 := Lib.hid (bl_step B5.out hb6); have k6 : _ ∧ _ ∧ _ ∧ _ := ⟨(cells2x (ROW2.out.later B6.out)).1, (cells2x (ROW2.out.later B6.out)).2, (cells2x (ROWT.out.later B6.out)).1, (cells2x (ROWT.out.later B6.out)).2⟩; clear hb6))
  have HBX := Lib.hid (bl_step HB2.out B6.out)
  go_wp2_with (first
    | (go_at_call 60; (with_reducible refine (HRD.out _ HBX.out).mono ?_); rintro e u1 ⟨rfl, hb7⟩; (have HB7 := Lib.hid (bl_alloc (bl_step HBX.out hb7) (.cells #[.int .i64 0, .slice none 0 0] 81)); clear hb7))
    | (go_at_call 52; (with_reducible refine (HW2.out _).mono ?_); rintro e u2 ⟨g8, n8, rfl, hb8⟩; (have HB8 := Lib.hid (bl_step HB7.out hb8); clear hb8))
    | (go_at_call 50; (with_reducible refine (stalive_any _).mono ?_); rintro e u3 ⟨rfl, hb9⟩; (have HB9 := Lib.hid (bl_step HB8.out hb9); clear hb9)))
  go_ret
  exact ⟨rfl, HB9.out⟩
set_option maxRecDepth 100000 in
set_option maxHeartbeats 6400000 in
theorem stback_w0r1 {A Bd : Option Addr} {L : List MissM} {bs : List Nat} (ack : Int) (x : Nat) (n cap nb cb : Nat) (w : World) (hn : n ≤ 60) (hL : L.length = n) (_hcap : n ≤ cap) (_hcm : cap ≤ 9223372036854775807) (hs : MSrc w A L) (hnb : nb ≤ 400) (hB : bs.length = nb) (hcb : nb ≤ cb) (hsb : Src w Bd (bts bs)) (hb : ∀ b ∈ bs, b < 256) (hk : okS x = true) (hw : rightB ack L x = false) (hr : (stRd bs x).1 = 0) :
    Calls Try.prog 6 #[.agg #[.int .i64 ack, .slice A n cap], .slice Bd nb cb, .int .i64 x] w fun e w' => e = .returned (.bool true) ∧ Below w.heap.size w w' := by
  have ROW0 := Lib.hid (Row.made w 81 #[.int .i64 ack, .slice A n cap])
  have HB0 := Lib.hid (bl_alloc (Below.refl w.heap.size w) (.cells #[.int .i64 ack, .slice A n cap] 81))
  have hn60 : ¬ (60 : Int) < n := by omega
  have hnb4 : ¬ (400 : Int) < nb := by omega
  have hn60' : decide ((60 : Int) < n) = false := decide_eq_false hn60
  have hnb4' : decide ((400 : Int) < nb) = false := decide_eq_false hnb4
  have HW1 := Lib.hid (fun W (hb : Below w.heap.size w W) => stwrite_bad ack x n cap W hL (by omega) (hs.later hb) hw)
  rw [hk] at HW1
  simp only [if_true] at HW1
  obtain ⟨c0, a0, M, hrd⟩ : ∃ c a M, stRd bs x = (c, a, M) := ⟨_, _, _, rfl⟩
  rw [hrd] at hr
  simp only at hr
  subst hr
  obtain ⟨hm1, hm2⟩ := st_write hb hrd
  obtain ⟨a, rfl⟩ : ∃ a : Nat, a0 = a := ⟨a0.toNat, by have := ((okn_nat (rightB_parts hm1).1).1 (rightB_parts hm1).2.2.1).1; omega⟩
  have HRD := Lib.hid (fun W (hb1 : Below w.heap.size w W) => sread_yes (A := Bd) (bs := bs) x nb cb W hB (by omega) hcb (st_src_later hsb hb1) hb hrd)
  have HW2 := Lib.hid (fun W A2 c2 (h : MSrc W A2 M) => stwrite_ok (A := A2) (L := M) a x M.length c2 W rfl h hm1)
  have HRI := Lib.hid (fun W A2 c2 (h : MSrc W A2 M) => sright_any (A := A2) (L := M) a x M.length c2 W rfl (by have := (rightB_parts hm1).2.2.2.1; omega) h)
  rw [hm1] at HRI
  unfold StWAns at HW2
  rw [hm2, hB] at HW2
  have HCV := Lib.hid (fun W (hb1 : Below w.heap.size w W) => conv_src nb cb hB (st_src_later hsb hb1) hb)
  have HCW := Lib.hid (fun W g (hrow : Row W g 5 (bts bs).toArray) => conv_str (c := bs.length) hrow hb)
  rw [hB] at HCW
  clear hs hsb hb hL hB hk hw hn hnb hn60 hnb4 hrd 
  clear hm1 hm2
  go_enter Try.func6, Try.ntmps6
  go_wp2_with (first
    | (go_at_call 52; (with_reducible refine (HW1.out _ HB0.out).mono ?_); rintro e w1 ⟨rfl, hb1⟩; (have HBX := Lib.hid (bl_step HB0.out hb1); clear hb1))
    | (go_at_call 60; (with_reducible refine (HRD.out _ HBX.out).mono ?_); rintro e u1 ⟨A7, c7, rfl, _, _, hs7, hb7⟩; (have HB7 := Lib.hid (bl_alloc (bl_step HBX.out hb7) (.cells #[.int .i64 a, .slice A7 M.length c7] 81)); have HS7 := Lib.hid (hs7.later (bl_alloc (Below.refl _ _) (.cells #[.int .i64 a, .slice A7 M.length c7] 81))); have ROW7 := Lib.hid (Row.made u1 81 #[.int .i64 a, .slice A7 M.length c7]); clear hs7 hb7))
    | (go_at_call 52; (with_reducible refine (HW2.out _ _ _ HS7.out).mono ?_); rintro e u2 ⟨g8, rfl, _, hr8, hb8⟩; (have HB8 := Lib.hid (bl_step HB7.out hb8); have HR8 := Lib.hid hr8; have ROW8 := Lib.hid (ROW7.out.later hb8); have HS8 := Lib.hid (HS7.out.later hb8); clear hr8 hb8))
    | (go_at_call 50; (with_reducible refine (stalive_any _).mono ?_); rintro e u3 ⟨rfl, hb9⟩; (have HB9 := Lib.hid (bl_step HB8.out hb9); have HR9 := Lib.hid (HR8.out.later hb9); have HS9 := Lib.hid (HS8.out.later hb9); obtain ⟨y0, y1⟩ := cells2x (ROW8.out.later hb9); clear hb9))
    | (go_at_call 53; (with_reducible refine (HRI.out _ _ _ HS9.out).mono ?_); rintro e u4 ⟨rfl, hb10⟩; (have HB10 := Lib.hid (bl_step HB9.out hb10); have kc1 := HCW.out u4 g8 (HR9.out.later hb10); have kc2 := HCV.out u4 HB10.out; clear hb10)))
  go_ret
  exact ⟨rfl, HB10.out⟩
set_option maxRecDepth 100000 in
set_option maxHeartbeats 6400000 in
theorem stback_w0r0 {A Bd : Option Addr} {L : List MissM} {bs : List Nat} (ack : Int) (x : Nat) (n cap nb cb : Nat) (w : World) (hn : n ≤ 60) (hL : L.length = n) (_hcap : n ≤ cap) (_hcm : cap ≤ 9223372036854775807) (hs : MSrc w A L) (hnb : nb ≤ 400) (hB : bs.length = nb) (hcb : nb ≤ cb) (hsb : Src w Bd (bts bs)) (hb : ∀ b ∈ bs, b < 256) (hk : okS x = true) (hw : rightB ack L x = false) (hr : (stRd bs x).1 ≠ 0) :
    Calls Try.prog 6 #[.agg #[.int .i64 ack, .slice A n cap], .slice Bd nb cb, .int .i64 x] w fun e w' => e = .returned (.bool true) ∧ Below w.heap.size w w' := by
  have ROW0 := Lib.hid (Row.made w 81 #[.int .i64 ack, .slice A n cap])
  have HB0 := Lib.hid (bl_alloc (Below.refl w.heap.size w) (.cells #[.int .i64 ack, .slice A n cap] 81))
  have hn60 : ¬ (60 : Int) < n := by omega
  have hnb4 : ¬ (400 : Int) < nb := by omega
  have hn60' : decide ((60 : Int) < n) = false := decide_eq_false hn60
  have hnb4' : decide ((400 : Int) < nb) = false := decide_eq_false hnb4
  have HW1 := Lib.hid (fun W (hb : Below w.heap.size w W) => stwrite_bad ack x n cap W hL (by omega) (hs.later hb) hw)
  rw [hk] at HW1
  simp only [if_true] at HW1
  obtain ⟨c0, a0, M, hrd⟩ : ∃ c a M, stRd bs x = (c, a, M) := ⟨_, _, _, rfl⟩
  rw [hrd] at hr
  simp only at hr
  have HRD := Lib.hid (fun W (hb1 : Below w.heap.size w W) => sread_err (A := Bd) (bs := bs) x nb cb W hB (by omega) hcb (st_src_later hsb hb1) hb hrd hr)
  have hne : (c0 != 0) = true := by simpa using hr
  have HW2 := Lib.hid (fun W => swrite_zero x W hk)
  have HNZ := Lib.hid hr
  clear hs hsb hb hL hB hk hw hn hnb hn60 hnb4 hrd 
  clear hr
  go_enter Try.func6, Try.ntmps6
  go_wp2_with (first
    | (go_at_call 52; (with_reducible refine (HW1.out _ HB0.out).mono ?_); rintro e w1 ⟨rfl, hb1⟩; (have HBX := Lib.hid (bl_step HB0.out hb1); clear hb1))
    | (go_at_call 60; (with_reducible refine (HRD.out _ HBX.out).mono ?_); rintro e u1 ⟨rfl, hb7⟩; (have HB7 := Lib.hid (bl_alloc (bl_step HBX.out hb7) (.cells #[.int .i64 0, .slice none 0 0] 81)); clear hb7))
    | (go_at_call 52; (with_reducible refine (HW2.out _).mono ?_); rintro e u2 ⟨g8, n8, rfl, hb8⟩; (have HB8 := Lib.hid (bl_step HB7.out hb8); clear hb8))
    | (go_at_call 50; (with_reducible refine (stalive_any _).mono ?_); rintro e u3 ⟨rfl, hb9⟩; (have HB9 := Lib.hid (bl_step HB8.out hb9); clear hb9)))
  go_ret
  exact ⟨rfl, HB9.out⟩
set_option maxRecDepth 100000 in
set_option maxHeartbeats 800000 in
theorem stback_long {A Bd : Option Addr} (ack x : Int) (n cap nb cb : Nat) (w : World) (hn : n ≤ 9223372036854775807) (hnb : nb ≤ 9223372036854775807) (h : 60 < n ∨ (n ≤ 60 ∧ 400 < nb)) :
    Calls Try.prog 6 #[.agg #[.int .i64 ack, .slice A n cap], .slice Bd nb cb, .int .i64 x] w fun e w' => e = .returned (.bool true) ∧ Below w.heap.size w w' := by
  rcases h with h | ⟨h, h2⟩
  · have h1 : decide ((60 : Int) < n) = true := decide_eq_true (by omega)
    have h1' : decide (60 < n) = true := decide_eq_true (by omega)
    clear h
    go_enter Try.func6, Try.ntmps6
    go_wp2_with (go_at_call 50; (with_reducible refine (stalive_any _).mono ?_); rintro e u3 ⟨rfl, hb9⟩)
    go_ret
    exact ⟨rfl, bl_step (bl_alloc (Below.refl _ _) _) hb9⟩
  · have h1 : decide ((60 : Int) < n) = false := decide_eq_false (by omega)
    have h1' : decide (60 < n) = false := decide_eq_false (by omega)
    have h3 : decide ((400 : Int) < nb) = true := decide_eq_true (by omega)
    have h3' : decide (400 < nb) = true := decide_eq_true (by omega)
    clear h h2
    go_enter Try.func6, Try.ntmps6
    go_wp2_with (go_at_call 50; (with_reducible refine (stalive_any _).mono ?_); rintro e u3 ⟨rfl, hb9⟩)
    go_ret
    exact ⟨rfl, bl_step (bl_alloc (Below.refl _ _) _) hb9⟩
theorem stback_all {A Bd : Option Addr} {L : List MissM} {bs : List Nat} (ack x : Int) (cap cb : Nat) (w : World) (hcap : L.length ≤ cap) (hcm : cap ≤ 9223372036854775807) (hs : MSrc w A L) (hcb : bs.length ≤ cb) (hcbm : cb ≤ 9223372036854775807) (hsb : Src w Bd (bts bs)) (hb : ∀ b ∈ bs, b < 256) :
    Calls Try.prog 6 #[.agg #[.int .i64 ack, .slice A L.length cap], .slice Bd bs.length cb, .int .i64 x] w fun e w' => e = .returned (.bool true) ∧ Below w.heap.size w w' := by
  by_cases h1 : 60 < L.length
  · exact stback_long ack x L.length cap bs.length cb w (by omega) (by omega) (.inl h1)
  · by_cases h2 : 400 < bs.length
    · exact stback_long ack x L.length cap bs.length cb w (by omega) (by omega) (.inr ⟨by omega, h2⟩)
    · cases hk : okS x
      · exact stback_kind ack x L.length cap bs.length cb w (by omega) rfl hcap hcm hs (by omega) rfl hcb hsb hb hk
      · obtain ⟨X, rfl⟩ : ∃ X : Nat, x = X := ⟨x.toNat, by have := okS_nat hk; omega⟩
        cases hw : rightB ack L (X : Int)
        · by_cases hr : (stRd bs X).1 = 0
          · exact stback_w0r1 ack X L.length cap bs.length cb w (by omega) rfl hcap hcm hs (by omega) rfl hcb hsb hb hk hw hr
          · exact stback_w0r0 ack X L.length cap bs.length cb w (by omega) rfl hcap hcm hs (by omega) rfl hcb hsb hb hk hw hr
        · obtain ⟨a, rfl⟩ : ∃ a : Nat, ack = a := ⟨ack.toNat, by have := ((okn_nat (rightB_parts hw).1).1 (rightB_parts hw).2.2.1).1; omega⟩
          by_cases hr : (stRd bs X).1 = 0
          · exact stback_w1r1 a X L.length cap bs.length cb w (by omega) rfl hcap hcm hs (by omega) rfl hcb hsb hb hk hw hr
          · exact stback_w1r0 a X L.length cap bs.length cb w (by omega) rfl hcap hcm hs (by omega) rfl hcb hsb hb hk hw hr
end Go.Proofs.Ytbdjgdkafbkdbaa
namespace Go.Proofs.Ytbdjgdkafbkdbaa
open Go.RowKit

theorem okS_two {x : Int} (h : okS x = true) : ∃ n : Nat, x = n ∧ (n = 10 ∨ n = 16) := by
  rcases okS_nat h with rfl | rfl
  · exact ⟨10, rfl, .inl rfl⟩
  · exact ⟨16, rfl, .inr rfl⟩
theorem right_nats {ack x : Int} {L : List MissM} (h : rightB ack L x = true) : ∃ a n : Nat, ack = a ∧ x = n ∧ L.length ≤ 32 := by
  have h2 := h
  unfold rightB at h2
  simp only [Bool.and_eq_true, decide_eq_true_eq] at h2
  obtain ⟨n, rfl, hn⟩ := okS_two h2.1.1.1
  have h3 := ((okn_nat hn).1 h2.1.1.2).1
  exact ⟨ack.toNat, n, by omega, rfl, h2.1.2⟩
set_option maxRecDepth 100000 in
set_option maxHeartbeats 1600000 in
theorem srsize_any {A : Option Addr} {L : List MissM} (ack x : Int) (n cap : Nat) (w : World) (hL : L.length = n) (hn : n ≤ 9223372036854775807) (hs : MSrc w A L) :
    Calls Try.prog 56 #[.agg #[.int .i64 ack, .slice A n cap], .int .i64 x] w fun e w' => e = .returned (.int .i64 (statusF ack L x)) ∧ Below w.heap.size w w' := by
  have HR := Lib.hid (fun W hb => rsright_any ack x n cap W hL hn (hs.later (v := W) hb))
  have ROW := Lib.hid (Row.made w 84 #[.int .i64 ack, .slice A n cap])
  have HB0 := Lib.hid (bl_alloc (Below.refl w.heap.size w) (.cells #[.int .i64 ack, .slice A n cap] 84))
  obtain ⟨d0, d1⟩ := cells2x ROW.out
  cases hr : rightB ack L x
  · rw [hr] at HR
    have HF := Lib.hid (show statusF ack L x = 0 by unfold statusF; rw [hr]; rfl)
    clear hr hs hL
    go_enter Try.func56, Try.ntmps56
    go_wp2_with (go_at_call 54; (with_reducible refine (HR.out _ HB0.out).mono ?_); rintro e w1 ⟨rfl, hb1⟩)
    go_ret
    exact ⟨by rw [HF.out]; rfl, bl_step HB0.out hb1⟩
  · obtain ⟨a, xn, rfl, rfl, hl⟩ := right_nats hr
    have hlen := len_stBytes (a : Int) L xn
    have HF := Lib.hid (show statusF a L xn = ((stBytes a L xn).length : Int) by unfold statusF; rw [hr, hlen]; rfl)
    have HW := Lib.hid (fun W hb => stref_write (A := A) a xn n cap W hL (hs.later (v := W) hb) hr)
    rw [hr] at HR
    clear hr hs hL hlen
    generalize stBytes a L xn = out at *
    go_enter Try.func56, Try.ntmps56
    go_wp2_with (first
      | (go_at_call 54; (with_reducible refine (HR.out _ HB0.out).mono ?_); rintro e w1 ⟨rfl, hb1⟩; (have HB1 := Lib.hid (bl_step HB0.out hb1); obtain ⟨k0, k1⟩ := cells2x (ROW.out.later hb1); clear hb1))
      | (go_at_call 59; (with_reducible refine (HW.out _ HB1.out).mono ?_); rintro e w2 ⟨v2, rfl, ho, hb2⟩; obtain ⟨Av, cv, rfl, hcv⟩ := ho.form; clear ho hcv))
    go_ret
    exact ⟨by rw [HF.out]; rfl, bl_step HB1.out hb2⟩
end Go.Proofs.Ytbdjgdkafbkdbaa
namespace Go.Proofs.Ytbdjgdkafbkdbaa
open Go.RowKit

set_option maxRecDepth 100000 in
set_option maxHeartbeats 6400000 in
theorem stw_kind {A B : Option Addr} {L M : List MissM} (ack bck : Int) (x : Int) (n m cap dap : Nat) (w : World) (hL : L.length = n) (hM : M.length = m) (hn : n ≤ 60) (hm : m ≤ 60) (hs : MSrc w A L) (ht : MSrc w B M) (hx : okS x = false) :
    Calls Try.prog 5 #[.agg #[.int .i64 ack, .slice A n cap], .agg #[.int .i64 bck, .slice B m dap], .int .i64 x] w fun e w' => e = .returned (.bool true) ∧ Below w.heap.size w w' := by
  have HW := Lib.hid (fun W (hb : Below w.heap.size w W) => stwrite_bad ack x n cap W hL (by omega) (hs.later hb) (by unfold rightB; rw [hx]; rfl))
  rw [hx] at HW
  have hx1 : (x != 10) = true := by
    rcases Bool.eq_false_or_eq_true (x != 10) with h | h
    · exact h
    · exfalso; simp at h; subst h; exact absurd hx (by decide)
  have hx2 : (x != 16) = true := by
    rcases Bool.eq_false_or_eq_true (x != 16) with h | h
    · exact h
    · exfalso; simp at h; subst h; exact absurd hx (by decide)
  clear hx
  generalize hr : rightB ack L x = rr
  have HAS := Lib.hid (fun W (hb : Below w.heap.size w W) => sas_any ack n cap W hL hn (hs.later hb))
  have HAT := Lib.hid (fun W (hb : Below w.heap.size w W) => sas_any bck m dap W hM hm (ht.later hb))
  have HRI := Lib.hid (fun W (hb : Below w.heap.size w W) => sright_any ack x n cap W hL (by omega) (hs.later hb))
  have HRR := Lib.hid (fun W A1 c1 (h : MSrc W A1 L) => rsright_any (A := A1) ack x n c1 W hL (by omega) h)
  have HSZ := Lib.hid (fun W (hb : Below w.heap.size w W) => ssize_any ack x n cap W hL (by omega) (hs.later hb))
  have HRZ := Lib.hid (fun W A1 c1 (h : MSrc W A1 L) => srsize_any (A := A1) ack x n c1 W hL (by omega) h)
  have HSM := Lib.hid (fun W (hb : Below w.heap.size w W) => ssame_any ack bck n m cap dap W hL hM (by omega) (hs.later hb) (ht.later hb))
  have HRM := Lib.hid (fun W A1 A2 c1 c2 (h1 : MSrc W A1 L) (h2 : MSrc W A2 M) => rssame_any (A := A1) (B := A2) ack bck n m c1 c2 W hL hM (by omega) h1 h2)
  have g60 : decide ((60 : Int) < n) = false := decide_eq_false (by omega)
  have g61 : decide ((60 : Int) < m) = false := decide_eq_false (by omega)
  have g62 : decide (60 < n) = false := decide_eq_false (by omega)
  have g63 : decide (60 < m) = false := decide_eq_false (by omega)
  have RS0 := Lib.hid ((Row.made w 81 #[.int .i64 ack, .slice A n cap]).more (.cells #[.int .i64 bck, .slice B m dap] 81))
  have RT0 := Lib.hid (row_at2 (w.alloc (.cells #[.int .i64 ack, .slice A n cap] 81)) (w.heap.size + 1) 81 #[.int .i64 bck, .slice B m dap] (size_1 _ _))
  have HB0 := Lib.hid (bl_alloc (bl_alloc (Below.refl w.heap.size w) (.cells #[.int .i64 ack, .slice A n cap] 81)) (.cells #[.int .i64 bck, .slice B m dap] 81))
  clear hs ht hL hM hn hm
  rw [hr] at HRI HRR
  clear hr
  generalize statusF ack L x = zz at *
  generalize eqS ack L bck M = ee at *
  obtain ⟨d0, d1⟩ := cells2x RS0.out
  obtain ⟨d2, d3⟩ := cells2x RT0.out
  go_enter Try.func5, Try.ntmps5
  go_wp2_with (first
    | (go_at_call 51; (with_reducible refine (HAS.out _ HB0.out).mono ?_); rintro e w1 ⟨A1, c1, rfl, hc1, hcm1, hs1, hb1⟩; (have HB1 := Lib.hid (bl_alloc (bl_step HB0.out hb1) (.cells #[.int .i64 ack, .slice A1 n c1] 84)); have RS1 := Lib.hid ((RS0.out.later hb1).more (.cells #[.int .i64 ack, .slice A1 n c1] 84)); have RT1 := Lib.hid ((RT0.out.later hb1).more (.cells #[.int .i64 ack, .slice A1 n c1] 84)); have RQ1 := Lib.hid (Row.made w1 84 #[.int .i64 ack, .slice A1 n c1]); have HS1 := Lib.hid (hs1.later (bl_alloc (Below.refl _ _) (.cells #[.int .i64 ack, .slice A1 n c1] 84))); clear hs1 hb1 d0 d1 d2 d3; obtain ⟨d0, d1⟩ := cells2x RS1.out))
    | (go_at_call 52; (with_reducible refine (HW.out _ HB1.out).mono ?_); rintro e w2 ⟨rfl, hb2⟩; (have HB2 := Lib.hid (bl_step HB1.out hb2); have RS2 := Lib.hid (RS1.out.later hb2); have RT2 := Lib.hid (RT1.out.later hb2); have RQ2 := Lib.hid (RQ1.out.later hb2); have HS2 := Lib.hid (HS1.out.later hb2); clear hb2 d0 d1)))
  generalize w2 = W2 at *
  generalize w1.heap.size = q at *
  have k0 : _ ∧ _ ∧ _ ∧ _ ∧ _ ∧ _ := ⟨(cells2x (RS2.out.drawn)).1, (cells2x (RS2.out.drawn)).2, (cells2x (RT2.out.drawn)).1, (cells2x (RT2.out.drawn)).2, (cells2x (RQ2.out.drawn)).1, (cells2x (RQ2.out.drawn)).2⟩
  go_region_held3 (fun w' => w'.cell? ⟨w.heap.size, 0, none⟩ = some (.int .i64 ack) ∧ w'.cell? ⟨w.heap.size, 1, none⟩ = some (.slice A n cap) ∧ w'.cell? ⟨w.heap.size + 1, 0, none⟩ = some (.int .i64 bck) ∧ w'.cell? ⟨w.heap.size + 1, 1, none⟩ = some (.slice B m dap) ∧ w'.cell? ⟨q, 0, none⟩ = some (.int .i64 ack) ∧ w'.cell? ⟨q, 1, none⟩ = some (.slice A1 n c1)) (first | assumption | exact k0 | exact k1 | exact k2 | exact k3 | exact k4 | exact k5 | exact k6 | exact k7 | go_keep) (first
    | (go_at_call 53; (with_reducible refine (HRI.out _ (bl_drew HB2.out)).mono ?_); rintro e v1 ⟨rfl, hb1⟩; (have B1 := Lib.hid (show Below W2.heap.size W2 v1 from bl_step (bl_drew (Below.refl _ _)) hb1); have k1 : _ ∧ _ ∧ _ ∧ _ ∧ _ ∧ _ := ⟨(cells2x (RS2.out.later B1.out)).1, (cells2x (RS2.out.later B1.out)).2, (cells2x (RT2.out.later B1.out)).1, (cells2x (RT2.out.later B1.out)).2, (cells2x (RQ2.out.later B1.out)).1, (cells2x (RQ2.out.later B1.out)).2⟩; clear hb1))
    | (go_at_call 54; (with_reducible refine (HRR.out _ _ _ (HS2.out.later B1.out)).mono ?_); rintro e v2 ⟨rfl, hb2⟩; (have B2 := Lib.hid (show Below W2.heap.size W2 v2 from bl_step B1.out hb2); have k2 : _ ∧ _ ∧ _ ∧ _ ∧ _ ∧ _ := ⟨(cells2x (RS2.out.later B2.out)).1, (cells2x (RS2.out.later B2.out)).2, (cells2x (RT2.out.later B2.out)).1, (cells2x (RT2.out.later B2.out)).2, (cells2x (RQ2.out.later B2.out)).1, (cells2x (RQ2.out.later B2.out)).2⟩; clear hb2))
    | (go_at_call 55; (with_reducible refine (HSZ.out _ (bl_step HB2.out B2.out)).mono ?_); rintro e v3 ⟨rfl, hb3⟩; (have B3 := Lib.hid (show Below W2.heap.size W2 v3 from bl_step B2.out hb3); have k3 : _ ∧ _ ∧ _ ∧ _ ∧ _ ∧ _ := ⟨(cells2x (RS2.out.later B3.out)).1, (cells2x (RS2.out.later B3.out)).2, (cells2x (RT2.out.later B3.out)).1, (cells2x (RT2.out.later B3.out)).2, (cells2x (RQ2.out.later B3.out)).1, (cells2x (RQ2.out.later B3.out)).2⟩; clear hb3))
    | (go_at_call 56; (with_reducible refine (HRZ.out _ _ _ (HS2.out.later B3.out)).mono ?_); rintro e v4 ⟨rfl, hb4⟩; (have B4 := Lib.hid (show Below W2.heap.size W2 v4 from bl_step B3.out hb4); have k4 : _ ∧ _ ∧ _ ∧ _ ∧ _ ∧ _ := ⟨(cells2x (RS2.out.later B4.out)).1, (cells2x (RS2.out.later B4.out)).2, (cells2x (RT2.out.later B4.out)).1, (cells2x (RT2.out.later B4.out)).2, (cells2x (RQ2.out.later B4.out)).1, (cells2x (RQ2.out.later B4.out)).2⟩; clear hb4))
    | (go_at_call 57; (with_reducible refine (HSM.out _ (bl_step HB2.out B4.out)).mono ?_); rintro e v5 ⟨rfl, hb5⟩; (have B5 := Lib.hid (show Below W2.heap.size W2 v5 from bl_step B4.out hb5); have k5 : _ ∧ _ ∧ _ ∧ _ ∧ _ ∧ _ := ⟨(cells2x (RS2.out.later B5.out)).1, (cells2x (RS2.out.later B5.out)).2, (cells2x (RT2.out.later B5.out)).1, (cells2x (RT2.out.later B5.out)).2, (cells2x (RQ2.out.later B5.out)).1, (cells2x (RQ2.out.later B5.out)).2⟩; clear hb5))
    | (go_at_call 51; (with_reducible refine (HAT.out _ (bl_step HB2.out B5.out)).mono ?_); rintro e v6 ⟨A6, c6, rfl, _, _, hs6, hb6⟩; (have B6 := Lib.hid (show Below W2.heap.size W2 v6 from bl_step B5.out hb6); have HS6 := Lib.hid hs6; have HS26 := Lib.hid (HS2.out.later B6.out); clear hs6; have k6 : _ ∧ _ ∧ _ ∧ _ ∧ _ ∧ _ := ⟨(cells2x (RS2.out.later B6.out)).1, (cells2x (RS2.out.later B6.out)).2, (cells2x (RT2.out.later B6.out)).1, (cells2x (RT2.out.later B6.out)).2, (cells2x (RQ2.out.later B6.out)).1, (cells2x (RQ2.out.later B6.out)).2⟩; clear hb6))
    | (go_at_call 58; (with_reducible refine (HRM.out _ _ _ _ _ HS26.out HS6.out).mono ?_); rintro e v7 ⟨rfl, hb7⟩; (have B7 := Lib.hid (show Below W2.heap.size W2 v7 from bl_step B6.out hb7); have k7 : _ ∧ _ ∧ _ ∧ _ ∧ _ ∧ _ := ⟨(cells2x (RS2.out.later B7.out)).1, (cells2x (RS2.out.later B7.out)).2, (cells2x (RT2.out.later B7.out)).1, (cells2x (RT2.out.later B7.out)).2, (cells2x (RQ2.out.later B7.out)).1, (cells2x (RQ2.out.later B7.out)).2⟩; clear hb7)))
  go_wp2_with (go_at_call 50; (with_reducible refine (stalive_any _).mono ?_); rintro e v9 ⟨rfl, hb9⟩)
  go_ret
  exact ⟨ret_bool (by simp), bl_step (bl_step HB2.out B7.out) hb9⟩
end Go.Proofs.Ytbdjgdkafbkdbaa
