/-
  SpansLive: the walk.
-/
import Derived.Test.YtjonkpdjhjobfaaJSpansLive06
import Derived.Deep.DeepCutAuto
import Derived.Deep.CutBlock
import Derived.BigQuiet
namespace Go.Proofs.Ytjonkpdjhjobfaa
open Go.RowKit

section
theorem lv_len {W0 w : World} {p y : Nat} {A : Option Addr} {c N : Nat} {L : List (Int × Int)} {l : List Bool} {i : Nat} {tk : Bool} {x : Int × Int} (_ : LV W0 w p y A c N (opO (tk, x) L) l) (h : ∀ tk, (opO (tk, x) L).length ≤ i) : (opO (tk, x) L).length ≤ i := h tk
theorem span_cells2 {w : World} {g : Nat} {u v : Int} (h : Row w g 66 #[.int .i64 u, .int .i64 v]) : w.cell? ⟨g, 0, none⟩ = some (.int .i64 u) ∧ w.cell? ⟨g, 1, none⟩ = some (.int .i64 v) := ⟨h.read rfl, h.read rfl⟩
theorem lv_hasv {W0 w : World} {p y : Nat} {A : Option Addr} {c N : Nat} {L : List (Int × Int)} {l : List Bool} (h : LV W0 w p y A c N L l) (x : Int × Int) (v : Bool) (hv : (hasF x L && srightB x) = v) :
    Calls Try.prog 40 #[.pointer (some ⟨p, 0, none⟩), .agg #[.int .i64 x.1, .int .i64 x.2]] w fun e w3 => e = .returned (.bool v) ∧ Below w.heap.size w w3 := sit_has x h.sits v hv
theorem lv_touv {W0 w : World} {p y : Nat} {A : Option Addr} {c N : Nat} {L : List (Int × Int)} {l : List Bool} (h : LV W0 w p y A c N L l) (x : Int × Int) (v : Bool) (hv : (touF x L && srightB x) = v) :
    Calls Try.prog 41 #[.pointer (some ⟨p, 0, none⟩), .agg #[.int .i64 x.1, .int .i64 x.2]] w fun e w3 => e = .returned (.bool v) ∧ Below w.heap.size w w3 := sit_tou x h.sits v hv
theorem lv_five {a b c d : Prop} (h : a ∧ b) (h' : c ∧ d) : a ∧ b ∧ c ∧ d := ⟨h.1, h.2, h'.1, h'.2⟩
theorem rspan_cells2 {w : World} {g : Nat} {u v : Int} (h : Row w g 77 #[.int .i64 u, .int .i64 v]) : w.cell? ⟨g, 0, none⟩ = some (.int .i64 u) ∧ w.cell? ⟨g, 1, none⟩ = some (.int .i64 v) := ⟨h.read rfl, h.read rfl⟩
theorem op03_cells {w : World} {g : Nat} {t : Bool} {u v : Int} (h : Row w g 73 #[.bool t, .int .i64 u, .int .i64 v]) : w.cell? ⟨g, 0, none⟩ = some (.bool t) ∧ w.cell? ⟨g, 1, none⟩ = some (.int .i64 u) ∧ w.cell? ⟨g, 2, none⟩ = some (.int .i64 v) := ⟨h.read rfl, h.read rfl, h.read rfl⟩
set_option maxRecDepth 100000 in
set_option maxHeartbeats 25600000 in
theorem slives_every (A0 : Option Addr) (n0 c0 : Nat) (a b tq : Int) (l0 : List (Bool × (Int × Int))) (W : World) (hl0 : l0.length = n0) (hm0 : n0 ≤ 9223372036854775807) (hs0 : OSrc W A0 l0) :
    Calls Try.prog 4 #[.slice A0 n0 c0, .agg #[.int .i64 a, .int .i64 b], .int .i64 tq] W fun e w' => e = .returned (.bool true) ∧ Below W.heap.size W w' := by
  have HA := Lib.hid alive3_any
  have HS0 := Lib.hid hs0
  have HL0 := Lib.hid hl0
  clear hs0 hl0
  have HBX := Lib.hid (bl_alloc (Below.refl W.heap.size W) (.cells #[.int .i64 a, .int .i64 b] 66))
  have HXR := Lib.hid (Row.made W 66 #[.int .i64 a, .int .i64 b])
  go_enter Try.func4, Try.ntmps4
  go_upto_region 1 with fail
  generalize hW0 : W.alloc (.cells #[.int .i64 a, .int .i64 b] 66) = W0 at *
  generalize hCB : W.heap.size = cb at *
  go_upto_region 4 with (go_at_call 26; (with_reducible refine (new_sits _).mono ?_); rintro e w1 ⟨rfl, hs, hb⟩; (have HSI := Lib.hid hs; have HB1 := Lib.hid hb; clear hs hb))
  have HR1 := Lib.hid (Row.made w1 71 #[.slice none 0 0])
  have f0 := HR1.out.free 0
  go_upto_block 0 with fail
  have HLV : Hid (LV W0 (w1.alloc (.cells #[.slice none 0 0] 71)) W0.heap.size w1.heap.size none 0 0 [] []) := by
    obtain ⟨sv, hr⟩ := HSI.out.row
    have hlt := (Array.getElem?_eq_some_iff.1 hr).1
    exact Lib.hid ⟨HSI.out.later (bl_alloc (Below.refl _ _) _), HR1.out, World.ownsRow_nil _ _ _ _, rfl, by omega, SL.none, by omega, HB1.out.size, bl_step HB1.out (bl_alloc (Below.refl _ _) _)⟩
  have HWW : Hid (∀ V, Below W0.heap.size W0 V → Below cb W V ∧ Row V cb 66 #[.int .i64 a, .int .i64 b]) := Lib.hid (fun V hV => ⟨HBX.out.trans (hV.mono (by rw [← hCB]; exact HBX.out.size)), HXR.out.later hV⟩)
  clear HSI HB1 HR1 f0 hW0
  generalize W0.heap.size = p at HLV ⊢
  generalize w1.alloc (.cells #[.slice none 0 0] 71) = wz at *
  generalize w1.heap.size = y at *
  go_cut [10] (fun s10 wx => ∃ (wr : World) (A : Option Addr) (c N : Nat) (L : List (Int × Int)) (l : List Bool), wr = wx ∧ Hid (LV W0 wr p y A c N L l) ∧ Hid (L.length ≤ 1000))
  case first =>
    go_wp2
    go_loopw [10] (fun s10 wr => ∃ (i : Nat) (A : Option Addr) (c N : Nat) (L : List (Int × Int)) (l : List Bool), i ≤ 120 ∧ i ≤ n0 ∧ s10 = .int .i64 i ∧ Hid (LV W0 wr p y A c N L l) ∧ Hid (L.length ≤ i)) (fun s10 _ => 120 - (intOf s10).toNat)
    case atStart => exact ⟨0, none, 0, 0, [], [], by omega, by omega, rfl, HLV, Lib.hid (by simp)⟩
    case round =>
      obtain ⟨i, A, c, N, L, l, hi, hin, rfl, HX, HLi⟩ := hrel
      clear HLV
      have HWr := Lib.hid (HWW.out _ HX.out.bl).1
      by_cases hlt : i < n0 ∧ i < 120
      · obtain ⟨hlt1, hlt2⟩ := hlt
        have hi1 : (i : Int) < n0 := by omega
        have hi2 : (i : Int) < 120 := by omega
        have hi0 : (0 : Int) ≤ i := by omega
        have HI := Lib.hid (And.intro hlt1 hlt2)
        have HL1 := Lib.hid (show L.length ≤ 1000 by have := HLi.out; omega)
        obtain ⟨o, ho⟩ : ∃ o, l0[i]? = some o := ⟨_, List.getElem?_eq_getElem (by rw [HL0.out]; exact hlt1)⟩
        obtain ⟨bq, off, rfl, hq⟩ := HS0.out (by rw [HL0.out]; omega)
        obtain ⟨q0, q1, q2⟩ := hq i o ho
        have hbw : Below W.heap.size W wr := by rw [hCB]; exact HWr.out
        have z0 := kept_box hbw q0
        have z1 := kept_box hbw q1
        have z2 := kept_box hbw q2
        obtain ⟨tk, u, v⟩ := o
        simp only at z0 z1 z2
        have HOB := Lib.hid (Row.made wr 73 #[.bool tk, .int .i64 u, .int .i64 v])
        have HXo := Lib.hid (HX.out.later (bl_alloc (Below.refl _ _) (.cells #[.bool tk, .int .i64 u, .int .i64 v] 73)))
        clear ho hq q0 q1 q2 hlt1 hlt2 hi hin hbw
        go_upto_region 9 with fail
        generalize hQ : (wr.alloc (.cells #[.bool tk, .int .i64 u, .int .i64 v] 73)) = wq at *
        clear hQ
        generalize wr.heap.size = oo at *
        clear z0 z1 z2
        obtain ⟨d0, d1, d2⟩ := op03_cells HOB.out
        by_cases hlong : 3000 < v ∧ v ≤ 65536
        · obtain ⟨g1, g2⟩ := hlong
          go_wp2_with (go_at_call 27; (with_reducible refine (HA.out _).mono ?_); rintro e w3 ⟨rfl, hb⟩; (have HB9 := Lib.hid hb; clear hb))
          go_ret
          exact ⟨rfl, by have h9 := (HWW.out _ HXo.out.bl).1; rw [← hCB] at h9; exact bl_step h9 HB9.out⟩
        · have hx2 : v ≤ 3000 ∨ 65536 < v := by omega
          have HADD := Lib.hid (lv_add HXo.out (u, v) hx2 HL1.out)
          have HTAK := Lib.hid (lv_take HXo.out (u, v) hx2 HL1.out)
          have HLN := Lib.hid (fun tk => show (opO (tk, (u, v)) L).length ≤ i + 1 from Nat.le_trans (opO_len HXo.out.sl.1) (by have := HLi.out; omega))
          simp only at HADD HTAK
          go_upto_region 11 with fail
          all_goals
            cases tk
            all_goals
              go_upto_region 16 with (first
                | (go_at_call 29; (with_reducible refine HADD.out.mono ?_); rintro e w2 ⟨rfl, hry, hks, hch⟩; (have HCH := Lib.hid (hch w2 (Below.refl _ _)); have HO2 := Lib.hid (hks _ _ _ (by decide) HOB.out); have ry := hry.read (i := 0) rfl; clear hry hks hch d0 d1 d2; obtain ⟨d0, d1, d2⟩ := op03_cells HO2.out))
                | (go_at_call 28; (with_reducible refine HTAK.out.mono ?_); rintro e w2 ⟨rfl, hry, hks, hch⟩; (have HCH := Lib.hid (hch w2 (Below.refl _ _)); have HO2 := Lib.hid (hks _ _ _ (by decide) HOB.out); have ry := hry.read (i := 0) rfl; clear hry hks hch d0 d1 d2; obtain ⟨d0, d1, d2⟩ := op03_cells HO2.out))
                | (go_at_call 30; (with_reducible refine HCH.out.mono ?_); rintro e w3 ⟨A2, c2, N2, l2, rfl, hr3, hlv⟩; (have HX3 := Lib.hid hlv; have f3 := hr3.free 0; have c3 := hr3.read (i := 0) rfl; clear hr3 hlv ry d0 d1 d2)))
              clear f3 c3
              generalize w3.setCell ⟨y, 0, none⟩ (.slice A2 N2 c2) = wy at *
              clear HXo HX HWr HOB HADD HTAK HCH HO2
              have HXd := Lib.hid (HX3.out.later (bl_drew (Below.refl _ _)))
              have HL3 := Lib.hid (lv_len HX3.out HLN.out)
              have HN1 := Lib.hid (lv_count HXd.out (Nat.le_trans HL3.out (by have := HI.out.2; omega)))
              have k0 : wy.drew.cell? ⟨y, 0, none⟩ = some (.slice A2 N2 c2) := HXd.out.row.read rfl
              go_wp2
              go_region_held3 (fun w' => w'.cell? ⟨y, 0, none⟩ = some (.slice A2 N2 c2)) (first | with_reducible exact k0 | with_reducible exact k3 | with_reducible exact k4 | go_keep)
                (first
                  | (go_at_call 31; (with_reducible refine HN1.out.mono ?_); rintro e w3 ⟨rfl, hb3, hc3⟩; (have HN2 := Lib.hid (hc3 w3 (Below.refl _ _)); have HX4 := Lib.hid (HXd.out.later hb3); have k3 : w3.cell? ⟨y, 0, none⟩ = some (.slice A2 N2 c2) := HX4.out.row.read rfl; clear hb3 hc3))
                  | (go_at_call 32; (with_reducible refine HN2.out.mono ?_); rintro e w4 ⟨rfl, hb4⟩; (have HX5 := Lib.hid (HX4.out.later hb4); have k4 : w4.cell? ⟨y, 0, none⟩ = some (.slice A2 N2 c2) := HX5.out.row.read rfl; clear hb4)))
              go_wp2
              go_roundw
              case rel => exact ⟨i + 1, A2, c2, N2, _, l2, by have := HI.out.2; omega, by have := HI.out.1; omega, by go_num, HX5, HL3⟩
              case measure => have := HI.out.2; simp [intOf]; omega
      · rcases Nat.lt_or_ge i n0 with hc | hc
        all_goals
          first
            | (have hi1 : (i : Int) < n0 := (by omega); have hi2 : ¬ (i : Int) < 120 := (by omega))
            | (have hi1 : ¬ (i : Int) < n0 := (by omega))
          have HI2 := Lib.hid hi
          clear hlt hc hi hin
          go_wp2
          go_meet
          exact ⟨_, A, c, N, L, l, rfl, HX, Lib.hid (by have := HLi.out; have := HI2.out; omega)⟩
  case rest =>
    obtain ⟨wr, A, c, N, L, l, hwr, HX, HL1⟩ := hcut
    subst hwr
    obtain ⟨x0, x1⟩ := span_cells2 ((HWW.out _ HX.out.bl).2)
    go_upto_region 18 with fail
    go_cut [108] (fun s108 wx => ∃ wy : World, wy = wx ∧ (s108 = .bool true ∨ (s108 = .bool false ∧ (tq ≤ 4000 ∨ 65536 < tq) ∧ (b ≤ 4000 ∨ 65536 < b))) ∧ Hid (LV W0 wy p y A c N L l))
    case first =>
      by_cases hb1 : 4000 < tq ∧ tq ≤ 65536
      · obtain ⟨g1, g2⟩ := hb1
        go_wp2
        go_meet
        exact ⟨_, rfl, .inl rfl, HX⟩
      · have hq : tq ≤ 4000 ∨ 65536 < tq := by omega
        by_cases hb2 : 4000 < b ∧ b ≤ 65536
        · obtain ⟨g3, g4⟩ := hb2
          rcases hq with g1 | g1
          all_goals
            first
              | (have g2 : ¬ 4000 < tq := (by omega))
              | (have g2 : ¬ tq ≤ 65536 := (by omega); have g5 : 4000 < tq := (by omega))
            clear hb1
            go_wp2
            go_meet
            exact ⟨_, rfl, .inl rfl, HX⟩
        · have hq2 : b ≤ 4000 ∨ 65536 < b := by omega
          have HQ := Lib.hid (And.intro hq hq2)
          clear hb1 hb2
          rcases hq with g1 | g1
          all_goals rcases hq2 with g3 | g3
          all_goals
            first
              | (have g2 : ¬ 4000 < tq := (by omega))
              | (have g2 : ¬ tq ≤ 65536 := (by omega); have g5 : 4000 < tq := (by omega))
            first
              | (have g4 : ¬ 4000 < b := (by omega))
              | (have g4 : ¬ b ≤ 65536 := (by omega); have g6 : 4000 < b := (by omega))
            go_wp2
            go_meet
            exact ⟨_, rfl, .inr ⟨rfl, HQ.out.1, HQ.out.2⟩, HX⟩
    case rest =>
     obtain ⟨wy, hwy, hs, HXy⟩ := hcut
     subst hwy
     rcases hs with rfl | ⟨rfl, hq, hq2⟩
     · go_wp2_with (go_at_call 27; (with_reducible refine (HA.out _).mono ?_); rintro e w3 ⟨rfl, hb⟩; (have HB9 := Lib.hid hb; clear hb))
       go_ret
       exact ⟨rfl, by have h9 := (HWW.out _ HXy.out.bl).1; rw [← hCB] at h9; exact bl_step h9 HB9.out⟩
     ·
      clear HX x0 x1
      obtain ⟨hw3, hrx⟩ := HWW.out _ HXy.out.bl
      obtain ⟨x0, x1⟩ := span_cells2 hrx
      obtain ⟨G, hGl, hG1, hG2⟩ := lv_gaps HXy.out HL1.out tq hq
      have HG1 := Lib.hid hG1
      have HG2 := Lib.hid hG2
      have HGL := Lib.hid hGl
      have HWr := Lib.hid hw3
      have HXR2 := Lib.hid hrx
      clear hG1 hG2 hGl hw3 hrx hq hq2
      have HWF := Lib.hid (fun V (hV : Below wy.heap.size wy V) => show Below W.heap.size W V from by have h9 := HWr.out; rw [← hCB] at h9; exact bl_step h9 hV)
      have HRR := Lib.hid (fun V => refright_any (a, b) V)
      have HRI := Lib.hid (fun V => right_any (a, b) V)
      have HZA := Lib.hid (fun V => add_nil (a, b) V)
      have HZT := Lib.hid (fun V => take_nil (a, b) V)
      have HZH := Lib.hid (fun V => has_nil (a, b) V)
      have HZU := Lib.hid (fun V => tou_nil (a, b) V)
      obtain ⟨rb, hrb⟩ : ∃ rb, srightB (a, b) = rb := ⟨_, rfl⟩
      rw [hrb] at HRR HRI
      have HRB := Lib.hid hrb
      unfold spv at HRR HRI HZA HZT HZH HZU
      clear hrb
      have HYB := Lib.hid (bl_alloc (Below.refl wy.heap.size wy) (.cells #[.int .i64 a, .int .i64 b] 77))
      have HYR := Lib.hid (Row.made wy 77 #[.int .i64 a, .int .i64 b])
      obtain ⟨v0, v1⟩ := rspan_cells2 HYR.out
      have cy := HXy.out.row.read (i := 0) rfl
      have HQ19 := Lib.hid (Below.refl (wy.alloc (.cells #[.int .i64 a, .int .i64 b] 77)).heap.size (wy.alloc (.cells #[.int .i64 a, .int .i64 b] 77)))
      go_upto_if 116 with (go_at_call 33; (with_reducible refine (HRR.out _).mono ?_); rintro e w20 ⟨rfl, hb⟩; (have HQ20 := Lib.hid (bl_step HQ19.out hb); have HB20 := Lib.hid (bl_step HYB.out HQ20.out); clear hb cy x0 x1 v0 v1; have cy := (HXy.out.later HB20.out).row.read (i := 0) rfl; obtain ⟨x0, x1⟩ := span_cells2 (HXR2.out.later HB20.out); obtain ⟨v0, v1⟩ := rspan_cells2 (HYR.out.later HQ20.out)))
      go_cut [15, 16] (fun s15 s16 wx => ∃ (wq : World) (hv tv : Bool), wq = wx ∧ s15 = .bool hv ∧ s16 = .bool tv ∧ Hid (Below (wy.alloc (.cells #[.int .i64 a, .int .i64 b] 77)).heap.size (wy.alloc (.cells #[.int .i64 a, .int .i64 b] 77)) wq) ∧ Hid ((hasF (a, b) L && srightB (a, b)) = hv) ∧ Hid ((touF (a, b) L && srightB (a, b)) = tv))
      case first =>
        cases rb
        · go_wp2
          go_meet
          exact ⟨_, false, false, rfl, rfl, rfl, HQ20, Lib.hid (by rw [HRB.out, Bool.and_false]), Lib.hid (by rw [HRB.out, Bool.and_false])⟩
        · obtain ⟨hr1, hr2, hr3⟩ := rightB_iff.1 HRB.out
          simp only at hr1 hr2 hr3
          obtain ⟨a, rfl⟩ := Int.eq_ofNat_of_zero_le hr1
          obtain ⟨b, rfl⟩ := Int.eq_ofNat_of_zero_le (show (0 : Int) ≤ b by omega)
          have HAB := Lib.hid (show a < b ∧ b ≤ 65536 by omega)
          clear hr1 hr2 hr3
          have hab := HAB.out.1
          have hb6 := HAB.out.2
          have hwr : IntKind.i64.wrap ((b : Int) - (a : Int)) = (b : Int) - (a : Int) := by rw [IntKind.wrap_i64]; omega
          have HXd := Lib.hid (HXy.out.later (bl_step HB20.out (bl_drew (Below.refl _ _))))
          have HQd := Lib.hid (bl_step HQ20.out (bl_drew (Below.refl _ _)))
          have k0 : w20.drew.cell? ⟨y, 0, none⟩ = some (.slice A N c) ∧ w20.drew.cell? ⟨wy.heap.size, 0, none⟩ = some (.int .i64 a) ∧ w20.drew.cell? ⟨wy.heap.size, 1, none⟩ = some (.int .i64 b) := ⟨HXd.out.row.read rfl, rspan_cells2 (HYR.out.later HQd.out)⟩
          clear cy x0 x1 v0 v1
          go_wp2
          go_region_held3 (fun w' => w'.cell? ⟨y, 0, none⟩ = some (.slice A N c) ∧ w'.cell? ⟨wy.heap.size, 0, none⟩ = some (.int .i64 a) ∧ w'.cell? ⟨wy.heap.size, 1, none⟩ = some (.int .i64 b)) (first | with_reducible exact k0 | with_reducible exact k3 | with_reducible exact k4 | go_keep)
            (first
              | (go_at_call 32; (with_reducible refine (lv_of HXd.out a b (Nat.le_of_lt HAB.out.1) HAB.out.2).mono ?_); rintro e w3 ⟨rfl, hb3⟩; (have HX4 := Lib.hid (HXd.out.later hb3); have HQ4 := Lib.hid (bl_step HQd.out hb3); have k3 : w3.cell? ⟨y, 0, none⟩ = some (.slice A N c) ∧ w3.cell? ⟨wy.heap.size, 0, none⟩ = some (.int .i64 a) ∧ w3.cell? ⟨wy.heap.size, 1, none⟩ = some (.int .i64 b) := ⟨HX4.out.row.read rfl, rspan_cells2 (HYR.out.later HQ4.out)⟩; clear hb3))
              | (go_at_call 32; (with_reducible refine (lv_of HX4.out a b (Nat.le_of_lt HAB.out.1) HAB.out.2).mono ?_); rintro e w4 ⟨rfl, hb4⟩; (have HX5 := Lib.hid (HX4.out.later hb4); have HQ5 := Lib.hid (bl_step HQ4.out hb4); have k4 : w4.cell? ⟨y, 0, none⟩ = some (.slice A N c) ∧ w4.cell? ⟨wy.heap.size, 0, none⟩ = some (.int .i64 a) ∧ w4.cell? ⟨wy.heap.size, 1, none⟩ = some (.int .i64 b) := ⟨HX5.out.row.read rfl, rspan_cells2 (HYR.out.later HQ5.out)⟩; clear hb4)))
          go_wp2
          go_meet
          refine ⟨_, _, _, rfl, rfl, rfl, HQ5, Lib.hid ?_, Lib.hid ?_⟩
          · rw [HXy.out.sl.has a b HAB.out.1 HAB.out.2, Bool.eq_iff_iff]
            have := HAB.out.1
            first | (simp; done) | (simp; omega)
          · rw [HXy.out.sl.tou a b HAB.out.1 HAB.out.2, Bool.eq_iff_iff]
            try simp
      case rest =>
        obtain ⟨wq, hv, tv, hwq, rfl, rfl, HQc, HHV, HTV⟩ := hcut
        subst hwq
        clear HQ20 HB20 HQ19 cy x0 x1 v0 v1
        have HQ20 := Lib.hid (bl_step HQc.out (bl_drew (Below.refl _ _)))
        have HB20 := Lib.hid (bl_step HYB.out HQ20.out)
        have k20 : Hid (wq.drew.cell? ⟨y, 0, none⟩ = some (.slice A N c) ∧ wq.drew.cell? ⟨cb, 0, none⟩ = some (.int .i64 a) ∧ wq.drew.cell? ⟨cb, 1, none⟩ = some (.int .i64 b) ∧ wq.drew.cell? ⟨wy.heap.size, 0, none⟩ = some (.int .i64 a) ∧ wq.drew.cell? ⟨wy.heap.size, 1, none⟩ = some (.int .i64 b)) := Lib.hid ⟨(HXy.out.later HB20.out).row.read (i := 0) rfl, lv_five (span_cells2 (HXR2.out.later HB20.out)) (rspan_cells2 (HYR.out.later HQ20.out))⟩
        as_aux_lemma =>
          go_wp2
          simp only [List.append]
          go_region_held3 (fun w' => w'.cell? ⟨y, 0, none⟩ = some (.slice A N c) ∧ w'.cell? ⟨cb, 0, none⟩ = some (.int .i64 a) ∧ w'.cell? ⟨cb, 1, none⟩ = some (.int .i64 b) ∧ w'.cell? ⟨wy.heap.size, 0, none⟩ = some (.int .i64 a) ∧ w'.cell? ⟨wy.heap.size, 1, none⟩ = some (.int .i64 b)) (first | with_reducible exact k20.out | with_reducible exact k21.out | with_reducible exact k22.out | with_reducible exact k23.out | with_reducible exact k24.out | with_reducible exact k25.out | with_reducible exact k26.out | with_reducible exact k27.out | with_reducible exact k28.out | with_reducible exact k29.out | with_reducible exact k30.out | with_reducible exact k31.out | with_reducible exact k32.out | with_reducible exact k33.out | with_reducible exact k34.out | with_reducible exact k35.out | with_reducible exact k36.out | with_reducible exact k37.out | with_reducible exact k38.out | with_reducible exact k39.out | go_keep)
            (first
              | (go_at_call 27; (with_reducible refine (HA.out _).mono ?_); rintro e w21 ⟨rfl, hb⟩; (have HQ21 := Lib.hid (bl_step HQ20.out hb); have HB21 := Lib.hid (bl_step HYB.out HQ21.out); have k21 : Hid (w21.cell? ⟨y, 0, none⟩ = some (.slice A N c) ∧ w21.cell? ⟨cb, 0, none⟩ = some (.int .i64 a) ∧ w21.cell? ⟨cb, 1, none⟩ = some (.int .i64 b) ∧ w21.cell? ⟨wy.heap.size, 0, none⟩ = some (.int .i64 a) ∧ w21.cell? ⟨wy.heap.size, 1, none⟩ = some (.int .i64 b)) := Lib.hid ⟨(HXy.out.later HB21.out).row.read (i := 0) rfl, lv_five (span_cells2 (HXR2.out.later HB21.out)) (rspan_cells2 (HYR.out.later HQ21.out))⟩; clear hb k20 HQ20 HB20))
              | (go_at_call 36; (with_reducible refine (lv_spans (HXy.out.later HB21.out) HL1.out).mono ?_); rintro e w22 ⟨A22, c22, n22, hn22, rfl, hs22, hb⟩; (have HQ22 := Lib.hid (bl_step HQ21.out hb); have HB22 := Lib.hid (bl_step HYB.out HQ22.out); have k22 : Hid (w22.cell? ⟨y, 0, none⟩ = some (.slice A N c) ∧ w22.cell? ⟨cb, 0, none⟩ = some (.int .i64 a) ∧ w22.cell? ⟨cb, 1, none⟩ = some (.int .i64 b) ∧ w22.cell? ⟨wy.heap.size, 0, none⟩ = some (.int .i64 a) ∧ w22.cell? ⟨wy.heap.size, 1, none⟩ = some (.int .i64 b)) := Lib.hid ⟨(HXy.out.later HB22.out).row.read (i := 0) rfl, lv_five (span_cells2 (HXR2.out.later HB22.out)) (rspan_cells2 (HYR.out.later HQ22.out))⟩; clear hb k21 HQ21 HB21; have HN22 := Lib.hid hn22; have HS22 := Lib.hid hs22; clear hn22 hs22))
              | (go_at_call 35; (with_reducible refine (lv_as c22 n22 HN22.out (by rw [HN22.out]; exact Nat.le_trans HL1.out (by decide)) HS22.out).mono ?_); rintro e w23 ⟨A23, c23, rfl, hs23, hb⟩; (have HQ23 := Lib.hid (bl_step HQ22.out hb); have HB23 := Lib.hid (bl_step HYB.out HQ23.out); have k23 : Hid (w23.cell? ⟨y, 0, none⟩ = some (.slice A N c) ∧ w23.cell? ⟨cb, 0, none⟩ = some (.int .i64 a) ∧ w23.cell? ⟨cb, 1, none⟩ = some (.int .i64 b) ∧ w23.cell? ⟨wy.heap.size, 0, none⟩ = some (.int .i64 a) ∧ w23.cell? ⟨wy.heap.size, 1, none⟩ = some (.int .i64 b)) := Lib.hid ⟨(HXy.out.later HB23.out).row.read (i := 0) rfl, lv_five (span_cells2 (HXR2.out.later HB23.out)) (rspan_cells2 (HYR.out.later HQ23.out))⟩; clear hb k22 HQ22 HB22; have HS23 := Lib.hid hs23; clear hs23 HS22))
              | (go_at_call 37; (with_reducible refine (lv_rspans (HXy.out.later HB23.out)).mono ?_); rintro e w24 ⟨A24, c24, n24, hn24, rfl, hs24, hb⟩; (have hb9 := hb; have HQ24 := Lib.hid (bl_step HQ23.out hb); have HB24 := Lib.hid (bl_step HYB.out HQ24.out); have k24 : Hid (w24.cell? ⟨y, 0, none⟩ = some (.slice A N c) ∧ w24.cell? ⟨cb, 0, none⟩ = some (.int .i64 a) ∧ w24.cell? ⟨cb, 1, none⟩ = some (.int .i64 b) ∧ w24.cell? ⟨wy.heap.size, 0, none⟩ = some (.int .i64 a) ∧ w24.cell? ⟨wy.heap.size, 1, none⟩ = some (.int .i64 b)) := Lib.hid ⟨(HXy.out.later HB24.out).row.read (i := 0) rfl, lv_five (span_cells2 (HXR2.out.later HB24.out)) (rspan_cells2 (HYR.out.later HQ24.out))⟩; clear hb k23 HQ23 HB23; obtain rfl : n22 = n24 := HN22.out.trans hn24.symm; have HS24 := Lib.hid hs24; have HT24 := Lib.hid (HS23.out.later hb9); clear hn24 hs24 hb9 HS23))
              | (go_at_call 34; (with_reducible refine (refsame_yes c23 c24 n22 _ HN22.out.symm (by rw [HN22.out]; exact Nat.le_trans HL1.out (by decide)) HT24.out HS24.out).mono ?_); rintro e w25 ⟨rfl, hb⟩; (have HQ25 := Lib.hid (bl_step HQ24.out hb); have HB25 := Lib.hid (bl_step HYB.out HQ25.out); have k25 : Hid (w25.cell? ⟨y, 0, none⟩ = some (.slice A N c) ∧ w25.cell? ⟨cb, 0, none⟩ = some (.int .i64 a) ∧ w25.cell? ⟨cb, 1, none⟩ = some (.int .i64 b) ∧ w25.cell? ⟨wy.heap.size, 0, none⟩ = some (.int .i64 a) ∧ w25.cell? ⟨wy.heap.size, 1, none⟩ = some (.int .i64 b)) := Lib.hid ⟨(HXy.out.later HB25.out).row.read (i := 0) rfl, lv_five (span_cells2 (HXR2.out.later HB25.out)) (rspan_cells2 (HYR.out.later HQ25.out))⟩; clear hb k24 HQ24 HB24; clear HT24 HS24 HN22))
              | (go_at_call 38; (with_reducible refine (HG1.out _ HB25.out).mono ?_); rintro e w26 ⟨A26, c26, n26, hn26, rfl, hs26, hb⟩; (have HQ26 := Lib.hid (bl_step HQ25.out hb); have HB26 := Lib.hid (bl_step HYB.out HQ26.out); have k26 : Hid (w26.cell? ⟨y, 0, none⟩ = some (.slice A N c) ∧ w26.cell? ⟨cb, 0, none⟩ = some (.int .i64 a) ∧ w26.cell? ⟨cb, 1, none⟩ = some (.int .i64 b) ∧ w26.cell? ⟨wy.heap.size, 0, none⟩ = some (.int .i64 a) ∧ w26.cell? ⟨wy.heap.size, 1, none⟩ = some (.int .i64 b)) := Lib.hid ⟨(HXy.out.later HB26.out).row.read (i := 0) rfl, lv_five (span_cells2 (HXR2.out.later HB26.out)) (rspan_cells2 (HYR.out.later HQ26.out))⟩; clear hb k25 HQ25 HB25; have HN26 := Lib.hid hn26; have HS26 := Lib.hid hs26; clear hn26 hs26))
              | (go_at_call 35; (with_reducible refine (lv_as c26 n26 HN26.out (by rw [HN26.out]; exact HGL.out) HS26.out).mono ?_); rintro e w27 ⟨A27, c27, rfl, hs27, hb⟩; (have HQ27 := Lib.hid (bl_step HQ26.out hb); have HB27 := Lib.hid (bl_step HYB.out HQ27.out); have k27 : Hid (w27.cell? ⟨y, 0, none⟩ = some (.slice A N c) ∧ w27.cell? ⟨cb, 0, none⟩ = some (.int .i64 a) ∧ w27.cell? ⟨cb, 1, none⟩ = some (.int .i64 b) ∧ w27.cell? ⟨wy.heap.size, 0, none⟩ = some (.int .i64 a) ∧ w27.cell? ⟨wy.heap.size, 1, none⟩ = some (.int .i64 b)) := Lib.hid ⟨(HXy.out.later HB27.out).row.read (i := 0) rfl, lv_five (span_cells2 (HXR2.out.later HB27.out)) (rspan_cells2 (HYR.out.later HQ27.out))⟩; clear hb k26 HQ26 HB26; have HS27 := Lib.hid hs27; clear hs27 HS26))
              | (go_at_call 39; (with_reducible refine (HG2.out _ HB27.out).mono ?_); rintro e w28 ⟨A28, c28, n28, hn28, rfl, hs28, hb⟩; (have hb9 := hb; have HQ28 := Lib.hid (bl_step HQ27.out hb); have HB28 := Lib.hid (bl_step HYB.out HQ28.out); have k28 : Hid (w28.cell? ⟨y, 0, none⟩ = some (.slice A N c) ∧ w28.cell? ⟨cb, 0, none⟩ = some (.int .i64 a) ∧ w28.cell? ⟨cb, 1, none⟩ = some (.int .i64 b) ∧ w28.cell? ⟨wy.heap.size, 0, none⟩ = some (.int .i64 a) ∧ w28.cell? ⟨wy.heap.size, 1, none⟩ = some (.int .i64 b)) := Lib.hid ⟨(HXy.out.later HB28.out).row.read (i := 0) rfl, lv_five (span_cells2 (HXR2.out.later HB28.out)) (rspan_cells2 (HYR.out.later HQ28.out))⟩; clear hb k27 HQ27 HB27; obtain rfl : n26 = n28 := HN26.out.trans hn28.symm; have HS28 := Lib.hid hs28; have HT28 := Lib.hid (HS27.out.later hb9); clear hn28 hs28 hb9 HS27))
              | (go_at_call 34; (with_reducible refine (refsame_yes c27 c28 n26 _ HN26.out.symm (by rw [HN26.out]; exact HGL.out) HT28.out HS28.out).mono ?_); rintro e w29 ⟨rfl, hb⟩; (have HQ29 := Lib.hid (bl_step HQ28.out hb); have HB29 := Lib.hid (bl_step HYB.out HQ29.out); have k29 : Hid (w29.cell? ⟨y, 0, none⟩ = some (.slice A N c) ∧ w29.cell? ⟨cb, 0, none⟩ = some (.int .i64 a) ∧ w29.cell? ⟨cb, 1, none⟩ = some (.int .i64 b) ∧ w29.cell? ⟨wy.heap.size, 0, none⟩ = some (.int .i64 a) ∧ w29.cell? ⟨wy.heap.size, 1, none⟩ = some (.int .i64 b)) := Lib.hid ⟨(HXy.out.later HB29.out).row.read (i := 0) rfl, lv_five (span_cells2 (HXR2.out.later HB29.out)) (rspan_cells2 (HYR.out.later HQ29.out))⟩; clear hb k28 HQ28 HB28; clear HT28 HS28 HN26))
              | (go_at_call 40; (with_reducible refine (lv_hasv (HXy.out.later HB29.out) (a, b) hv HHV.out).mono ?_); rintro e w30 ⟨rfl, hb⟩; (have HQ30 := Lib.hid (bl_step HQ29.out hb); have HB30 := Lib.hid (bl_step HYB.out HQ30.out); have k30 : Hid (w30.cell? ⟨y, 0, none⟩ = some (.slice A N c) ∧ w30.cell? ⟨cb, 0, none⟩ = some (.int .i64 a) ∧ w30.cell? ⟨cb, 1, none⟩ = some (.int .i64 b) ∧ w30.cell? ⟨wy.heap.size, 0, none⟩ = some (.int .i64 a) ∧ w30.cell? ⟨wy.heap.size, 1, none⟩ = some (.int .i64 b)) := Lib.hid ⟨(HXy.out.later HB30.out).row.read (i := 0) rfl, lv_five (span_cells2 (HXR2.out.later HB30.out)) (rspan_cells2 (HYR.out.later HQ30.out))⟩; clear hb k29 HQ29 HB29))
              | (go_at_call 41; (with_reducible refine (lv_touv (HXy.out.later HB30.out) (a, b) tv HTV.out).mono ?_); rintro e w31 ⟨rfl, hb⟩; (have HQ31 := Lib.hid (bl_step HQ30.out hb); have HB31 := Lib.hid (bl_step HYB.out HQ31.out); have k31 : Hid (w31.cell? ⟨y, 0, none⟩ = some (.slice A N c) ∧ w31.cell? ⟨cb, 0, none⟩ = some (.int .i64 a) ∧ w31.cell? ⟨cb, 1, none⟩ = some (.int .i64 b) ∧ w31.cell? ⟨wy.heap.size, 0, none⟩ = some (.int .i64 a) ∧ w31.cell? ⟨wy.heap.size, 1, none⟩ = some (.int .i64 b)) := Lib.hid ⟨(HXy.out.later HB31.out).row.read (i := 0) rfl, lv_five (span_cells2 (HXR2.out.later HB31.out)) (rspan_cells2 (HYR.out.later HQ31.out))⟩; clear hb k30 HQ30 HB30))
              | (go_at_call 42; (with_reducible refine (HRI.out _).mono ?_); rintro e w32 ⟨rfl, hb⟩; (have HQ32 := Lib.hid (bl_step HQ31.out hb); have HB32 := Lib.hid (bl_step HYB.out HQ32.out); have k32 : Hid (w32.cell? ⟨y, 0, none⟩ = some (.slice A N c) ∧ w32.cell? ⟨cb, 0, none⟩ = some (.int .i64 a) ∧ w32.cell? ⟨cb, 1, none⟩ = some (.int .i64 b) ∧ w32.cell? ⟨wy.heap.size, 0, none⟩ = some (.int .i64 a) ∧ w32.cell? ⟨wy.heap.size, 1, none⟩ = some (.int .i64 b)) := Lib.hid ⟨(HXy.out.later HB32.out).row.read (i := 0) rfl, lv_five (span_cells2 (HXR2.out.later HB32.out)) (rspan_cells2 (HYR.out.later HQ32.out))⟩; clear hb k31 HQ31 HB31))
              | (go_at_call 33; (with_reducible refine (HRR.out _).mono ?_); rintro e w33 ⟨rfl, hb⟩; (have HQ33 := Lib.hid (bl_step HQ32.out hb); have HB33 := Lib.hid (bl_step HYB.out HQ33.out); have k33 : Hid (w33.cell? ⟨y, 0, none⟩ = some (.slice A N c) ∧ w33.cell? ⟨cb, 0, none⟩ = some (.int .i64 a) ∧ w33.cell? ⟨cb, 1, none⟩ = some (.int .i64 b) ∧ w33.cell? ⟨wy.heap.size, 0, none⟩ = some (.int .i64 a) ∧ w33.cell? ⟨wy.heap.size, 1, none⟩ = some (.int .i64 b)) := Lib.hid ⟨(HXy.out.later HB33.out).row.read (i := 0) rfl, lv_five (span_cells2 (HXR2.out.later HB33.out)) (rspan_cells2 (HYR.out.later HQ33.out))⟩; clear hb k32 HQ32 HB32))
              | (go_at_call 29; (with_reducible refine (HZA.out _).mono ?_); rintro e w34 ⟨rfl, hb⟩; (have HQ34 := Lib.hid (bl_step HQ33.out hb); have HB34 := Lib.hid (bl_step HYB.out HQ34.out); have k34 : Hid (w34.cell? ⟨y, 0, none⟩ = some (.slice A N c) ∧ w34.cell? ⟨cb, 0, none⟩ = some (.int .i64 a) ∧ w34.cell? ⟨cb, 1, none⟩ = some (.int .i64 b) ∧ w34.cell? ⟨wy.heap.size, 0, none⟩ = some (.int .i64 a) ∧ w34.cell? ⟨wy.heap.size, 1, none⟩ = some (.int .i64 b)) := Lib.hid ⟨(HXy.out.later HB34.out).row.read (i := 0) rfl, lv_five (span_cells2 (HXR2.out.later HB34.out)) (rspan_cells2 (HYR.out.later HQ34.out))⟩; clear hb k33 HQ33 HB33))
              | (go_at_call 28; (with_reducible refine (HZT.out _).mono ?_); rintro e w35 ⟨rfl, hb⟩; (have HQ35 := Lib.hid (bl_step HQ34.out hb); have HB35 := Lib.hid (bl_step HYB.out HQ35.out); have k35 : Hid (w35.cell? ⟨y, 0, none⟩ = some (.slice A N c) ∧ w35.cell? ⟨cb, 0, none⟩ = some (.int .i64 a) ∧ w35.cell? ⟨cb, 1, none⟩ = some (.int .i64 b) ∧ w35.cell? ⟨wy.heap.size, 0, none⟩ = some (.int .i64 a) ∧ w35.cell? ⟨wy.heap.size, 1, none⟩ = some (.int .i64 b)) := Lib.hid ⟨(HXy.out.later HB35.out).row.read (i := 0) rfl, lv_five (span_cells2 (HXR2.out.later HB35.out)) (rspan_cells2 (HYR.out.later HQ35.out))⟩; clear hb k34 HQ34 HB34))
              | (go_at_call 40; (with_reducible refine (HZH.out _).mono ?_); rintro e w36 ⟨rfl, hb⟩; (have HQ36 := Lib.hid (bl_step HQ35.out hb); have HB36 := Lib.hid (bl_step HYB.out HQ36.out); have k36 : Hid (w36.cell? ⟨y, 0, none⟩ = some (.slice A N c) ∧ w36.cell? ⟨cb, 0, none⟩ = some (.int .i64 a) ∧ w36.cell? ⟨cb, 1, none⟩ = some (.int .i64 b) ∧ w36.cell? ⟨wy.heap.size, 0, none⟩ = some (.int .i64 a) ∧ w36.cell? ⟨wy.heap.size, 1, none⟩ = some (.int .i64 b)) := Lib.hid ⟨(HXy.out.later HB36.out).row.read (i := 0) rfl, lv_five (span_cells2 (HXR2.out.later HB36.out)) (rspan_cells2 (HYR.out.later HQ36.out))⟩; clear hb k35 HQ35 HB35))
              | (go_at_call 41; (with_reducible refine (HZU.out _).mono ?_); rintro e w37 ⟨rfl, hb⟩; (have HQ37 := Lib.hid (bl_step HQ36.out hb); have HB37 := Lib.hid (bl_step HYB.out HQ37.out); have k37 : Hid (w37.cell? ⟨y, 0, none⟩ = some (.slice A N c) ∧ w37.cell? ⟨cb, 0, none⟩ = some (.int .i64 a) ∧ w37.cell? ⟨cb, 1, none⟩ = some (.int .i64 b) ∧ w37.cell? ⟨wy.heap.size, 0, none⟩ = some (.int .i64 a) ∧ w37.cell? ⟨wy.heap.size, 1, none⟩ = some (.int .i64 b)) := Lib.hid ⟨(HXy.out.later HB37.out).row.read (i := 0) rfl, lv_five (span_cells2 (HXR2.out.later HB37.out)) (rspan_cells2 (HYR.out.later HQ37.out))⟩; clear hb k36 HQ36 HB36))
              | (go_at_call 36; (with_reducible refine (spans_nil _).mono ?_); rintro e _ ⟨rfl, rfl⟩)
              | (go_at_call 38; (with_reducible refine (gaps_nil 9 _).mono ?_); rintro e w38 ⟨rfl, hb⟩; (have HQ38 := Lib.hid (bl_step HQ37.out hb); have HB38 := Lib.hid (bl_step HYB.out HQ38.out); have k38 : Hid (w38.cell? ⟨y, 0, none⟩ = some (.slice A N c) ∧ w38.cell? ⟨cb, 0, none⟩ = some (.int .i64 a) ∧ w38.cell? ⟨cb, 1, none⟩ = some (.int .i64 b) ∧ w38.cell? ⟨wy.heap.size, 0, none⟩ = some (.int .i64 a) ∧ w38.cell? ⟨wy.heap.size, 1, none⟩ = some (.int .i64 b)) := Lib.hid ⟨(HXy.out.later HB38.out).row.read (i := 0) rfl, lv_five (span_cells2 (HXR2.out.later HB38.out)) (rspan_cells2 (HYR.out.later HQ38.out))⟩; clear hb k37 HQ37 HB37))
              | (go_at_call 31; (with_reducible refine (count_nil _).mono ?_); rintro e w39 ⟨rfl, hb⟩; (have HQ39 := Lib.hid (bl_step HQ38.out hb); have HB39 := Lib.hid (bl_step HYB.out HQ39.out); have k39 : Hid (w39.cell? ⟨y, 0, none⟩ = some (.slice A N c) ∧ w39.cell? ⟨cb, 0, none⟩ = some (.int .i64 a) ∧ w39.cell? ⟨cb, 1, none⟩ = some (.int .i64 b) ∧ w39.cell? ⟨wy.heap.size, 0, none⟩ = some (.int .i64 a) ∧ w39.cell? ⟨wy.heap.size, 1, none⟩ = some (.int .i64 b)) := Lib.hid ⟨(HXy.out.later HB39.out).row.read (i := 0) rfl, lv_five (span_cells2 (HXR2.out.later HB39.out)) (rspan_cells2 (HYR.out.later HQ39.out))⟩; clear hb k38 HQ38 HB38)))
          go_wp2
          go_ret
          exact ⟨by first | (simp; done) | (simp [IntKind.wrap_i64]; done) | (simp; decide +kernel), HWF.out _ HB39.out⟩
end
end Go.Proofs.Ytjonkpdjhjobfaa
