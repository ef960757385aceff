/-
  PollLives: the walk. PollLives, for every input.
-/
import Derived.Test.YtfgjlhklioijmaaJPollLives03
import Derived.Deep.DeepCutAuto
namespace Go.Proofs.Ytfgjlhklioijmaa
open Go.RowKit

section
variable {W w v : World} {x y o : Nat} {P B : Int} {l : List Nat} {t : Bool} {kd nn : Int} {em st : Bool}
theorem ocells (h : Row w o 194 #[.int .i64 kd, .int .i64 nn, .bool em, .bool st]) : w.cell? ⟨o, 0, none⟩ = some (.int .i64 kd) ∧ w.cell? ⟨o, 1, none⟩ = some (.int .i64 nn) ∧ w.cell? ⟨o, 2, none⟩ = some (.bool em) ∧ w.cell? ⟨o, 3, none⟩ = some (.bool st) :=
  ⟨h.read rfl, h.read rfl, h.read rfl, h.read rfl⟩
theorem ocell2 (h : Row w o 194 #[.int .i64 kd, .int .i64 nn, .bool em, .bool st]) : w.cell? ⟨o, 2, none⟩ = some (.bool em) ∧ w.cell? ⟨o, 3, none⟩ = some (.bool st) := ⟨h.read rfl, h.read rfl⟩
theorem orow_x {cs ds : Array Value} (h : Row w o 194 cs) (hr : Row w x 202 ds) (ho : Only (PO x) w v) : Row v o 194 cs := h.only ho (fun e => Row.apart h hr (by decide) e)
theorem orow_y {cs ds : Array Value} (h : Row w o 194 cs) (hr : Row w y 192 ds) (ho : Only (PO y) w v) : Row v o 194 cs := h.only ho (fun e => Row.apart h hr (by decide) e)
theorem BoP.told (h1 : PS W w x P B (l.length : Nat) (l.sum : Nat) true) (h2 : RP w y W.heap.size P B l t) (hy : W.heap.size ≤ y) : BoP W (w.setCell ⟨y, 3, none⟩ (.bool true)) x y P B l true := by
  obtain ⟨A, c, hr, ho⟩ := h2.row
  have hon : Only (PO y) w (w.setCell ⟨y, 3, none⟩ (.bool true)) := (Only.refl _ _).set (.inl (show PO y y from rfl)) _
  refine ⟨h1.keep hr hon hy, ⟨⟨A, c, hr.written 3 (.bool true), own_only ho hon (fun k hk e => ?_)⟩, h2.small, h2.few⟩, hy⟩
  have e' : k = y := e
  subst e'
  exact own_apart ho hr (by decide) hk
theorem BoP.clear (h1 : PS W w x P B 0 0 false) (h2 : RP w y W.heap.size P B l t) (hy : W.heap.size ≤ y) : BoP W ((w.setCell ⟨y, 2, none⟩ (.slice none 0 0)).setCell ⟨y, 3, none⟩ (.bool false)) x y P B [] false := by
  obtain ⟨A, c, hr, ho⟩ := h2.row
  have hon : Only (PO y) w ((w.setCell ⟨y, 2, none⟩ (.slice none 0 0)).setCell ⟨y, 3, none⟩ (.bool false)) := ((Only.refl _ _).set (.inl (show PO y y from rfl)) _).set (.inl (show PO y y from rfl)) _
  exact ⟨h1.keep hr hon hy, ⟨⟨none, 0, (hr.written 2 (.slice none 0 0)).written 3 (.bool false), World.ownsRow_nil _ _ _ _⟩, by simp, by simp⟩, hy⟩
/-- one more was sent, and stands in the document's list -/
theorem BoP.more {A A' : Option Addr} {c c' k : Nat} {u : World} (h1 : PS W w x P B ((l.length : Nat) + 1) ((l.sum : Nat) + (k : Int)) t) (h2 : RP w y W.heap.size P B l t) (hr : Row w y 192 #[.int .i64 P, .int .i64 B, .slice A l.length c, .bool t]) (hy : W.heap.size ≤ y) (hk : k ≤ 4000) (hl : l.length + 1 ≤ 1000)
    (ho : u.ownsRow W.heap.size 3 1 (.slice A' (l.length + 1) c') (l.length + 1) (iV l ++ [.int .i64 (k : Int)])) (hkr : KR (fun t => t = 3) W.heap.size w u) : BoP W (u.setCell ⟨y, 2, none⟩ (.slice A' (l.length + 1) c')) x y P B (l ++ [k]) t := by
  have hr2 := hkr.rows _ _ _ hr (by decide)
  have hon : Only (PO y) u (u.setCell ⟨y, 2, none⟩ (.slice A' (l.length + 1) c')) := (Only.refl _ _).set (.inl (show PO y y from rfl)) _
  have h3 : PS W u x P B ((l.length : Nat) + 1) ((l.sum : Nat) + (k : Int)) t := ⟨hkr.rows _ _ _ h1.row (by decide), h1.old, h1.bl.trans hkr.below, h1.hP⟩
  have e1 : (l ++ [k]).length = l.length + 1 := by simp
  have e2 : (l ++ [k]).sum = l.sum + k := by simp
  refine ⟨?_, ⟨⟨A', c', ?_, ?_⟩, ?_, by rw [e1]; exact hl⟩, hy⟩
  · rw [e1, e2]
    exact h3.keep hr2 hon hy
  · rw [e1]
    exact hr2.written 2 (.slice A' (l.length + 1) c')
  · rw [e1, ← iV_snoc]
    refine own_only ho hon (fun j hj e => ?_)
    have e' : j = y := e
    subst e'
    exact own_apart ho hr2 (by decide) hj
  · intro v hv
    rw [List.mem_append] at hv
    rcases hv with hv | hv
    · exact h2.small v hv
    · simp at hv; omega
set_option maxRecDepth 100000 in
set_option maxHeartbeats 3200000 in
theorem plives_no (P B : Int) (A : Option Addr) (n c : Nat) (w : World) (h : ¬ (1 ≤ P ∧ P ≤ 1000 ∧ 1 ≤ B ∧ B ≤ 20000)) : Calls Try.prog 17 #[.int .i64 P, .int .i64 B, .slice A n c] w fun e w' => e = .returned (.bool true) ∧ Below w.heap.size w w' := by
  have HN := Lib.hid (pnew_bad w h)
  have HA := Lib.hid polalive_any
  by_cases h1 : P < 1
  · clear h
    go_enter Try.func17, Try.ntmps17
    go_wp2_with (first
      | (go_at_call 121; (with_reducible refine HN.out.mono ?_); rintro e w1 ⟨rfl, rfl⟩)
      | (go_at_call 122; (with_reducible refine (HA.out _).mono ?_); rintro e w2 ⟨rfl, hb⟩; (have HB2 := Lib.hid hb; clear hb)))
    go_ret
    exact ⟨rfl, HB2.out⟩
  · by_cases h2 : 1000 < P
    · clear h
      go_enter Try.func17, Try.ntmps17
      go_wp2_with (first
        | (go_at_call 121; (with_reducible refine HN.out.mono ?_); rintro e w1 ⟨rfl, rfl⟩)
        | (go_at_call 122; (with_reducible refine (HA.out _).mono ?_); rintro e w2 ⟨rfl, hb⟩; (have HB2 := Lib.hid hb; clear hb)))
      go_ret
      exact ⟨rfl, HB2.out⟩
    · by_cases h3 : B < 1
      · clear h
        go_enter Try.func17, Try.ntmps17
        go_wp2_with (first
          | (go_at_call 121; (with_reducible refine HN.out.mono ?_); rintro e w1 ⟨rfl, rfl⟩)
          | (go_at_call 122; (with_reducible refine (HA.out _).mono ?_); rintro e w2 ⟨rfl, hb⟩; (have HB2 := Lib.hid hb; clear hb)))
        go_ret
        exact ⟨rfl, HB2.out⟩
      · have h4 : 20000 < B := by omega
        clear h
        go_enter Try.func17, Try.ntmps17
        go_wp2_with (first
          | (go_at_call 121; (with_reducible refine HN.out.mono ?_); rintro e w1 ⟨rfl, rfl⟩)
          | (go_at_call 122; (with_reducible refine (HA.out _).mono ?_); rintro e w2 ⟨rfl, hb⟩; (have HB2 := Lib.hid hb; clear hb)))
        go_ret
        exact ⟨rfl, HB2.out⟩
set_option maxRecDepth 100000 in
set_option maxHeartbeats 6400000 in
theorem plives_ok (P B : Int) (A0 : Option Addr) (l0 : List (Int × Int × Bool × Bool)) (n0 c0 : Nat) (W : World) (h1 : 1 ≤ P) (h2 : P ≤ 1000) (h3 : 1 ≤ B) (h4 : B ≤ 20000) (hl0 : l0.length = n0) (hn : n0 ≤ 9223372036854775807) (hs0 : PSrc21 W A0 l0) : Calls Try.prog 17 #[.int .i64 P, .int .i64 B, .slice A0 n0 c0] W fun e w' => e = .returned (.bool true) ∧ Below W.heap.size W w' := by
  have HN := Lib.hid (PS.new W h1 h2 h3 h4)
  have HA := Lib.hid polalive_any
  have HS0 := Lib.hid hs0
  have HL0 := Lib.hid hl0
  have g1 : decide (P < 1) = false := by simp; omega
  have g2 : decide (1000 < P) = false := by simp; omega
  have g3 : decide (B < 1) = false := by simp; omega
  have g4 : decide (20000 < B) = false := by simp; omega
  clear hs0 hl0 h1 h2 h3 h4
  go_enter Try.func17, Try.ntmps17
  go_wp2_with (go_at_call 121; (with_reducible refine HN.out.mono ?_); rintro e w1 ⟨x, rfl, hp⟩; (have HP := Lib.hid hp; clear hp))
  have HBO := Lib.hid (show BoP W (w1.alloc (.cells #[.int .i64 P, .int .i64 B, .slice none 0 0, .bool false] 192)) x w1.heap.size P B [] false from ⟨HP.out.later (bl_alloc (Below.refl _ _) _), ⟨⟨none, 0, Row.made w1 _ _, World.ownsRow_nil _ _ _ _⟩, by simp, by simp⟩, HP.out.bl.size⟩)
  generalize hY : w1.heap.size = y at *
  clear hY
  go_loopw [10] (fun s10 wr => ∃ (i : Nat) (l : List Nat) (t : Bool), i ≤ 200 ∧ i ≤ n0 ∧ s10 = .int .i64 i ∧ Hid (BoP W wr x y P B l t) ∧ Hid (l.length ≤ i)) (fun s10 _ => 200 - (intOf s10).toNat)
  case atStart => exact ⟨0, [], false, by omega, by omega, rfl, HBO, Lib.hid (by simp)⟩
  case round =>
    obtain ⟨i, l, t, hi, hin, rfl, HBr, HLr⟩ := hrel
    by_cases hlt : i < n0 ∧ i < 200
    · obtain ⟨hlt1, hlt2⟩ := hlt
      have hi1 : (i : Int) < n0 := by omega
      have hi2 : (i : Int) < 200 := by omega
      have hi0 : (0 : Int) ≤ i := by omega
      have HI := Lib.hid (And.intro hlt1 hlt2)
      obtain ⟨o, ho⟩ : ∃ o, l0[i]? = some o := ⟨_, List.getElem?_eq_getElem (by rw [HL0.out]; exact hlt1)⟩
      obtain ⟨bq, off, rfl, hq⟩ := HS0.out (by rw [HL0.out]; omega)
      obtain ⟨q0, q1, q2, q3⟩ := hq i o ho
      have z0 := kept_box HBr.out.ps.bl q0
      have z1 := kept_box HBr.out.ps.bl q1
      have z2 := kept_box HBr.out.ps.bl q2
      have z3 := kept_box HBr.out.ps.bl q3
      obtain ⟨kd, nn, em, st⟩ := o
      simp only at z0 z1 z2 z3
      have HOB := Lib.hid (Row.made wr 194 #[.int .i64 kd, .int .i64 nn, .bool em, .bool st])
      have HT := Lib.hid (HBr.out.later (bl_alloc (Below.refl _ _) (.cells #[.int .i64 kd, .int .i64 nn, .bool em, .bool st] 194)))
      clear ho hq q0 q1 q2 q3 hlt1 hlt2 hi hin
      go_upto_region 11 with fail
      generalize hQ : (wr.alloc (.cells #[.int .i64 kd, .int .i64 nn, .bool em, .bool st] 194)) = wq at *
      clear hQ
      generalize hOO : wr.heap.size = oo at *
      clear hOO z0 z1 z2 z3
      obtain ⟨d0, d1, d2, d3⟩ := ocells HOB.out
      rcases Classical.em (kd = 0) with hk0 | hk0
      · subst hk0
        by_cases hr : 0 ≤ nn ∧ nn ≤ 4000
        · obtain ⟨k, rfl⟩ : ∃ k : Nat, nn = k := ⟨nn.toNat, by omega⟩
          have e1 : decide ((k : Int) < 0) = false := by simp
          have e2 : decide ((4000 : Int) < k) = false := by simp; omega
          have HK4 := Lib.hid (show k ≤ 4000 by omega)
          have HSN := Lib.hid (HT.out.sent (k := (k : Int)) (by omega) (by omega))
          clear hr
          go_upto_region 18 with (go_at_call 123; (with_reducible refine HSN.out.mono ?_); rintro e w2 ⟨rfl, hp, hrp, ho⟩; (have HP2 := Lib.hid hp; have HR2 := Lib.hid hrp; have HO2 := Lib.hid (orow_x HOB.out HT.out.ps.row ho); clear hp hrp ho d0 d1 d2 d3; obtain ⟨d0, d1, d2, d3⟩ := ocells HO2.out))
          obtain ⟨A2, c2', hr2, ho2⟩ := HR2.out.row
          obtain ⟨c0, c1, c2, c3⟩ := rpcells hr2
          have HRR := Lib.hid hr2
          have HOW := Lib.hid ho2
          have f2 := hr2.free 2
          have hy2 := hr2.inside
          have ho2i := HO2.out.inside
          have HBL := Lib.hid HP2.out.bl.size
          have HLN := Lib.hid (show l.length ≤ 200 by have := HLr.out; have := HI.out.2; omega)
          clear hr2 ho2
          go_region_law (first
            | (refine step_own (B := W.heap.size) (n := l.length) (T := 96) (E := 3) (u := .int .i64 (k : Int)) (xs := iV l) rfl (.tmp 97) (.tmp 100) rfl rfl (by kernel_rfl) (show (Try.prog.info? 3).map (fun i => (i.zero, i.size, i.bytes)) = some (some (.int .i64 0), 1, 8) by kernel_rfl) rfl (by omega) rfl (by rfl) (by rfl) (own_after HOW.out (by repeat (first | exact Below.refl _ _ | refine bl_alloc ?_ _ | refine bl_drew ?_))) (by first | exact row_made_at (by simp) | exact Row.drawn (row_made_at (by simp)) | exact Row.more (row_made_at (by simp)) _) (by have := HBL.out; simp; omega) (by have := HLN.out; omega) ?_; intro A1 c1' w11 ho1 hk1; (have HKR := Lib.hid (KR.trans (KR.of_below (w := w2) (X := fun t => t = 3) HBL.out (by repeat (first | exact Below.refl _ _ | refine bl_alloc ?_ _ | refine bl_drew ?_))) hk1)); (have HO11 := Lib.hid (HKR.out.rows _ _ _ HO2.out (by decide))); (have HR11 := Lib.hid (HKR.out.rows _ _ _ HRR.out (by decide))); (have HT9 := Lib.hid (BoP.more HP2.out HR2.out HRR.out HT.out.hy HK4.out (by have := HLN.out; omega) ho1 HKR.out)); clear hk1 ho1; obtain ⟨c0, c1, c2, c3⟩ := rpcells HR11.out; have f2 := HR11.out.free 2; have hy11 := HR11.out.inside))
          all_goals
            have HLL := Lib.hid (show (l ++ [k]).length ≤ i + 1 by have := HLr.out; simp; omega)
            generalize l ++ [k] = L at *
            try clear c0 c1 c2 c3
            go_wp2_with (first
              | (go_at_call 128; (with_reducible refine HT9.out.ps.since.mono ?_); rintro e w8 ⟨rfl, hp8, ho8⟩; (have HT8 := Lib.hid (⟨hp8, HT9.out.rp.keep HT9.out.ps.row ho8, HT9.out.hy⟩ : BoP W w8 x y P B L t)); obtain ⟨A8, c8', hr8, _⟩ := HT8.out.rp.row; have c82 := (rpcells hr8).2.2.1; have hy8 := hr8.inside; clear hp8 ho8 hr8)
              | (go_at_call 129; (with_reducible refine (rpsum HT8.out.rp).mono ?_); rintro e w9 ⟨rfl, rfl⟩))
            go_roundw
            case rel => exact ⟨i + 1, L, t, by have := HI.out; omega, by have := HI.out; omega, by go_num, HT8, Lib.hid (by have := HLL.out; omega)⟩
            case measure => have := HI.out; simp [intOf]; omega
        · have hr2 : nn < 0 ∨ 4000 < nn := by omega
          have HSN := Lib.hid (HT.out.ps.sent_bad hr2)
          have HT9 := Lib.hid HT.out
          clear hr
          have e1 : (decide (nn < 0) || decide (4000 < nn)) = true := by simp; omega
          by_cases hr3 : nn < 0
          · go_wp2_with (first
              | (go_at_call 123; (with_reducible refine HSN.out.mono ?_); rintro e w2 ⟨rfl, rfl⟩)
              | (go_at_call 128; (with_reducible refine HT9.out.ps.since.mono ?_); rintro e w8 ⟨rfl, hp8, ho8⟩; (have HT8 := Lib.hid (⟨hp8, HT9.out.rp.keep HT9.out.ps.row ho8, HT9.out.hy⟩ : BoP W w8 x y P B l t)); obtain ⟨A8, c8', hr8, _⟩ := HT8.out.rp.row; have c82 := (rpcells hr8).2.2.1; have hy8 := hr8.inside; clear hp8 ho8 hr8)
              | (go_at_call 129; (with_reducible refine (rpsum HT8.out.rp).mono ?_); rintro e w9 ⟨rfl, rfl⟩))
            go_roundw
            case rel => exact ⟨i + 1, l, t, by have := HI.out; omega, by have := HI.out; omega, by go_num, HT8, Lib.hid (by have := HLr.out; omega)⟩
            case measure => have := HI.out; simp [intOf]; omega
          · have hr4 : 4000 < nn := by omega
            clear hr2
            go_wp2_with (first
              | (go_at_call 123; (with_reducible refine HSN.out.mono ?_); rintro e w2 ⟨rfl, rfl⟩)
              | (go_at_call 128; (with_reducible refine HT9.out.ps.since.mono ?_); rintro e w8 ⟨rfl, hp8, ho8⟩; (have HT8 := Lib.hid (⟨hp8, HT9.out.rp.keep HT9.out.ps.row ho8, HT9.out.hy⟩ : BoP W w8 x y P B l t)); obtain ⟨A8, c8', hr8, _⟩ := HT8.out.rp.row; have c82 := (rpcells hr8).2.2.1; have hy8 := hr8.inside; clear hp8 ho8 hr8)
              | (go_at_call 129; (with_reducible refine (rpsum HT8.out.rp).mono ?_); rintro e w9 ⟨rfl, rfl⟩))
            go_roundw
            case rel => exact ⟨i + 1, l, t, by have := HI.out; omega, by have := HI.out; omega, by go_num, HT8, Lib.hid (by have := HLr.out; omega)⟩
            case measure => have := HI.out; simp [intOf]; omega
      · have k0 : (kd == 0) = false := by simpa using hk0
        rcases Classical.em (kd = 1) with hk1 | hk1
        · subst hk1
          have HSN := Lib.hid HT.out.want
          go_wp2_with (first
            | (go_at_call 124; (with_reducible refine HSN.out.mono ?_); rintro e w2 ⟨rfl, hp, hrp, ho⟩; (have HR2 := Lib.hid hrp; have HT9 := Lib.hid (BoP.told hp hrp HT.out.hy); clear hp hrp ho HT); obtain ⟨A3, c3', hr3, _⟩ := HR2.out.row; have y0 := hr3.inside; have f2 := hr3.free 2; have f3 := hr3.free 3; obtain ⟨y1, y2, y3, y4⟩ := rpcells hr3; clear hr3)
            | (go_at_call 128; (with_reducible refine HT9.out.ps.since.mono ?_); rintro e w8 ⟨rfl, hp8, ho8⟩; (have HT8 := Lib.hid (⟨hp8, HT9.out.rp.keep HT9.out.ps.row ho8, HT9.out.hy⟩ : BoP W w8 x y P B l true)); obtain ⟨A8, c8', hr8, _⟩ := HT8.out.rp.row; have c82 := (rpcells hr8).2.2.1; have hy8 := hr8.inside; clear hp8 ho8 hr8)
            | (go_at_call 129; (with_reducible refine (rpsum HT8.out.rp).mono ?_); rintro e w9 ⟨rfl, rfl⟩))
          go_roundw
          case rel => exact ⟨i + 1, l, true, by have := HI.out; omega, by have := HI.out; omega, by go_num, HT8, Lib.hid (by have := HLr.out; omega)⟩
          case measure => have := HI.out; simp [intOf]; omega
        · have k1 : (kd == 1) = false := by simpa using hk1
          rcases Classical.em (kd = 2) with hk2 | hk2
          · subst hk2
            have HTD := Lib.hid (HT.out.later (bl_drew (Below.refl _ _)))
            have HOD := Lib.hid HOB.out.drawn
            obtain ⟨q, hq⟩ := HTD.out.ask (a := em) (d := st)
            have HSN := Lib.hid hq
            have HXR := Lib.hid HTD.out.ps.row
            have k0' := ocell2 HOD.out
            clear hq
            go_upto_region 23 with fail
            go_region_held3 (fun w' => w'.cell? ⟨oo, 2, none⟩ = some (.bool em) ∧ w'.cell? ⟨oo, 3, none⟩ = some (.bool st)) (first | assumption | exact k0' | exact ocell2 HO2.out | exact ocell2 HO3.out | go_keep)
              (first
                | (go_at_call 125; (with_reducible refine HSN.out.mono ?_); rintro e w2 ⟨rfl, ho, hyr, hc2⟩; (have HS2 := Lib.hid hc2; have HYR := Lib.hid hyr; have HO2 := Lib.hid (orow_x HOD.out HXR.out ho); clear hc2 ho hyr))
                | (go_at_call 126; (with_reducible refine HS2.out.mono ?_); rintro e w3 ⟨rfl, ho, l', t', hb, hl'⟩; (have HT9 := Lib.hid hb; have HLL := Lib.hid hl'; have HO3 := Lib.hid (orow_y HO2.out HYR.out.choose_spec ho); clear ho hb hl')))
            go_wp2_with (first
              | (go_at_call 128; (with_reducible refine HT9.out.ps.since.mono ?_); rintro e w8 ⟨rfl, hp8, ho8⟩; (have HT8 := Lib.hid (⟨hp8, HT9.out.rp.keep HT9.out.ps.row ho8, HT9.out.hy⟩ : BoP W w8 x y P B l' t')); obtain ⟨A8, c8', hr8, _⟩ := HT8.out.rp.row; have c82 := (rpcells hr8).2.2.1; have hy8 := hr8.inside; clear hp8 ho8 hr8)
              | (go_at_call 129; (with_reducible refine (rpsum HT8.out.rp).mono ?_); rintro e w9 ⟨rfl, rfl⟩))
            go_roundw
            case rel => exact ⟨i + 1, l', t', by have := HI.out; omega, by have := HI.out; omega, by go_num, HT8, Lib.hid (by have := HLr.out; have := HLL.out; omega)⟩
            case measure => have := HI.out; simp [intOf]; omega
          · have k2 : (kd == 2) = false := by simpa using hk2
            rcases Classical.em (kd = 3) with hk3 | hk3
            · subst hk3
              have HSN := Lib.hid HT.out.reset
              have HZ := Lib.hid (show ([] : List Nat).length ≤ i + 1 by simp)
              go_wp2_with (first
                | (go_at_call 127; (with_reducible refine HSN.out.mono ?_); rintro e w2 ⟨rfl, hp, hrp, ho⟩; (have HR2 := Lib.hid hrp; have HT9 := Lib.hid (BoP.clear hp hrp HT.out.hy); clear hp hrp ho HT); generalize ([] : List Nat) = L at HT9 HZ; obtain ⟨A3, c3', hr3, _⟩ := HR2.out.row; have y0 := hr3.inside; have f2 := hr3.free 2; have f3 := hr3.free 3; obtain ⟨y1, y2, y3, y4⟩ := rpcells hr3; clear hr3)
                | (go_at_call 128; (with_reducible refine HT9.out.ps.since.mono ?_); rintro e w8 ⟨rfl, hp8, ho8⟩; (have HT8 := Lib.hid (⟨hp8, HT9.out.rp.keep HT9.out.ps.row ho8, HT9.out.hy⟩ : BoP W w8 x y P B L false)); obtain ⟨A8, c8', hr8, _⟩ := HT8.out.rp.row; have c82 := (rpcells hr8).2.2.1; have hy8 := hr8.inside; clear hp8 ho8 hr8)
                | (go_at_call 129; (with_reducible refine (rpsum HT8.out.rp).mono ?_); rintro e w9 ⟨rfl, rfl⟩))
              go_roundw
              case rel => exact ⟨i + 1, L, false, by have := HI.out; omega, by have := HI.out; omega, by go_num, HT8, Lib.hid (HZ.out)⟩
              case measure => have := HI.out; simp [intOf]; omega
            · have k3 : (kd == 3) = false := by simpa using hk3
              have HT9 := Lib.hid HT.out
              go_wp2_with (first
                | (go_at_call 128; (with_reducible refine HT9.out.ps.since.mono ?_); rintro e w8 ⟨rfl, hp8, ho8⟩; (have HT8 := Lib.hid (⟨hp8, HT9.out.rp.keep HT9.out.ps.row ho8, HT9.out.hy⟩ : BoP W w8 x y P B l t)); obtain ⟨A8, c8', hr8, _⟩ := HT8.out.rp.row; have c82 := (rpcells hr8).2.2.1; have hy8 := hr8.inside; clear hp8 ho8 hr8)
                | (go_at_call 129; (with_reducible refine (rpsum HT8.out.rp).mono ?_); rintro e w9 ⟨rfl, rfl⟩))
              go_roundw
              case rel => exact ⟨i + 1, l, t, by have := HI.out; omega, by have := HI.out; omega, by go_num, HT8, Lib.hid (by have := HLr.out; omega)⟩
              case measure => have := HI.out; simp [intOf]; omega
    · have HB0 := Lib.hid HBr.out.ps.bl
      have HNN := Lib.hid (show NoP (wr.alloc (.cells #[.int .i64 0, .int .i64 0, .int .i64 0, .int .i64 0, .bool false] 202)) none from .inl rfl)
      have HNZ := Lib.hid (show NoP (wr.alloc (.cells #[.int .i64 0, .int .i64 0, .int .i64 0, .int .i64 0, .bool false] 202)) (some ⟨wr.heap.size, 0, none⟩) from .inr ⟨_, rfl, Row.made wr _ _⟩)
      have HB1 := Lib.hid (bl_alloc HB0.out (.cells #[.int .i64 0, .int .i64 0, .int .i64 0, .int .i64 0, .bool false] 202))
      have HZR := Lib.hid (Row.made wr 202 #[.int .i64 0, .int .i64 0, .int .i64 0, .int .i64 0, .bool false])
      by_cases hc1 : i < n0
      · have hi2 : ¬ (i : Int) < 200 := by omega
        have hi1 : (i : Int) < n0 := by omega
        clear hlt
        go_wp2_with (first
          | (go_at_call 127; (with_reducible refine (preset_no HNN.out).mono ?_); rintro e w5 ⟨rfl, rfl⟩)
          | (go_at_call 128; (with_reducible refine (psince_no HNN.out).mono ?_); rintro e w5 ⟨rfl, rfl⟩)
          | (go_at_call 122; (with_reducible refine (HA.out _).mono ?_); rintro e w2 ⟨rfl, hb⟩; (have HB2 := Lib.hid (bl_step HB1.out hb); have HNN2 := Lib.hid (show NoP w2 none from .inl rfl); have HNZ2 := Lib.hid (show NoP w2 (some ⟨wr.heap.size, 0, none⟩) from .inr ⟨_, rfl, HZR.out.later hb⟩); clear hb))
          | (go_at_call 123; (with_reducible refine (psent_no HNN2.out).mono ?_); rintro e w5 ⟨rfl, rfl⟩)
          | (go_at_call 123; (with_reducible refine (psent_no HNZ2.out).mono ?_); rintro e w5 ⟨rfl, rfl⟩)
          | (go_at_call 124; (with_reducible refine (pwant_no HNN2.out).mono ?_); rintro e w5 ⟨rfl, rfl⟩)
          | (go_at_call 124; (with_reducible refine (pwant_no HNZ2.out).mono ?_); rintro e w5 ⟨rfl, rfl⟩)
          | (go_at_call 125; (with_reducible refine (pask_no HNN2.out).mono ?_); rintro e w5 ⟨rfl, rfl⟩)
          | (go_at_call 125; (with_reducible refine (pask_no HNZ2.out).mono ?_); rintro e w5 ⟨rfl, rfl⟩))
        go_ret
        exact ⟨rfl, HB2.out⟩
      · have hi1 : ¬ (i : Int) < n0 := by omega
        clear hlt
        go_wp2_with (first
          | (go_at_call 127; (with_reducible refine (preset_no HNN.out).mono ?_); rintro e w5 ⟨rfl, rfl⟩)
          | (go_at_call 128; (with_reducible refine (psince_no HNN.out).mono ?_); rintro e w5 ⟨rfl, rfl⟩)
          | (go_at_call 122; (with_reducible refine (HA.out _).mono ?_); rintro e w2 ⟨rfl, hb⟩; (have HB2 := Lib.hid (bl_step HB1.out hb); have HNN2 := Lib.hid (show NoP w2 none from .inl rfl); have HNZ2 := Lib.hid (show NoP w2 (some ⟨wr.heap.size, 0, none⟩) from .inr ⟨_, rfl, HZR.out.later hb⟩); clear hb))
          | (go_at_call 123; (with_reducible refine (psent_no HNN2.out).mono ?_); rintro e w5 ⟨rfl, rfl⟩)
          | (go_at_call 123; (with_reducible refine (psent_no HNZ2.out).mono ?_); rintro e w5 ⟨rfl, rfl⟩)
          | (go_at_call 124; (with_reducible refine (pwant_no HNN2.out).mono ?_); rintro e w5 ⟨rfl, rfl⟩)
          | (go_at_call 124; (with_reducible refine (pwant_no HNZ2.out).mono ?_); rintro e w5 ⟨rfl, rfl⟩)
          | (go_at_call 125; (with_reducible refine (pask_no HNN2.out).mono ?_); rintro e w5 ⟨rfl, rfl⟩)
          | (go_at_call 125; (with_reducible refine (pask_no HNZ2.out).mono ?_); rintro e w5 ⟨rfl, rfl⟩))
        go_ret
        exact ⟨rfl, HB2.out⟩
end
end Go.Proofs.Ytfgjlhklioijmaa
namespace Go.Proofs.Ytfgjlhklioijmaa
open Go.RowKit

theorem plives_every (P B : Int) (A : Option Addr) (l : List (Int × Int × Bool × Bool)) (c : Nat) {n : Nat} (w : World) (hl : l.length = n) (hn : n ≤ 9223372036854775807) (hs : PSrc21 w A l) : Calls Try.prog 17 #[.int .i64 P, .int .i64 B, .slice A n c] w fun e w' => e = .returned (.bool true) ∧ Below w.heap.size w w' := by
  by_cases hg : 1 ≤ P ∧ P ≤ 1000 ∧ 1 ≤ B ∧ B ≤ 20000
  · exact plives_ok P B A l n c w hg.1 hg.2.1 hg.2.2.1 hg.2.2.2 hl hn hs
  · exact plives_no P B A n c w hg
end Go.Proofs.Ytfgjlhklioijmaa
