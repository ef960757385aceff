/-
  status: the law StatusWrites where the status may not be. A region that draws its order, walked by hand. status: the law StatusWrites where the status has bytes. status: the law StatusWrites, put together. A law's row follows from its walk: the call returns true, and below the heap's old size the world is as it was; then every argument reads as it did. How the packets and bytes that a statement draws read.
-/
import Derived.Test.YtbdjgdkafbkdbaaJStatusWrites15
import Derived.Deep.RegionHeld3
import Derived.Test.YtbdjgdkafbkdbaaJStatusWrites01
import Derived.Test.YtbdjgdkafbkdbaaRows
import Derived.WalkKit
import Derived.ProofKit
import Derived.OpenShut
import Derived.Test.YtbdjgdkafbkdbaaJStatusWrites09
import Derived.SizedLaws
import Derived.Deep.Matrix
import Derived.Lib.SmallJoins
namespace Go.Proofs.Ytbdjgdkafbkdbaa
open Go.RowKit

set_option maxRecDepth 100000 in
set_option maxHeartbeats 6400000 in
theorem stw_none {A B : Option Addr} {L M : List MissM} (ack bck : Int) (x : Int) (n m cap dap : Nat) (w : World) (hL : L.length = n) (hM : M.length = m) (hn : n ≤ 60) (hm : m ≤ 60) (hs : MSrc w A L) (ht : MSrc w B M) (hx : okS x = true) (hr : rightB ack L x = false) :
    Calls Try.prog 5 #[.agg #[.int .i64 ack, .slice A n cap], .agg #[.int .i64 bck, .slice B m dap], .int .i64 x] w fun e w' => e = .returned (.bool true) ∧ Below w.heap.size w w' := by
  have HW := Lib.hid (fun W (hb : Below w.heap.size w W) => stwrite_bad ack x n cap W hL (by omega) (hs.later hb) hr)
  rw [hx] at HW
  have hxx : ((x : Int) != 10) = false ∨ (((x : Int) != 10) = true ∧ ((x : Int) != 16) = false) := by
    rcases okS_nat hx with h | h
    · exact .inl (by rw [h]; rfl)
    · exact .inr ⟨by rw [h]; rfl, by rw [h]; rfl⟩
  clear hx
  have HAS := Lib.hid (fun W (hb : Below w.heap.size w W) => sas_any ack n cap W hL hn (hs.later hb))
  have HAT := Lib.hid (fun W (hb : Below w.heap.size w W) => sas_any bck m dap W hM hm (ht.later hb))
  have HRI := Lib.hid (fun W (hb : Below w.heap.size w W) => sright_any ack x n cap W hL (by omega) (hs.later hb))
  have HRR := Lib.hid (fun W A1 c1 (h : MSrc W A1 L) => rsright_any (A := A1) ack x n c1 W hL (by omega) h)
  have HSZ := Lib.hid (fun W (hb : Below w.heap.size w W) => ssize_any ack x n cap W hL (by omega) (hs.later hb))
  have HRZ := Lib.hid (fun W A1 c1 (h : MSrc W A1 L) => srsize_any (A := A1) ack x n c1 W hL (by omega) h)
  have HSM := Lib.hid (fun W (hb : Below w.heap.size w W) => ssame_any ack bck n m cap dap W hL hM (by omega) (hs.later hb) (ht.later hb))
  have HRM := Lib.hid (fun W A1 A2 c1 c2 (h1 : MSrc W A1 L) (h2 : MSrc W A2 M) => rssame_any (A := A1) (B := A2) ack bck n m c1 c2 W hL hM (by omega) h1 h2)
  have g60 : decide ((60 : Int) < n) = false := decide_eq_false (by omega)
  have g61 : decide ((60 : Int) < m) = false := decide_eq_false (by omega)
  have g62 : decide (60 < n) = false := decide_eq_false (by omega)
  have g63 : decide (60 < m) = false := decide_eq_false (by omega)
  have RS0 := Lib.hid ((Row.made w 81 #[.int .i64 ack, .slice A n cap]).more (.cells #[.int .i64 bck, .slice B m dap] 81))
  have RT0 := Lib.hid (row_at2 (w.alloc (.cells #[.int .i64 ack, .slice A n cap] 81)) (w.heap.size + 1) 81 #[.int .i64 bck, .slice B m dap] (size_1 _ _))
  have HB0 := Lib.hid (bl_alloc (bl_alloc (Below.refl w.heap.size w) (.cells #[.int .i64 ack, .slice A n cap] 81)) (.cells #[.int .i64 bck, .slice B m dap] 81))
  clear hs ht hL hM hn hm
  rw [hr] at HRI HRR
  clear hr
  generalize statusF ack L x = zz at *
  generalize eqS ack L bck M = ee at *
  obtain ⟨d0, d1⟩ := cells2x RS0.out
  obtain ⟨d2, d3⟩ := cells2x RT0.out
  go_enter Try.func5, Try.ntmps5
  go_wp2_with (first
    | (go_at_call 51; (with_reducible refine (HAS.out _ HB0.out).mono ?_); rintro e w1 ⟨A1, c1, rfl, hc1, hcm1, hs1, hb1⟩; (have HB1 := Lib.hid (bl_alloc (bl_step HB0.out hb1) (.cells #[.int .i64 ack, .slice A1 n c1] 84)); have RS1 := Lib.hid ((RS0.out.later hb1).more (.cells #[.int .i64 ack, .slice A1 n c1] 84)); have RT1 := Lib.hid ((RT0.out.later hb1).more (.cells #[.int .i64 ack, .slice A1 n c1] 84)); have RQ1 := Lib.hid (Row.made w1 84 #[.int .i64 ack, .slice A1 n c1]); have HS1 := Lib.hid (hs1.later (bl_alloc (Below.refl _ _) (.cells #[.int .i64 ack, .slice A1 n c1] 84))); clear hs1 hb1 d0 d1 d2 d3; obtain ⟨d0, d1⟩ := cells2x RS1.out))
    | (go_at_call 52; (with_reducible refine (HW.out _ HB1.out).mono ?_); rintro e w2 ⟨rfl, hb2⟩; (have HB2 := Lib.hid (bl_step HB1.out hb2); have RS2 := Lib.hid (RS1.out.later hb2); have RT2 := Lib.hid (RT1.out.later hb2); have RQ2 := Lib.hid (RQ1.out.later hb2); have HS2 := Lib.hid (HS1.out.later hb2); clear hb2 d0 d1)))
  generalize w2 = W2 at *
  generalize w1.heap.size = q at *
  have k0 : _ ∧ _ ∧ _ ∧ _ ∧ _ ∧ _ := ⟨(cells2x (RS2.out.drawn)).1, (cells2x (RS2.out.drawn)).2, (cells2x (RT2.out.drawn)).1, (cells2x (RT2.out.drawn)).2, (cells2x (RQ2.out.drawn)).1, (cells2x (RQ2.out.drawn)).2⟩
  go_region_held3 (fun w' => w'.cell? ⟨w.heap.size, 0, none⟩ = some (.int .i64 ack) ∧ w'.cell? ⟨w.heap.size, 1, none⟩ = some (.slice A n cap) ∧ w'.cell? ⟨w.heap.size + 1, 0, none⟩ = some (.int .i64 bck) ∧ w'.cell? ⟨w.heap.size + 1, 1, none⟩ = some (.slice B m dap) ∧ w'.cell? ⟨q, 0, none⟩ = some (.int .i64 ack) ∧ w'.cell? ⟨q, 1, none⟩ = some (.slice A1 n c1)) (first | assumption | exact k0 | exact k1 | exact k2 | exact k3 | exact k4 | exact k5 | exact k6 | exact k7 | go_keep) (first
    | (go_at_call 53; (with_reducible refine (HRI.out _ (bl_drew HB2.out)).mono ?_); rintro e v1 ⟨rfl, hb1⟩; (have B1 := Lib.hid (show Below W2.heap.size W2 v1 from bl_step (bl_drew (Below.refl _ _)) hb1); have k1 : _ ∧ _ ∧ _ ∧ _ ∧ _ ∧ _ := ⟨(cells2x (RS2.out.later B1.out)).1, (cells2x (RS2.out.later B1.out)).2, (cells2x (RT2.out.later B1.out)).1, (cells2x (RT2.out.later B1.out)).2, (cells2x (RQ2.out.later B1.out)).1, (cells2x (RQ2.out.later B1.out)).2⟩; clear hb1))
    | (go_at_call 54; (with_reducible refine (HRR.out _ _ _ (HS2.out.later B1.out)).mono ?_); rintro e v2 ⟨rfl, hb2⟩; (have B2 := Lib.hid (show Below W2.heap.size W2 v2 from bl_step B1.out hb2); have k2 : _ ∧ _ ∧ _ ∧ _ ∧ _ ∧ _ := ⟨(cells2x (RS2.out.later B2.out)).1, (cells2x (RS2.out.later B2.out)).2, (cells2x (RT2.out.later B2.out)).1, (cells2x (RT2.out.later B2.out)).2, (cells2x (RQ2.out.later B2.out)).1, (cells2x (RQ2.out.later B2.out)).2⟩; clear hb2))
    | (go_at_call 55; (with_reducible refine (HSZ.out _ (bl_step HB2.out B2.out)).mono ?_); rintro e v3 ⟨rfl, hb3⟩; (have B3 := Lib.hid (show Below W2.heap.size W2 v3 from bl_step B2.out hb3); have k3 : _ ∧ _ ∧ _ ∧ _ ∧ _ ∧ _ := ⟨(cells2x (RS2.out.later B3.out)).1, (cells2x (RS2.out.later B3.out)).2, (cells2x (RT2.out.later B3.out)).1, (cells2x (RT2.out.later B3.out)).2, (cells2x (RQ2.out.later B3.out)).1, (cells2x (RQ2.out.later B3.out)).2⟩; clear hb3))
    | (go_at_call 56; (with_reducible refine (HRZ.out _ _ _ (HS2.out.later B3.out)).mono ?_); rintro e v4 ⟨rfl, hb4⟩; (have B4 := Lib.hid (show Below W2.heap.size W2 v4 from bl_step B3.out hb4); have k4 : _ ∧ _ ∧ _ ∧ _ ∧ _ ∧ _ := ⟨(cells2x (RS2.out.later B4.out)).1, (cells2x (RS2.out.later B4.out)).2, (cells2x (RT2.out.later B4.out)).1, (cells2x (RT2.out.later B4.out)).2, (cells2x (RQ2.out.later B4.out)).1, (cells2x (RQ2.out.later B4.out)).2⟩; clear hb4))
    | (go_at_call 57; (with_reducible refine (HSM.out _ (bl_step HB2.out B4.out)).mono ?_); rintro e v5 ⟨rfl, hb5⟩; (have B5 := Lib.hid (show Below W2.heap.size W2 v5 from bl_step B4.out hb5); have k5 : _ ∧ _ ∧ _ ∧ _ ∧ _ ∧ _ := ⟨(cells2x (RS2.out.later B5.out)).1, (cells2x (RS2.out.later B5.out)).2, (cells2x (RT2.out.later B5.out)).1, (cells2x (RT2.out.later B5.out)).2, (cells2x (RQ2.out.later B5.out)).1, (cells2x (RQ2.out.later B5.out)).2⟩; clear hb5))
    | (go_at_call 51; (with_reducible refine (HAT.out _ (bl_step HB2.out B5.out)).mono ?_); rintro e v6 ⟨A6, c6, rfl, _, _, hs6, hb6⟩; (have B6 := Lib.hid (show Below W2.heap.size W2 v6 from bl_step B5.out hb6); have HS6 := Lib.hid hs6; have HS26 := Lib.hid (HS2.out.later B6.out); clear hs6; have k6 : _ ∧ _ ∧ _ ∧ _ ∧ _ ∧ _ := ⟨(cells2x (RS2.out.later B6.out)).1, (cells2x (RS2.out.later B6.out)).2, (cells2x (RT2.out.later B6.out)).1, (cells2x (RT2.out.later B6.out)).2, (cells2x (RQ2.out.later B6.out)).1, (cells2x (RQ2.out.later B6.out)).2⟩; clear hb6))
    | (go_at_call 58; (with_reducible refine (HRM.out _ _ _ _ _ HS26.out HS6.out).mono ?_); rintro e v7 ⟨rfl, hb7⟩; (have B7 := Lib.hid (show Below W2.heap.size W2 v7 from bl_step B6.out hb7); have k7 : _ ∧ _ ∧ _ ∧ _ ∧ _ ∧ _ := ⟨(cells2x (RS2.out.later B7.out)).1, (cells2x (RS2.out.later B7.out)).2, (cells2x (RT2.out.later B7.out)).1, (cells2x (RT2.out.later B7.out)).2, (cells2x (RQ2.out.later B7.out)).1, (cells2x (RQ2.out.later B7.out)).2⟩; clear hb7)))
  rcases hxx with hx1 | ⟨hx1, hx2⟩
  all_goals
    go_wp2_with (first
      | (go_at_call 54; (with_reducible refine (HRR.out _ _ _ (HS2.out.later B7.out)).mono ?_); rintro e v8 ⟨rfl, hb8⟩; (have B8 := Lib.hid (bl_step B7.out hb8); clear hb8))
      | (go_at_call 50; (with_reducible refine (stalive_any _).mono ?_); rintro e v9 ⟨rfl, hb9⟩))
    go_ret
    exact ⟨ret_bool (by simp), bl_step (bl_step HB2.out B8.out) hb9⟩
end Go.Proofs.Ytbdjgdkafbkdbaa
namespace Go.Proofs.Ytbdjgdkafbkdbaa
open Go.RowKit

/-- a stronger condition may be held from here on -/
theorem wpAnyH_more {P : Program} {md : Region.Mode} {ops : Array Oper} {Q : Exit → Act → World → Prop} {S S' : World → Prop} : ∀ {fuel : Nat} {listed : Array Bool} {a : Act} {w : World}, wpAnyH P md ops Q S' fuel listed a w → (∀ w, S' w → S w) → wpAnyH P md ops Q S fuel listed a w
  | 0, _, _, _, h, _ => h
  | _ + 1, _, _, _, h, hs => ⟨h.1, fun i hi => wpOp_mono (fun _ _ h' => ⟨hs _ h'.1, wpAnyH_more h'.2 hs⟩) (h.2 i hi)⟩

theorem take_at {P : Program} {md : Region.Mode} {ops : Array Oper} {Q : Exit → Act → World → Prop} {S : World → Prop} (i t : Nat) {oi : Oper} {v : Value} {fuel : Nat} {listed : Array Bool} {a : Act} {w : World} (hi : ops[i]? = some oi) (hd : oi.dst = some t)
    (hs : Region.noSelect ops = true) (hf : Region.free md ops listed i = true) (hr : (Region.ready md ops listed).contains i = true)
    (hQ : ∀ c a w, Q (.panic c) (a.put oi.dst v) w → Q (.panic c) a w) (hy : YieldsIf P ops S oi v a) (hS : S w)
    (h : wpAnyH P md ops Q S fuel (listed.setIfInBounds i true) (a.put (some t) v) w) : wpAnyH P md ops Q S (fuel + 1) listed a w :=
  wpAnyH_take hi hs hf hr hQ hy hS (by rw [hd]; exact h)

/-- what of a frame is forgotten -/
theorem wp_of_frame {P : Program} {c : Code} {Q : Exit → Act → World → Prop} {a : Act} {w : World} (xs : List (Option Value)) (h : Fr xs a) (k : ∀ a', Fr xs a' → c.wp P Q a' w) : c.wp P Q a w := k a h
end Go.Proofs.Ytbdjgdkafbkdbaa
namespace Go.Proofs.Ytbdjgdkafbkdbaa
open Go.RowKit

set_option maxRecDepth 100000 in
set_option maxHeartbeats 6400000 in
theorem stw_ok {A B : Option Addr} {L M : List MissM} (ack : Nat) (bck : Int) (x : Nat) (n m cap dap : Nat) (w : World) (hL : L.length = n) (hM : M.length = m) (hn : n ≤ 60) (hm : m ≤ 60) (hs : MSrc w A L) (ht : MSrc w B M) (hr : rightB ack L x = true) :
    Calls Try.prog 5 #[.agg #[.int .i64 ack, .slice A n cap], .agg #[.int .i64 bck, .slice B m dap], .int .i64 x] w fun e w' => e = .returned (.bool true) ∧ Below w.heap.size w w' := by
  have hx := (rightB_parts hr).2.1
  have HW := Lib.hid (fun W (hb : Below w.heap.size w W) => stwrite_ok (A := A) ack x n cap W hL (hs.later hb) hr)
  unfold StWAns at HW
  have HRW := Lib.hid (fun W A1 c1 (h : MSrc W A1 L) => stref_write (A := A1) ack x n c1 W hL h hr)
  have HCG := Lib.hid (fun W g (hrow : Row W g 5 (bts (stBytes ack L x)).toArray) => conv_str (c := (stBytes ack L x).length) hrow (pack_small _))
  have HCX := Lib.hid (fun W v BB (ho : OwnY BB W v (stBytes ack L x)) => ho.conv (pack_small _))
  have hxx : ((x : Int) != 10) = false ∨ (((x : Int) != 10) = true ∧ ((x : Int) != 16) = false) := by
    rcases okS_nat hx with h | h
    · exact .inl (by rw [h]; rfl)
    · exact .inr ⟨by rw [h]; rfl, by rw [h]; rfl⟩
  clear hx
  have HAS := Lib.hid (fun W (hb : Below w.heap.size w W) => sas_any ack n cap W hL hn (hs.later hb))
  have HAT := Lib.hid (fun W (hb : Below w.heap.size w W) => sas_any bck m dap W hM hm (ht.later hb))
  have HRI := Lib.hid (fun W (hb : Below w.heap.size w W) => sright_any ack x n cap W hL (by omega) (hs.later hb))
  have HRR := Lib.hid (fun W A1 c1 (h : MSrc W A1 L) => rsright_any (A := A1) ack x n c1 W hL (by omega) h)
  have HSZ := Lib.hid (fun W (hb : Below w.heap.size w W) => ssize_any ack x n cap W hL (by omega) (hs.later hb))
  have HRZ := Lib.hid (fun W A1 c1 (h : MSrc W A1 L) => srsize_any (A := A1) ack x n c1 W hL (by omega) h)
  have HSM := Lib.hid (fun W (hb : Below w.heap.size w W) => ssame_any ack bck n m cap dap W hL hM (by omega) (hs.later hb) (ht.later hb))
  have HRM := Lib.hid (fun W A1 A2 c1 c2 (h1 : MSrc W A1 L) (h2 : MSrc W A2 M) => rssame_any (A := A1) (B := A2) ack bck n m c1 c2 W hL hM (by omega) h1 h2)
  have g60 : decide ((60 : Int) < n) = false := decide_eq_false (by omega)
  have g61 : decide ((60 : Int) < m) = false := decide_eq_false (by omega)
  have g62 : decide (60 < n) = false := decide_eq_false (by omega)
  have g63 : decide (60 < m) = false := decide_eq_false (by omega)
  have RS0 := Lib.hid ((Row.made w 81 #[.int .i64 ack, .slice A n cap]).more (.cells #[.int .i64 bck, .slice B m dap] 81))
  have RT0 := Lib.hid (row_at2 (w.alloc (.cells #[.int .i64 ack, .slice A n cap] 81)) (w.heap.size + 1) 81 #[.int .i64 bck, .slice B m dap] (size_1 _ _))
  have HB0 := Lib.hid (bl_alloc (bl_alloc (Below.refl w.heap.size w) (.cells #[.int .i64 ack, .slice A n cap] 81)) (.cells #[.int .i64 bck, .slice B m dap] 81))
  clear hs ht hL hM hn hm
  rw [hr] at HRI HRR
  clear hr
  generalize strOf (stBytes ack L x) = st at *
  generalize stBytes ack L x = sby at *
  generalize hol : sby.length = ol at *
  generalize statusF ack L x = zz at *
  generalize eqS ack L bck M = ee at *
  obtain ⟨d0, d1⟩ := cells2x RS0.out
  obtain ⟨d2, d3⟩ := cells2x RT0.out
  go_enter Try.func5, Try.ntmps5
  go_wp2_with (first
    | (go_at_call 51; (with_reducible refine (HAS.out _ HB0.out).mono ?_); rintro e w1 ⟨A1, c1, rfl, hc1, hcm1, hs1, hb1⟩; (have HB1 := Lib.hid (bl_alloc (bl_step HB0.out hb1) (.cells #[.int .i64 ack, .slice A1 n c1] 84)); have RS1 := Lib.hid ((RS0.out.later hb1).more (.cells #[.int .i64 ack, .slice A1 n c1] 84)); have RT1 := Lib.hid ((RT0.out.later hb1).more (.cells #[.int .i64 ack, .slice A1 n c1] 84)); have RQ1 := Lib.hid (Row.made w1 84 #[.int .i64 ack, .slice A1 n c1]); have HS1 := Lib.hid (hs1.later (bl_alloc (Below.refl _ _) (.cells #[.int .i64 ack, .slice A1 n c1] 84))); clear hs1 hb1 d0 d1 d2 d3; obtain ⟨d0, d1⟩ := cells2x RS1.out))
    | (go_at_call 52; (with_reducible refine (HW.out _ HB1.out).mono ?_); rintro e w2 ⟨g, rfl, _, hrw, hb2⟩; (have HB2 := Lib.hid (bl_step HB1.out hb2); have RS2 := Lib.hid (RS1.out.later hb2); have RT2 := Lib.hid (RT1.out.later hb2); have RQ2 := Lib.hid (RQ1.out.later hb2); have HS2 := Lib.hid (HS1.out.later hb2); have HG2 := Lib.hid hrw; clear hrw; clear hb2 d0 d1)))
  generalize w2 = W2 at *
  generalize w1.heap.size = q at *
  have k0 : _ ∧ _ ∧ _ ∧ _ ∧ _ ∧ _ := ⟨(cells2x (RS2.out.drawn)).1, (cells2x (RS2.out.drawn)).2, (cells2x (RT2.out.drawn)).1, (cells2x (RT2.out.drawn)).2, (cells2x (RQ2.out.drawn)).1, (cells2x (RQ2.out.drawn)).2⟩
  go_region_held3 (fun w' => w'.cell? ⟨w.heap.size, 0, none⟩ = some (.int .i64 ack) ∧ w'.cell? ⟨w.heap.size, 1, none⟩ = some (.slice A n cap) ∧ w'.cell? ⟨w.heap.size + 1, 0, none⟩ = some (.int .i64 bck) ∧ w'.cell? ⟨w.heap.size + 1, 1, none⟩ = some (.slice B m dap) ∧ w'.cell? ⟨q, 0, none⟩ = some (.int .i64 ack) ∧ w'.cell? ⟨q, 1, none⟩ = some (.slice A1 n c1)) (first | assumption | exact k0 | exact k1 | exact k2 | exact k3 | exact k4 | exact k5 | exact k6 | exact k7 | go_keep) (first
    | (go_at_call 53; (with_reducible refine (HRI.out _ (bl_drew HB2.out)).mono ?_); rintro e v1 ⟨rfl, hb1⟩; (have B1 := Lib.hid (show Below W2.heap.size W2 v1 from bl_step (bl_drew (Below.refl _ _)) hb1); have k1 : _ ∧ _ ∧ _ ∧ _ ∧ _ ∧ _ := ⟨(cells2x (RS2.out.later B1.out)).1, (cells2x (RS2.out.later B1.out)).2, (cells2x (RT2.out.later B1.out)).1, (cells2x (RT2.out.later B1.out)).2, (cells2x (RQ2.out.later B1.out)).1, (cells2x (RQ2.out.later B1.out)).2⟩; clear hb1))
    | (go_at_call 54; (with_reducible refine (HRR.out _ _ _ (HS2.out.later B1.out)).mono ?_); rintro e v2 ⟨rfl, hb2⟩; (have B2 := Lib.hid (show Below W2.heap.size W2 v2 from bl_step B1.out hb2); have k2 : _ ∧ _ ∧ _ ∧ _ ∧ _ ∧ _ := ⟨(cells2x (RS2.out.later B2.out)).1, (cells2x (RS2.out.later B2.out)).2, (cells2x (RT2.out.later B2.out)).1, (cells2x (RT2.out.later B2.out)).2, (cells2x (RQ2.out.later B2.out)).1, (cells2x (RQ2.out.later B2.out)).2⟩; clear hb2))
    | (go_at_call 55; (with_reducible refine (HSZ.out _ (bl_step HB2.out B2.out)).mono ?_); rintro e v3 ⟨rfl, hb3⟩; (have B3 := Lib.hid (show Below W2.heap.size W2 v3 from bl_step B2.out hb3); have k3 : _ ∧ _ ∧ _ ∧ _ ∧ _ ∧ _ := ⟨(cells2x (RS2.out.later B3.out)).1, (cells2x (RS2.out.later B3.out)).2, (cells2x (RT2.out.later B3.out)).1, (cells2x (RT2.out.later B3.out)).2, (cells2x (RQ2.out.later B3.out)).1, (cells2x (RQ2.out.later B3.out)).2⟩; clear hb3))
    | (go_at_call 56; (with_reducible refine (HRZ.out _ _ _ (HS2.out.later B3.out)).mono ?_); rintro e v4 ⟨rfl, hb4⟩; (have B4 := Lib.hid (show Below W2.heap.size W2 v4 from bl_step B3.out hb4); have k4 : _ ∧ _ ∧ _ ∧ _ ∧ _ ∧ _ := ⟨(cells2x (RS2.out.later B4.out)).1, (cells2x (RS2.out.later B4.out)).2, (cells2x (RT2.out.later B4.out)).1, (cells2x (RT2.out.later B4.out)).2, (cells2x (RQ2.out.later B4.out)).1, (cells2x (RQ2.out.later B4.out)).2⟩; clear hb4))
    | (go_at_call 57; (with_reducible refine (HSM.out _ (bl_step HB2.out B4.out)).mono ?_); rintro e v5 ⟨rfl, hb5⟩; (have B5 := Lib.hid (show Below W2.heap.size W2 v5 from bl_step B4.out hb5); have k5 : _ ∧ _ ∧ _ ∧ _ ∧ _ ∧ _ := ⟨(cells2x (RS2.out.later B5.out)).1, (cells2x (RS2.out.later B5.out)).2, (cells2x (RT2.out.later B5.out)).1, (cells2x (RT2.out.later B5.out)).2, (cells2x (RQ2.out.later B5.out)).1, (cells2x (RQ2.out.later B5.out)).2⟩; clear hb5))
    | (go_at_call 51; (with_reducible refine (HAT.out _ (bl_step HB2.out B5.out)).mono ?_); rintro e v6 ⟨A6, c6, rfl, _, _, hs6, hb6⟩; (have B6 := Lib.hid (show Below W2.heap.size W2 v6 from bl_step B5.out hb6); have HS6 := Lib.hid hs6; have HS26 := Lib.hid (HS2.out.later B6.out); clear hs6; have k6 : _ ∧ _ ∧ _ ∧ _ ∧ _ ∧ _ := ⟨(cells2x (RS2.out.later B6.out)).1, (cells2x (RS2.out.later B6.out)).2, (cells2x (RT2.out.later B6.out)).1, (cells2x (RT2.out.later B6.out)).2, (cells2x (RQ2.out.later B6.out)).1, (cells2x (RQ2.out.later B6.out)).2⟩; clear hb6))
    | (go_at_call 58; (with_reducible refine (HRM.out _ _ _ _ _ HS26.out HS6.out).mono ?_); rintro e v7 ⟨rfl, hb7⟩; (have B7 := Lib.hid (show Below W2.heap.size W2 v7 from bl_step B6.out hb7); have k7 : _ ∧ _ ∧ _ ∧ _ ∧ _ ∧ _ := ⟨(cells2x (RS2.out.later B7.out)).1, (cells2x (RS2.out.later B7.out)).2, (cells2x (RT2.out.later B7.out)).1, (cells2x (RT2.out.later B7.out)).2, (cells2x (RQ2.out.later B7.out)).1, (cells2x (RQ2.out.later B7.out)).2⟩; clear hb7)))
  rcases hxx with hx1 | ⟨hx1, hx2⟩
  all_goals
    go_wp2_with (go_at_call 54; (with_reducible refine (HRR.out _ _ _ (HS2.out.later B7.out)).mono ?_); rintro e v8 ⟨rfl, hb8⟩; (have B8 := Lib.hid (bl_step B7.out hb8); clear hb8))
    refine wp_of_frame [none, none, some (.int .i64 x), none, none, none, none, some (.pointer (some ⟨q, 0, none⟩)), some (.slice (some ⟨g, 0, none⟩) ol ol), some (.int .i64 0), none, none, none, none, none, none, none, none, none, none, none, none, none, none, none, none, none, none, none, none, none, none, none, none, none, none, none, none, none, none, none, none, none, none, none, none, none, none, none, none, none, none, none, none, none, none, none, none, none, none, none, none, none, none, none, none, none, none, none, none, none, none, none, none, none, none, none, none, none, none, none, none, none, none, none, none, none, none, none, none, none, none, none, none, none, none, none, none, none] (by
      simp only [Fr, Holes]
      repeat apply Exists.intro
      rfl) ?_
    intro a' hfr
    simp only [Fr, Holes] at hfr
    repeat (obtain ⟨_, hfr⟩ := hfr)
    refine wp_region_noPanic ?_
    refine wp_region_held_drew (S := fun W => Below v8.heap.size v8 W) (by kernel_rfl) (bl_drew (Below.refl _ _)) (fun hS => ?_)
    refine wpAnyH_ready (rs := [0]) (by kernel_rfl) (by simp) ?_
    refine AllReadyH.cons rfl (fun K hK => ?_) AllReadyH.nil
    go_simp
    refine (stalive_any _).mono ?_
    rintro e u1 ⟨rfl, g1⟩
    try go_simp
    refine hK.out _ _ (bl_step hS g1) (fun hS => ?_)
    clear hK K
    try simp only [Act.put, List.setIfInBounds_toArray, List.set_cons_zero, List.set_cons_succ]
    have hBu1 : Below v8.heap.size v8 u1 := hS
    refine wpAnyH_more (S' := fun W => Below u1.heap.size u1 W) ?_ (fun _ h => bl_step hBu1 h)
    clear hS
    have hS : (fun W => Below u1.heap.size u1 W) u1 := Below.refl _ _
    refine take_at 1 86 (v := ?vq1) (by simp only [List.getElem?_toArray, List.getElem?_cons_succ, List.getElem?_cons_zero]; rfl) rfl (by kernel_rfl) (by kernel_rfl) (by kernel_rfl) (fun _ _ _ h => h) (Or.inl ⟨by rfl, ?yq1⟩) hS ?_
    case yq1 =>
      intro W hSW
      (try dsimp only at hSW)
      go_simp
      first | done | with_reducible rfl
    simp only [Act.put, List.setIfInBounds_toArray, List.set_cons_zero, List.set_cons_succ]
    refine take_at 2 87 (v := ?vq2) (by simp only [List.getElem?_toArray, List.getElem?_cons_succ, List.getElem?_cons_zero]; rfl) rfl (by kernel_rfl) (by kernel_rfl) (by kernel_rfl) (fun _ _ _ h => h) (Or.inl ⟨by rfl, ?yq2⟩) hS ?_
    case yq2 =>
      intro W hSW
      (try dsimp only at hSW)
      go_simp
      first | done | with_reducible rfl
    simp only [Act.put, List.setIfInBounds_toArray, List.set_cons_zero, List.set_cons_succ]
    refine take_at 3 88 (v := ?vq3) (by simp only [List.getElem?_toArray, List.getElem?_cons_succ, List.getElem?_cons_zero]; rfl) rfl (by kernel_rfl) (by kernel_rfl) (by kernel_rfl) (fun _ _ _ h => h) (Or.inl ⟨by rfl, ?yq3⟩) hS ?_
    case yq3 =>
      intro W hSW
      (try dsimp only at hSW)
      go_simp
      first | done | with_reducible rfl
    simp only [Act.put, List.setIfInBounds_toArray, List.set_cons_zero, List.set_cons_succ]
    refine take_at 4 89 (v := ?vq4) (by simp only [List.getElem?_toArray, List.getElem?_cons_succ, List.getElem?_cons_zero]; rfl) rfl (by kernel_rfl) (by kernel_rfl) (by kernel_rfl) (fun _ _ _ h => h) (Or.inl ⟨by rfl, ?yq4⟩) hS ?_
    case yq4 =>
      intro W hSW
      (try dsimp only at hSW)
      go_simp
      first | done | with_reducible rfl
    simp only [Act.put, List.setIfInBounds_toArray, List.set_cons_zero, List.set_cons_succ]
    refine take_at 5 90 (v := ?vq5) (by simp only [List.getElem?_toArray, List.getElem?_cons_succ, List.getElem?_cons_zero]; rfl) rfl (by kernel_rfl) (by kernel_rfl) (by kernel_rfl) (fun _ _ _ h => h) (Or.inl ⟨by rfl, ?yq5⟩) hS ?_
    case yq5 =>
      intro W hSW
      (try dsimp only at hSW)
      go_simp
      first | done | with_reducible rfl
    simp only [Act.put, List.setIfInBounds_toArray, List.set_cons_zero, List.set_cons_succ]
    refine take_at 6 91 (v := ?vq6) (by simp only [List.getElem?_toArray, List.getElem?_cons_succ, List.getElem?_cons_zero]; rfl) rfl (by kernel_rfl) (by kernel_rfl) (by kernel_rfl) (fun _ _ _ h => h) (Or.inl ⟨by rfl, ?yq6⟩) hS ?_
    case yq6 =>
      intro W hSW
      (try dsimp only at hSW)
      go_simp
      first | done | with_reducible rfl
    simp only [Act.put, List.setIfInBounds_toArray, List.set_cons_zero, List.set_cons_succ]
    refine take_at 7 92 (v := ?vq7) (by simp only [List.getElem?_toArray, List.getElem?_cons_succ, List.getElem?_cons_zero]; rfl) rfl (by kernel_rfl) (by kernel_rfl) (by kernel_rfl) (fun _ _ _ h => h) (Or.inl ⟨by rfl, ?yq7⟩) hS ?_
    case yq7 =>
      intro W hSW
      (try dsimp only at hSW)
      have z := HCG.out W g (HG2.out.later (bl_step (bl_step B8.out hBu1) hSW))
      go_simp
      first | done | with_reducible rfl
    simp only [Act.put, List.setIfInBounds_toArray, List.set_cons_zero, List.set_cons_succ]
    refine take_at 8 93 (v := ?vq8) (by simp only [List.getElem?_toArray, List.getElem?_cons_succ, List.getElem?_cons_zero]; rfl) rfl (by kernel_rfl) (by kernel_rfl) (by kernel_rfl) (fun _ _ _ h => h) (Or.inl ⟨by rfl, ?yq8⟩) hS ?_
    case yq8 =>
      intro W hSW
      (try dsimp only at hSW)
      obtain ⟨z0, z1⟩ := cells2x (RQ2.out.later (bl_step (bl_step B8.out hBu1) hSW))
      go_simp
      first | done | with_reducible rfl
    simp only [Act.put, List.setIfInBounds_toArray, List.set_cons_zero, List.set_cons_succ]
    refine take_at 9 94 (v := ?vq9) (by simp only [List.getElem?_toArray, List.getElem?_cons_succ, List.getElem?_cons_zero]; rfl) rfl (by kernel_rfl) (by kernel_rfl) (by kernel_rfl) (fun _ _ _ h => h) (Or.inl ⟨by rfl, ?yq9⟩) hS ?_
    case yq9 =>
      intro W hSW
      (try dsimp only at hSW)
      go_simp
      first | done | with_reducible rfl
    simp only [Act.put, List.setIfInBounds_toArray, List.set_cons_zero, List.set_cons_succ]
    refine wpAnyH_ready (rs := [10]) (by kernel_rfl) (by simp) ?_
    refine AllReadyH.cons rfl (fun K hK => ?_) AllReadyH.nil
    try go_simp
    refine (HRW.out _ _ _ (HS2.out.later (bl_step B8.out hBu1))).mono ?_
    rintro e u2 ⟨y3, rfl, ho3, g2⟩; have HY3 := Lib.hid ho3; clear ho3
    try go_simp
    refine hK.out _ _ (bl_step hS g2) (fun hS => ?_)
    clear hK K
    try simp only [Act.put, List.setIfInBounds_toArray, List.set_cons_zero, List.set_cons_succ]
    have hBu2 : Below u1.heap.size u1 u2 := hS
    refine wpAnyH_more (S' := fun W => Below u2.heap.size u2 W) ?_ (fun _ h => bl_step hBu2 h)
    clear hS
    have hS : (fun W => Below u2.heap.size u2 W) u2 := Below.refl _ _
    refine take_at 11 96 (v := ?vq11) (by simp only [List.getElem?_toArray, List.getElem?_cons_succ, List.getElem?_cons_zero]; rfl) rfl (by kernel_rfl) (by kernel_rfl) (by kernel_rfl) (fun _ _ _ h => h) (Or.inl ⟨by rfl, ?yq11⟩) hS ?_
    case yq11 =>
      intro W hSW
      (try dsimp only at hSW)
      have z := HCX.out W _ _ (HY3.out.later hSW)
      go_simp
      first | done | with_reducible rfl
    simp only [Act.put, List.setIfInBounds_toArray, List.set_cons_zero, List.set_cons_succ]
    refine take_at 12 97 (v := ?vq12) (by simp only [List.getElem?_toArray, List.getElem?_cons_succ, List.getElem?_cons_zero]; rfl) rfl (by kernel_rfl) (by kernel_rfl) (by kernel_rfl) (fun _ _ _ h => h) (Or.inl ⟨by rfl, ?yq12⟩) hS ?_
    case yq12 =>
      intro W hSW
      (try dsimp only at hSW)
      go_simp
      first | done | with_reducible rfl
    simp only [Act.put, List.setIfInBounds_toArray, List.set_cons_zero, List.set_cons_succ]
    refine take_at 13 98 (v := ?vq13) (by simp only [List.getElem?_toArray, List.getElem?_cons_succ, List.getElem?_cons_zero]; rfl) rfl (by kernel_rfl) (by kernel_rfl) (by kernel_rfl) (fun _ _ _ h => h) (Or.inl ⟨by rfl, ?yq13⟩) hS ?_
    case yq13 =>
      intro W hSW
      (try dsimp only at hSW)
      go_simp
      first | done | with_reducible rfl
    simp only [Act.put, List.setIfInBounds_toArray, List.set_cons_zero, List.set_cons_succ]
    refine take_at 14 6 (v := ?vq14) (by simp only [List.getElem?_toArray, List.getElem?_cons_succ, List.getElem?_cons_zero]; rfl) rfl (by kernel_rfl) (by kernel_rfl) (by kernel_rfl) (fun _ _ _ h => h) (Or.inl ⟨by rfl, ?yq14⟩) hS ?_
    case yq14 =>
      intro W hSW
      (try dsimp only at hSW)
      go_simp
      first | done | with_reducible rfl
    simp only [Act.put, List.setIfInBounds_toArray, List.set_cons_zero, List.set_cons_succ]
    refine wpAnyH_done (by kernel_rfl) ?_ _
    refine NoPanic.normal ?_
    go_wp2_with fail
    go_ret
    exact ⟨ret_bool (by simp), bl_step HB2.out (bl_step (bl_step B8.out hBu1) hBu2)⟩
end Go.Proofs.Ytbdjgdkafbkdbaa
namespace Go.Proofs.Ytbdjgdkafbkdbaa
open Go.RowKit

theorem stw_long {A B : Option Addr} (ack bck x : Int) (n cap m dap : Nat) (w : World) (hn : n ≤ 9223372036854775807) (hm : m ≤ 9223372036854775807) (h : 60 < n ∨ (n ≤ 60 ∧ 60 < m)) :
    Calls Try.prog 5 #[.agg #[.int .i64 ack, .slice A n cap], .agg #[.int .i64 bck, .slice B m dap], .int .i64 x] w fun e w' => e = .returned (.bool true) ∧ Below w.heap.size w w' := by
  have RS0 := Lib.hid ((Row.made w 81 #[.int .i64 ack, .slice A n cap]).more (.cells #[.int .i64 bck, .slice B m dap] 81))
  have RT0 := Lib.hid (row_at2 (w.alloc (.cells #[.int .i64 ack, .slice A n cap] 81)) (w.heap.size + 1) 81 #[.int .i64 bck, .slice B m dap] (size_1 _ _))
  have HB0 := Lib.hid (bl_alloc (bl_alloc (Below.refl w.heap.size w) (.cells #[.int .i64 ack, .slice A n cap] 81)) (.cells #[.int .i64 bck, .slice B m dap] 81))
  obtain ⟨d0, d1⟩ := cells2x RS0.out
  obtain ⟨d2, d3⟩ := cells2x RT0.out
  rcases h with h | ⟨h, h2⟩
  · have h1 : decide ((60 : Int) < n) = true := decide_eq_true (by omega)
    have h1' : decide (60 < n) = true := decide_eq_true (by omega)
    clear h
    go_enter Try.func5, Try.ntmps5
    go_wp2_with (go_at_call 50; (with_reducible refine (stalive_any _).mono ?_); rintro e u3 ⟨rfl, hb9⟩)
    go_ret
    exact ⟨rfl, bl_step HB0.out hb9⟩
  · have h1 : decide ((60 : Int) < n) = false := decide_eq_false (by omega)
    have h1' : decide (60 < n) = false := decide_eq_false (by omega)
    have h3 : decide ((60 : Int) < m) = true := decide_eq_true (by omega)
    have h3' : decide (60 < m) = true := decide_eq_true (by omega)
    clear h h2
    go_enter Try.func5, Try.ntmps5
    go_wp2_with (go_at_call 50; (with_reducible refine (stalive_any _).mono ?_); rintro e u3 ⟨rfl, hb9⟩)
    go_ret
    exact ⟨rfl, bl_step HB0.out hb9⟩
theorem swrites_all {A B : Option Addr} (ack bck x : Int) (L M : List MissM) (cap dap : Nat) (w : World) (hcap : L.length ≤ cap) (hcm : cap ≤ 9223372036854775807) (hs : MSrc w A L) (hdap : M.length ≤ dap) (hdm : dap ≤ 9223372036854775807) (ht : MSrc w B M) :
    Calls Try.prog 5 #[.agg #[.int .i64 ack, .slice A L.length cap], .agg #[.int .i64 bck, .slice B M.length dap], .int .i64 x] w fun e w' => e = .returned (.bool true) ∧ Below w.heap.size w w' := by
  by_cases h1 : 60 < L.length
  · exact stw_long ack bck x L.length cap M.length dap w (by omega) (by omega) (.inl h1)
  · by_cases h2 : 60 < M.length
    · exact stw_long ack bck x L.length cap M.length dap w (by omega) (by omega) (.inr ⟨by omega, h2⟩)
    · cases hk : okS x
      · exact stw_kind ack bck x L.length M.length cap dap w rfl rfl (by omega) (by omega) hs ht hk
      · cases hr : rightB ack L x
        · exact stw_none ack bck x L.length M.length cap dap w rfl rfl (by omega) (by omega) hs ht hk hr
        · obtain ⟨a, X, rfl, rfl, _⟩ := right_nats hr
          exact stw_ok a bck X L.length M.length cap dap w rfl rfl (by omega) (by omega) hs ht hr
end Go.Proofs.Ytbdjgdkafbkdbaa
namespace Go.Proofs.Ytbdjgdkafbkdbaa
open Go.ChangeShapes Go.WideShapes Go.ChangeAt Go.RowKit

theorem lawOwn : ownKnob Try.prog.godebug = none := by kernel_rfl
theorem lawLaid : laidOutB Try.prog = true := by kernel_rfl

section
variable {H : Type} {enc : TypeId × Value → H} {P : Program}
/-- what was read in the old world is read in the new one -/
theorem args_stay (hl : laidOutB P = true) {W W' : World} (hb : Below W.heap.size W W') : ∀ (ts : List TypeId) (vs : List Value) (ds : List (DataW H)) (ps : List MemPlace),
    (∀ t ∈ ts, P.readableRec t = true ∧ t < P.types.size) → DataW.TrodAll enc P W 0 (fun _ => true) true ts vs ds ps → (∀ x ∈ ps, x.block < W.heap.size) →
    DataW.TrodAll enc P W' 0 (fun b => decide (b < W.heap.size)) true ts vs ds ps := by
  intro ts
  induction ts with
  | nil =>
    intro vs ds ps _ h _
    obtain ⟨rfl, rfl, rfl⟩ := trodAll_nil h
    exact trodAll_mk0
  | cons t ts ih =>
    intro vs ds ps hr h hlt
    obtain ⟨v, vs', d, ds', p, q, rfl, rfl, rfl, h1, h2⟩ := trodAll_cons h
    have ht := hr t (List.mem_cons_self ..)
    exact trodAll_cons_mk (Below.trod hl ht.1 ht.2 h1 hb fun x hx => hlt x (List.mem_append_left _ hx))
      (ih vs' ds' q (fun u hu => hr u (List.mem_cons_of_mem _ hu)) h2 fun x hx => hlt x (List.mem_append_right _ hx))

theorem law_post {f : Func} {s : ChangeSpec} {W W' : World} {args : Array Value} {ds gs : List (DataW H)} {before : List MemPlace} {B : TypeId}
    (hl : laidOutB P = true) (hr : f.params.toList.all (fun t => P.readableRec t && decide (t < P.types.size)) = true) (hv : s.vars = [])
    (hW : DataW.Whole enc P f.params.toList s.vars false W args.toList ds gs before)
    (hs : s.fn H (ds ++ gs) = { results := [.lit (.bool true)], args := ds }) (ht : f.resultTypes = #[B]) (hB : P.underlying B = some .bool)
    (hb : Below W.heap.size W W') : s.post enc P f false true false false W args (.bool true) W' := by
  have hW' := hW
  obtain ⟨p, q, hA, hV, rfl, _, _⟩ := hW
  rw [hv] at hV
  obtain ⟨rfl, rfl⟩ := trodVars_none hV
  refine ⟨ds, [], p ++ [], [], p, [], hW', ?_, ?_, ?_, hb.frame _, fun h => by cases h⟩
  · rw [hs, ht]
    exact trodAll_mk1 (shut_bool hB true)
  · rw [hs]
    exact args_stay hl hb _ _ _ _ (fun t h => by have := List.all_eq_true.1 hr t h; simpa using this) hA fun x hx => hW'.lt x (List.mem_append_left _ hx)
  · rw [hs, hv]
    exact rfl
end
end Go.Proofs.Ytbdjgdkafbkdbaa
namespace Go.Proofs.Ytbdjgdkafbkdbaa
open Go.ChangeShapes Go.WideShapes Go.ChangeAt Go.RowKit Go.Deep


theorem Try.cells5 : Try.prog.cellsOf 5 = 1 := by kernel_rfl
theorem Try.cells61 : Try.prog.cellsOf 61 = 1 := by kernel_rfl
theorem nums_src {W : World} {a : Addr} {cap len : Nat} {zs : List Int} (hl : len ≤ cap) (hz : zs.length = cap) (hc : ∀ j, j < cap → W.cell? (a.add j) = some (.int .u8 (zs.getD j 0))) (hw : ∀ n ∈ zs, (Lit.int .u8 n).wf = true) :
    ((zs.take len).map Int.toNat).length = len ∧ Src W (some a) (bts ((zs.take len).map Int.toNat)) ∧ ∀ b ∈ (zs.take len).map Int.toNat, b < 256 := by
  have hlen : ((zs.take len).map Int.toNat).length = len := by rw [List.length_map, List.length_take]; omega
  refine ⟨hlen, fun h0 => ⟨a, rfl, fun j u hu => ?_⟩, fun b hb => ?_⟩
  · have hj : j < len := by
      have h1 := (List.getElem?_eq_some_iff.1 hu).1
      rw [length_bts, hlen] at h1
      exact h1
    have h2 := hc j (by omega)
    rw [h2]
    have hjz : j < zs.length := by omega
    have hww := bounds_u8 (hw zs[j] (List.getElem_mem hjz))
    have h3 : ((zs.take len).map Int.toNat)[j]? = some zs[j].toNat := by
      rw [List.getElem?_map, List.getElem?_take, if_pos hj, List.getElem?_eq_getElem hjz]
      rfl
    have h4 := bts_at h3
    rw [h4] at hu
    injection hu with hu
    rw [← hu, List.getD_eq_getElem?_getD, List.getElem?_eq_getElem hjz]
    simp only [Option.getD_some]
    rw [Int.toNat_of_nonneg hww.1]
  · rw [List.mem_map] at hb
    obtain ⟨z, hz2, rfl⟩ := hb
    have hww := bounds_u8 (hw z (List.mem_of_mem_take hz2))
    omega
set_option maxRecDepth 100000 in
theorem bytes_arg {H : Type} {enc : TypeId × Value → H} {W : World} {base : Nat} {v : Value} {d : DataW H} {p : List MemPlace} (hok : Value.okWide Try.prog W .any base 61 v)
    (h : DataW.Trod enc Try.prog W 0 (fun _ => true) true 61 v d p) : ∃ (A : Option Addr) (cap : Nat) (l : List Nat), v = .slice A l.length cap ∧ l.length ≤ cap ∧ cap ≤ 9223372036854775807 ∧ Src W A (bts l) ∧ ∀ b ∈ l, b < 256 := by
  obtain ⟨a0, len, cap, rfl⟩ := okWide_slice Try.underlying61 hok
  obtain ⟨fuel, hf⟩ := h
  rcases open_ints Try.underlying61 Try.underlying5 Try.cells5 hf with ⟨hcs, _⟩ | ⟨a, len', cap', zs, hcs, _, hl, hm, hz, _, hcell, hwz⟩
  · simp only [Value.cells] at hcs
    have e : Value.slice a0 len cap = .slice none 0 0 := by simpa using hcs
    rw [e]
    exact ⟨none, 0, [], rfl, Nat.le_refl _, by omega, fun h0 => absurd h0 (by simp [bts]), fun b hb => by cases hb⟩
  · have e : Value.slice a0 len cap = .slice (some a) len' cap' := by simpa [Value.cells] using hcs
    rw [e]
    have hz' : zs.length = cap' := by simpa using hz
    obtain ⟨h1, h2, h3⟩ := nums_src (W := W) (a := a) hl hz' (fun j hj => hcell j (by omega)) hwz
    exact ⟨some a, cap', _, by rw [h1], by omega, by unfold maxLen at hm; exact hm, h2, h3⟩
set_option maxRecDepth 100000 in
theorem rows_cells {H : Type} {enc : TypeId × Value → H} {W : World} {fuel : Nat} {v : Value} {y : DataW H × List MemPlace} (hf : DataW.trod enc Try.prog W 0 (fun _ => true) true fuel 57 [v] = some y) :
    ∃ (A : Option Addr) (cap : Nat) (L : List RowB), v = .slice A L.length cap ∧ L.length ≤ cap ∧ cap ≤ 9223372036854775807 ∧ RSrc W A L ∧ ∀ m ∈ lens L, m ≤ 9223372036854775807 := by
  rcases open_int_rows Try.underlying57 Try.underlying61 Try.underlying5 Try.cells61 Try.cells5 hf with ⟨hcs, _⟩ | ⟨a, len', cap', A, L, C, Z, hcs, _, hl, hm, _, hx⟩
  · have e : v = .slice none 0 0 := by simpa [Value.cells] using hcs
    rw [e]
    exact ⟨none, 0, [], rfl, Nat.le_refl _, by omega, fun h0 => absurd h0 (by simp), fun m hm => by cases hm⟩
  · have e : v = .slice (some a) len' cap' := by simpa [Value.cells] using hcs
    rw [e]
    have hlen : ((List.range len').map fun k => (⟨A k, C k, ((Z k).take (L k)).map Int.toNat⟩ : RowB)).length = len' := by simp
    have hrow : ∀ k r, ((List.range len').map fun k => (⟨A k, C k, ((Z k).take (L k)).map Int.toNat⟩ : RowB))[k]? = some r → W.cell? (a.add k) = some r.v ∧ r.ok W := by
      intro k r hr
      have hk : k < len' := by
        have h1 := (List.getElem?_eq_some_iff.1 hr).1
        rw [hlen] at h1
        exact h1
      have hr' : r = ⟨A k, C k, ((Z k).take (L k)).map Int.toNat⟩ := by
        rw [List.getElem?_map, List.getElem?_range hk] at hr
        simp only [Option.map_some, Option.some.injEq] at hr
        exact hr.symm
      subst hr'
      obtain ⟨h1, h2, h3, h4, h5, h6, h7⟩ := hx k (by omega)
      unfold maxLen at h3
      have hll : (((Z k).take (L k)).map Int.toNat).length = L k := by rw [List.length_map, List.length_take]; omega
      refine ⟨by rw [h1]; show _ = some (Value.slice (A k) (((Z k).take (L k)).map Int.toNat).length (C k)); rw [hll], ?_⟩
      cases hA : A k with
      | none =>
        have hc0 := h6 hA
        have hl0 : L k = 0 := by omega
        refine ⟨fun h0 => ?_, by rw [hll]; exact h2, h3, fun b hb => ?_⟩
        · rw [length_bts, hll] at h0; omega
        · rw [hl0] at hb; simp at hb
      | some a' =>
        obtain ⟨_, hc⟩ := h7 a' hA
        obtain ⟨_, g2, g3⟩ := nums_src (W := W) h2 h4 hc h5
        exact ⟨g2, by rw [hll]; exact h2, h3, g3⟩
    refine ⟨some a, cap', (List.range len').map fun k => ⟨A k, C k, ((Z k).take (L k)).map Int.toNat⟩, by rw [hlen], by omega, by unfold maxLen at hm; exact hm, fun h0 => ⟨a, rfl, hrow⟩, fun m hm2 => ?_⟩
    obtain ⟨k, hk⟩ := List.getElem?_of_mem hm2
    simp only [lens, List.getElem?_map, Option.map_eq_some_iff] at hk
    obtain ⟨r, hr, rfl⟩ := hk
    have h9 := (hrow k r (by rw [List.getElem?_map, Option.map_eq_some_iff]; exact hr)).2
    have := h9.2.1
    have := h9.2.2.1
    omega
set_option maxRecDepth 100000 in
/-- a packet of umd as it came in -/
theorem upack_arg {H : Type} {enc : TypeId × Value → H} {W : World} {base : Nat} {v : Value} {d : DataW H} {p : List MemPlace} (hok : Value.okWide Try.prog W .any base 108 v)
    (h : DataW.Trod enc Try.prog W 0 (fun _ => true) true 108 v d p) : ∃ (fi sn : Int) (A : Option Addr) (cap : Nat) (L : List RowB), v = .agg #[.int .i64 fi, .int .i64 sn, .slice A L.length cap] ∧ L.length ≤ cap ∧ cap ≤ 9223372036854775807 ∧ RSrc W A L ∧ ∀ m ∈ lens L, m ≤ 9223372036854775807 := by
  obtain ⟨v0, v1, v2, y0, y1, y2, k, rfl, _, _, h0, h1, h2⟩ := Joins.open_agg3 Try.underlying108 (by kernel_rfl) (by kernel_rfl) hok h
  obtain ⟨A, cap, L, rfl, g1, g2, g3, g4⟩ := rows_cells h2
  obtain ⟨fi, rfl⟩ : ∃ fi, v0 = .int .i64 fi := by
    obtain ⟨n, h9, _⟩ := DataW.trod_int Try.underlying3 h0
    exact ⟨n, by simpa using h9⟩
  obtain ⟨sn, rfl⟩ : ∃ sn, v1 = .int .i64 sn := by
    obtain ⟨n, h9, _⟩ := DataW.trod_int Try.underlying3 h1
    exact ⟨n, by simpa using h9⟩
  exact ⟨fi, sn, A, cap, L, rfl, g1, g2, g3, g4⟩
end Go.Proofs.Ytbdjgdkafbkdbaa
