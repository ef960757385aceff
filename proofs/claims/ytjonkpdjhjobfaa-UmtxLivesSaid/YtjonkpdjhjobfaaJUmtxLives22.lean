/-
  umtx: the document's sender: Build.
-/
import Derived.Test.YtjonkpdjhjobfaaJUmtxLives19
import Derived.Test.YtjonkpdjhjobfaaJUmtxLives20
import Derived.Test.YtjonkpdjhjobfaaJUmtxLives21
import Derived.Test.YtjonkpdjhjobfaaJUmtxLives14
import Derived.Test.YtjonkpdjhjobfaaJUmtxLives13
import Derived.Deep.DeepCutAuto
import Derived.Deep.CutBlock
namespace Go.Proofs.Ytjonkpdjhjobfaa
open Go.RowKit

theorem Try.underref9 : (Try.prog.underlying 58).map (fun d => match d with | .struct _ => true | _ => false) = some true := by kernel_rfl
theorem underref9_parts : ∃ fs, Try.prog.underlying 58 = some (.struct fs) := by
  obtain ⟨d, hd, h⟩ := Option.map_eq_some_iff.1 Try.underref9
  cases d with
  | struct fs => exact ⟨fs, hd⟩
  | _ => simp at h
theorem Try.inforef9 : (Try.prog.info? 58).map (·.size) = some 3 := by kernel_rfl
theorem three_cells {w : World} {g t : Nat} {x y z : Value} (h : Row w g t #[x, y, z]) : w.cell? ⟨g, 0, none⟩ = some x ∧ w.cell? ⟨g, 1, none⟩ = some y ∧ w.cell? ⟨g, 2, none⟩ = some z := ⟨h.read rfl, h.read rfl, h.read rfl⟩
theorem three_free {w : World} {g t : Nat} {x y z : Value} (h : Row w g t #[x, y, z]) : w.frozen? ⟨g, 0, none⟩ = false ∧ w.frozen? ⟨g, 1, none⟩ = false ∧ w.frozen? ⟨g, 2, none⟩ = false := ⟨h.free 0, h.free 1, h.free 2⟩
theorem below3 {w v : World} (h : Below w.heap.size w v) (a b c : Value) : Below w.heap.size w (((v.setCell ⟨w.heap.size, 0, none⟩ a).setCell ⟨w.heap.size, 1, none⟩ b).setCell ⟨w.heap.size, 2, none⟩ c) :=
  h.trans ((only3 v w.heap.size a b c).below h.size (fun k hk e => by omega))
theorem byk_ts {ts : List Txt} {E : List Ent} (h : tx ts = live 0 E) : byk E E.length = bytesF ts := by rw [byk_live, ← h, ← bytes_tx]
section
variable {w : World} {ys y B sn : Nat} {R : Int} {ts : List Txt} {E : List Ent}
/-- what the document's sender builds -/
def XRS (t : TypeId) : Prop := X34 t ∨ t = 54
def RSent (B y : Nat) (R : Int) (ys : Nat) (bits : Nat) (sn : Nat) (ts : List Txt) (m : Nat) (rm : Int) (w : World) (e : Ending) (w' : World) : Prop :=
  ∃ k n E' A c D dc L, Bld rm 11 (lenT ts) k n ∧ (0 < k ∨ 0 < n) ∧ RQ w' y B R E' ∧ E'.length = m ∧ (∀ e ∈ E', ∀ b ∈ e.bs, b < 256) ∧ live 0 E' = txR ts k n ∧
    e = .returned (.tuple #[.agg #[.int .i64 (fiT ts n), .int .i64 sn, .slice A L.length c], .slice D k dc, .int .i64 0]) ∧ texts L = fieldsT (ts.map Txt.bs) k n ∧ (w'.ownsRow w.heap.size 38 1 (.slice A L.length c) L.length (L.map RowB.v) ∧ ∀ r ∈ L, REnt w' r) ∧ L.length ≤ 100 ∧ NewIds w.heap.size w' (.slice D k dc) ((ts.take k).map Txt.id) ∧
    Row w' ys 54 #[.pointer (some ⟨y, 0, none⟩), .int .i64 bits, .int .i64 (((sn + 1) % 2 ^ bits : Nat) : Int)] ∧ KR XRS B w w'
theorem own_down9 {w : World} {m m' e n : Nat} {x : Value} {xs : List Value} (h : w.ownsRow m e 1 x n xs) (hm : m' ≤ m) : w.ownsRow m' e 1 x n xs := by
  refine ⟨h.1, ?_⟩
  rcases h.2 with h0 | ⟨g, cap, cur, e, hb, h1⟩
  · exact .inl h0
  · exact .inr ⟨g, cap, cur, e, Nat.le_trans hm hb, h1⟩
theorem NewIds.down9 {w : World} {m m' : Nat} {x : Value} {l : List Nat} (h : NewIds m w x l) (hm : m' ≤ m) : NewIds m' w x l := by
  refine ⟨h.1, ?_⟩
  rcases h.2 with h0 | ⟨g, cap, cur, e, hb, h1⟩
  · exact .inl h0
  · exact .inr ⟨g, cap, cur, e, Nat.le_trans hm hb, h1⟩
theorem rsent_end {w w6 w7 w8 wF : World} {B y ys bits sn m k c dc : Nat} {R rm n v : Int} {ts : List Txt} {E' : List Ent} {A D : Option Addr} {L : List RowB} {cs6 csN : Array Value}
    (h : Bld rm 11 (lenT ts) k n ∧ (0 < k ∨ 0 < n) ∧ RQ w6 y B R E' ∧ E'.length = m ∧ (∀ e ∈ E', ∀ b ∈ e.bs, b < 256) ∧ live 0 E' = txR ts k n ∧ texts L = fieldsT (ts.map Txt.bs) k n ∧ (w6.ownsRow w.heap.size 38 1 (.slice A L.length c) L.length (L.map RowB.v) ∧ ∀ r ∈ L, REnt w6 r) ∧ L.length ≤ 100 ∧ NewIds w.heap.size w6 (.slice D k dc) ((ts.take k).map Txt.id))
    (hS6 : Row w6 ys 54 cs6) (hN6 : Row w6 w.heap.size 58 csN) (hk : KR X34 B w w6) (h67 : Below w6.heap.size w6 w7) (h78 : Only (fun k => k = ys) w7 w8) (h8F : Only (fun k => k = w.heap.size) w8 wF) (hys : B ≤ ys)
    (hSF : Row wF ys 54 #[.pointer (some ⟨y, 0, none⟩), .int .i64 bits, .int .i64 v]) (hv : v = (((sn + 1) % 2 ^ bits : Nat) : Int)) :
    RSent B y R ys bits sn ts m rm w (.returned (.tuple #[.agg #[.int .i64 (fiT ts n), .int .i64 sn, .slice A L.length c], .slice D k dc, .int .i64 0])) wF := by
  obtain ⟨a1, a2, a3, a4, a5, a6, a7, a8, a9, a10⟩ := h
  subst hv
  have ho : Only (fun k => k = ys ∨ k = w.heap.size) w6 wF := ((Only.of_below h67 : Only (fun k => k = ys ∨ k = w.heap.size) w6 w7).andThen h78 (fun k _ e => .inl e)).andThen h8F (fun k _ e => .inr e)
  have key : ∀ g t cs, Row w6 g t cs → (g = ys ∨ g = w.heap.size) → t = 54 ∨ t = 58 := by
    rintro g t cs hr (rfl | rfl)
    · exact .inl (qlrow_same hr hS6)
    · exact .inr (qlrow_same hr hN6)
  have kown : ∀ {e n : Nat} {x : Value} {xs : List Value}, w6.ownsRow w.heap.size e 1 x n xs → e ≠ 54 → e ≠ 58 → wF.ownsRow w.heap.size e 1 x n xs := fun {e n x xs} hx h1 h2 => own_only hx ho (fun k hk' hs => by
    rcases hs with rfl | rfl
    · exact own_apart hx hS6 h1 hk'
    · exact own_apart hx hN6 h2 hk')
  obtain ⟨AL, cL, AT, cT, AG, cG, hrow, _⟩ := a3.row
  refine ⟨k, n, E', A, c, D, dc, L, a1, a2, a3.only ho (fun hs => by rcases key _ _ _ hrow hs with e | e <;> exact absurd e (by decide)) (fun g t cs hr ht hs => by rcases key _ _ _ hr hs with rfl | rfl <;> (rcases ht with ht | ht | ht | ht <;> exact absurd ht (by decide))), a4, a5, a6, rfl, a7, ⟨kown a8.1 (by decide) (by decide), fun r hr => (a8.2 r hr).only ho (fun g cs hc hs => by rcases key _ _ _ hc hs with e | e <;> exact absurd e (by decide))⟩, a9, kown a10 (by decide) (by decide), hSF, ?_⟩
  have hb := hk.base
  refine ⟨hk.base, hk.below.trans (ho.below (Nat.le_trans hk.base hk.size) (fun k hk' hs => by rcases hs with rfl | rfl <;> omega)), Nat.le_trans hk.size ho.size, fun g t cs hr hx => ?_⟩
  have hr6 := hk.rows g t cs hr (fun e => hx (.inl e))
  refine hr6.only ho (fun hs => ?_)
  rcases hs with rfl | rfl
  · exact hx (.inr (qlrow_same hr6 hS6))
  · have := hr.inside; omega
set_option maxRecDepth 100000 in
set_option maxHeartbeats 1600000 in
theorem rub_neg_5 (g : Int) (h : Row w ys 54 #[.pointer (some ⟨y, 0, none⟩), .int .i64 5, .int .i64 sn]) (hq : RQ w y B R E) (hg : g < 0) :
    Calls Try.prog 21 #[.pointer (some ⟨ys, 0, none⟩), .int .i64 g] w fun e w' => e = .returned (.tuple #[.agg #[.int .i64 0, .int .i64 0, .slice none 0 0], .slice none 0 0, .int .i64 1]) ∧ Below w.heap.size w w' := by
  have hb1 := bl_alloc (Below.refl w.heap.size w) (.cells #[.int .i64 0, .int .i64 0, .slice none 0 0] 58)
  have hb2 := bl_alloc hb1 (.cells #[.int .i64 0, .int .i64 0, .slice none 0 0] 58)
  have HB2 := Lib.hid hb2
  have HS2 := Lib.hid (h.later hb2)
  have HRN := Lib.hid ((Row.made w 58 #[.int .i64 0, .int .i64 0, .slice none 0 0]).more (.cells #[.int .i64 0, .int .i64 0, .slice none 0 0] 58))
  have hrm := Row.made (w.alloc (.cells #[.int .i64 0, .int .i64 0, .slice none 0 0] 58)) 58 #[.int .i64 0, .int .i64 0, .slice none 0 0]
  rw [show (w.alloc (.cells #[.int .i64 0, .int .i64 0, .slice none 0 0] 58)).heap.size = w.heap.size + 1 by simp] at hrm
  have HRM := Lib.hid hrm
  have HY := Lib.hid (rq_bytes (hq.later hb2))
  obtain ⟨s0, s1, s2⟩ := three_cells HS2.out
  clear h hq hb1 hb2 hrm
  go_enter Try.func21, Try.ntmps21
  go_wp2_with (first
    | (go_at_call 25; (with_reducible refine HY.out.mono ?_); rintro e w3 ⟨rfl, hb3⟩; (
        have HB3 := Lib.hid hb3
        have HRN3 := Lib.hid (HRN.out.later hb3)
        clear s0 s1 s2
        obtain ⟨s0, s1, s2⟩ := three_cells (HS2.out.later hb3)
        obtain ⟨m0, m1, m2⟩ := three_cells (HRM.out.later hb3)
        obtain ⟨n0, n1, n2⟩ := three_cells HRN3.out
        obtain ⟨f0, f1, f2⟩ := three_free HRN3.out
        clear hb3)))
  try simp only [Exit.jump]
  obtain ⟨d24, hu24⟩ := underref9_parts
  refine bodyPost_ret (results_three rfl _ _ w.heap.size 58 #[.int .i64 0, .int .i64 0, .slice none 0 0] d24 rfl (HRN.out) hu24 Try.inforef9) rfl ?_
  exact ⟨rfl, HB2.out⟩
set_option maxRecDepth 100000 in
set_option maxHeartbeats 1600000 in
theorem rub_big_5 (g : Int) (h : Row w ys 54 #[.pointer (some ⟨y, 0, none⟩), .int .i64 5, .int .i64 sn]) (hq : RQ w y B R E) (hg : 4096 < g) :
    Calls Try.prog 21 #[.pointer (some ⟨ys, 0, none⟩), .int .i64 g] w fun e w' => e = .returned (.tuple #[.agg #[.int .i64 0, .int .i64 0, .slice none 0 0], .slice none 0 0, .int .i64 1]) ∧ Below w.heap.size w w' := by
  have hb1 := bl_alloc (Below.refl w.heap.size w) (.cells #[.int .i64 0, .int .i64 0, .slice none 0 0] 58)
  have hb2 := bl_alloc hb1 (.cells #[.int .i64 0, .int .i64 0, .slice none 0 0] 58)
  have HB2 := Lib.hid hb2
  have HS2 := Lib.hid (h.later hb2)
  have HRN := Lib.hid ((Row.made w 58 #[.int .i64 0, .int .i64 0, .slice none 0 0]).more (.cells #[.int .i64 0, .int .i64 0, .slice none 0 0] 58))
  have hrm := Row.made (w.alloc (.cells #[.int .i64 0, .int .i64 0, .slice none 0 0] 58)) 58 #[.int .i64 0, .int .i64 0, .slice none 0 0]
  rw [show (w.alloc (.cells #[.int .i64 0, .int .i64 0, .slice none 0 0] 58)).heap.size = w.heap.size + 1 by simp] at hrm
  have HRM := Lib.hid hrm
  have HY := Lib.hid (rq_bytes (hq.later hb2))
  obtain ⟨s0, s1, s2⟩ := three_cells HS2.out
  have hg0 : ¬ g < 0 := by omega
  clear h hq hb1 hb2 hrm
  go_enter Try.func21, Try.ntmps21
  go_wp2_with (first
    | (go_at_call 25; (with_reducible refine HY.out.mono ?_); rintro e w3 ⟨rfl, hb3⟩; (
        have HB3 := Lib.hid hb3
        have HRN3 := Lib.hid (HRN.out.later hb3)
        clear s0 s1 s2
        obtain ⟨s0, s1, s2⟩ := three_cells (HS2.out.later hb3)
        obtain ⟨m0, m1, m2⟩ := three_cells (HRM.out.later hb3)
        obtain ⟨n0, n1, n2⟩ := three_cells HRN3.out
        obtain ⟨f0, f1, f2⟩ := three_free HRN3.out
        clear hb3)))
  try simp only [Exit.jump]
  obtain ⟨d24, hu24⟩ := underref9_parts
  refine bodyPost_ret (results_three rfl _ _ w.heap.size 58 #[.int .i64 0, .int .i64 0, .slice none 0 0] d24 rfl (HRN.out) hu24 Try.inforef9) rfl ?_
  exact ⟨rfl, HB2.out⟩
set_option maxRecDepth 100000 in
set_option maxHeartbeats 1600000 in
theorem rub_none_5 (g : Int) (h : Row w ys 54 #[.pointer (some ⟨y, 0, none⟩), .int .i64 5, .int .i64 sn]) (hq : RQ w y B R E) (hg0 : 0 ≤ g) (hg1 : g ≤ 4096) (hz : byk E E.length = 0) :
    Calls Try.prog 21 #[.pointer (some ⟨ys, 0, none⟩), .int .i64 g] w fun e w' => e = .returned (.tuple #[.agg #[.int .i64 0, .int .i64 0, .slice none 0 0], .slice none 0 0, .int .i64 4]) ∧ Below w.heap.size w w' := by
  have hb1 := bl_alloc (Below.refl w.heap.size w) (.cells #[.int .i64 0, .int .i64 0, .slice none 0 0] 58)
  have hb2 := bl_alloc hb1 (.cells #[.int .i64 0, .int .i64 0, .slice none 0 0] 58)
  have HB2 := Lib.hid hb2
  have HS2 := Lib.hid (h.later hb2)
  have HRN := Lib.hid ((Row.made w 58 #[.int .i64 0, .int .i64 0, .slice none 0 0]).more (.cells #[.int .i64 0, .int .i64 0, .slice none 0 0] 58))
  have hrm := Row.made (w.alloc (.cells #[.int .i64 0, .int .i64 0, .slice none 0 0] 58)) 58 #[.int .i64 0, .int .i64 0, .slice none 0 0]
  rw [show (w.alloc (.cells #[.int .i64 0, .int .i64 0, .slice none 0 0] 58)).heap.size = w.heap.size + 1 by simp] at hrm
  have HRM := Lib.hid hrm
  have HY := Lib.hid (rq_bytes (hq.later hb2))
  obtain ⟨s0, s1, s2⟩ := three_cells HS2.out
  rw [hz] at HY
  have hg2 : ¬ g < 0 := by omega
  have hg3 : ¬ 4096 < g := by omega
  clear h hq hb1 hb2 hrm
  go_enter Try.func21, Try.ntmps21
  go_wp2_with (first
    | (go_at_call 25; (with_reducible refine HY.out.mono ?_); rintro e w3 ⟨rfl, hb3⟩; (
        have HB3 := Lib.hid hb3
        have HRN3 := Lib.hid (HRN.out.later hb3)
        clear s0 s1 s2
        obtain ⟨s0, s1, s2⟩ := three_cells (HS2.out.later hb3)
        obtain ⟨m0, m1, m2⟩ := three_cells (HRM.out.later hb3)
        obtain ⟨n0, n1, n2⟩ := three_cells HRN3.out
        obtain ⟨f0, f1, f2⟩ := three_free HRN3.out
        clear hb3)))
  try simp only [Exit.jump]
  obtain ⟨d24, hu24⟩ := underref9_parts
  refine bodyPost_ret (results_three rfl _ _ w.heap.size 58 #[.int .i64 0, .int .i64 0, .slice none 0 0] d24 rfl ((((HRN3.out.written 0 (.int .i64 0)).written 1 (.int .i64 0)).written 2 (.slice none 0 0))) hu24 Try.inforef9) rfl ?_
  exact ⟨rfl, below3 (bl_step HB2.out HB3.out) _ _ _⟩
set_option maxRecDepth 100000 in
set_option maxHeartbeats 1600000 in
theorem rub_grant_5 (g : Int) (h : Row w ys 54 #[.pointer (some ⟨y, 0, none⟩), .int .i64 5, .int .i64 sn]) (hq : RQ w y B R E) (hg0 : 0 ≤ g) (hg1 : g ≤ 4096) (hz : byk E E.length ≠ 0) (hg : g ≤ 1) :
    Calls Try.prog 21 #[.pointer (some ⟨ys, 0, none⟩), .int .i64 g] w fun e w' => e = .returned (.tuple #[.agg #[.int .i64 0, .int .i64 0, .slice none 0 0], .slice none 0 0, .int .i64 16]) ∧ Below w.heap.size w w' := by
  have hb1 := bl_alloc (Below.refl w.heap.size w) (.cells #[.int .i64 0, .int .i64 0, .slice none 0 0] 58)
  have hb2 := bl_alloc hb1 (.cells #[.int .i64 0, .int .i64 0, .slice none 0 0] 58)
  have HB2 := Lib.hid hb2
  have HS2 := Lib.hid (h.later hb2)
  have HRN := Lib.hid ((Row.made w 58 #[.int .i64 0, .int .i64 0, .slice none 0 0]).more (.cells #[.int .i64 0, .int .i64 0, .slice none 0 0] 58))
  have hrm := Row.made (w.alloc (.cells #[.int .i64 0, .int .i64 0, .slice none 0 0] 58)) 58 #[.int .i64 0, .int .i64 0, .slice none 0 0]
  rw [show (w.alloc (.cells #[.int .i64 0, .int .i64 0, .slice none 0 0] 58)).heap.size = w.heap.size + 1 by simp] at hrm
  have HRM := Lib.hid hrm
  have HY := Lib.hid (rq_bytes (hq.later hb2))
  obtain ⟨s0, s1, s2⟩ := three_cells HS2.out
  have hz0 : (((byk E E.length : Nat) : Int) == 0) = false := by simpa using hz
  have hg2 : ¬ g < 0 := by omega
  have hg3 : ¬ 4096 < g := by omega
  clear h hq hb1 hb2 hrm
  go_enter Try.func21, Try.ntmps21
  go_wp2_with (first
    | (go_at_call 25; (with_reducible refine HY.out.mono ?_); rintro e w3 ⟨rfl, hb3⟩; (
        have HB3 := Lib.hid hb3
        have HRN3 := Lib.hid (HRN.out.later hb3)
        clear s0 s1 s2
        obtain ⟨s0, s1, s2⟩ := three_cells (HS2.out.later hb3)
        obtain ⟨m0, m1, m2⟩ := three_cells (HRM.out.later hb3)
        obtain ⟨n0, n1, n2⟩ := three_cells HRN3.out
        obtain ⟨f0, f1, f2⟩ := three_free HRN3.out
        clear hb3)))
  try simp only [Exit.jump]
  obtain ⟨d24, hu24⟩ := underref9_parts
  refine bodyPost_ret (results_three rfl _ _ w.heap.size 58 #[.int .i64 0, .int .i64 0, .slice none 0 0] d24 rfl ((((HRN3.out.written 0 (.int .i64 0)).written 1 (.int .i64 0)).written 2 (.slice none 0 0))) hu24 Try.inforef9) rfl ?_
  exact ⟨rfl, below3 (bl_step HB2.out HB3.out) _ _ _⟩
set_option maxRecDepth 100000 in
set_option maxHeartbeats 1600000 in
theorem rub_neg_10 (g : Int) (h : Row w ys 54 #[.pointer (some ⟨y, 0, none⟩), .int .i64 10, .int .i64 sn]) (hq : RQ w y B R E) (hg : g < 0) :
    Calls Try.prog 21 #[.pointer (some ⟨ys, 0, none⟩), .int .i64 g] w fun e w' => e = .returned (.tuple #[.agg #[.int .i64 0, .int .i64 0, .slice none 0 0], .slice none 0 0, .int .i64 1]) ∧ Below w.heap.size w w' := by
  have hb1 := bl_alloc (Below.refl w.heap.size w) (.cells #[.int .i64 0, .int .i64 0, .slice none 0 0] 58)
  have hb2 := bl_alloc hb1 (.cells #[.int .i64 0, .int .i64 0, .slice none 0 0] 58)
  have HB2 := Lib.hid hb2
  have HS2 := Lib.hid (h.later hb2)
  have HRN := Lib.hid ((Row.made w 58 #[.int .i64 0, .int .i64 0, .slice none 0 0]).more (.cells #[.int .i64 0, .int .i64 0, .slice none 0 0] 58))
  have hrm := Row.made (w.alloc (.cells #[.int .i64 0, .int .i64 0, .slice none 0 0] 58)) 58 #[.int .i64 0, .int .i64 0, .slice none 0 0]
  rw [show (w.alloc (.cells #[.int .i64 0, .int .i64 0, .slice none 0 0] 58)).heap.size = w.heap.size + 1 by simp] at hrm
  have HRM := Lib.hid hrm
  have HY := Lib.hid (rq_bytes (hq.later hb2))
  obtain ⟨s0, s1, s2⟩ := three_cells HS2.out
  clear h hq hb1 hb2 hrm
  go_enter Try.func21, Try.ntmps21
  go_wp2_with (first
    | (go_at_call 25; (with_reducible refine HY.out.mono ?_); rintro e w3 ⟨rfl, hb3⟩; (
        have HB3 := Lib.hid hb3
        have HRN3 := Lib.hid (HRN.out.later hb3)
        clear s0 s1 s2
        obtain ⟨s0, s1, s2⟩ := three_cells (HS2.out.later hb3)
        obtain ⟨m0, m1, m2⟩ := three_cells (HRM.out.later hb3)
        obtain ⟨n0, n1, n2⟩ := three_cells HRN3.out
        obtain ⟨f0, f1, f2⟩ := three_free HRN3.out
        clear hb3)))
  try simp only [Exit.jump]
  obtain ⟨d24, hu24⟩ := underref9_parts
  refine bodyPost_ret (results_three rfl _ _ w.heap.size 58 #[.int .i64 0, .int .i64 0, .slice none 0 0] d24 rfl (HRN.out) hu24 Try.inforef9) rfl ?_
  exact ⟨rfl, HB2.out⟩
set_option maxRecDepth 100000 in
set_option maxHeartbeats 1600000 in
theorem rub_big_10 (g : Int) (h : Row w ys 54 #[.pointer (some ⟨y, 0, none⟩), .int .i64 10, .int .i64 sn]) (hq : RQ w y B R E) (hg : 4096 < g) :
    Calls Try.prog 21 #[.pointer (some ⟨ys, 0, none⟩), .int .i64 g] w fun e w' => e = .returned (.tuple #[.agg #[.int .i64 0, .int .i64 0, .slice none 0 0], .slice none 0 0, .int .i64 1]) ∧ Below w.heap.size w w' := by
  have hb1 := bl_alloc (Below.refl w.heap.size w) (.cells #[.int .i64 0, .int .i64 0, .slice none 0 0] 58)
  have hb2 := bl_alloc hb1 (.cells #[.int .i64 0, .int .i64 0, .slice none 0 0] 58)
  have HB2 := Lib.hid hb2
  have HS2 := Lib.hid (h.later hb2)
  have HRN := Lib.hid ((Row.made w 58 #[.int .i64 0, .int .i64 0, .slice none 0 0]).more (.cells #[.int .i64 0, .int .i64 0, .slice none 0 0] 58))
  have hrm := Row.made (w.alloc (.cells #[.int .i64 0, .int .i64 0, .slice none 0 0] 58)) 58 #[.int .i64 0, .int .i64 0, .slice none 0 0]
  rw [show (w.alloc (.cells #[.int .i64 0, .int .i64 0, .slice none 0 0] 58)).heap.size = w.heap.size + 1 by simp] at hrm
  have HRM := Lib.hid hrm
  have HY := Lib.hid (rq_bytes (hq.later hb2))
  obtain ⟨s0, s1, s2⟩ := three_cells HS2.out
  have hg0 : ¬ g < 0 := by omega
  clear h hq hb1 hb2 hrm
  go_enter Try.func21, Try.ntmps21
  go_wp2_with (first
    | (go_at_call 25; (with_reducible refine HY.out.mono ?_); rintro e w3 ⟨rfl, hb3⟩; (
        have HB3 := Lib.hid hb3
        have HRN3 := Lib.hid (HRN.out.later hb3)
        clear s0 s1 s2
        obtain ⟨s0, s1, s2⟩ := three_cells (HS2.out.later hb3)
        obtain ⟨m0, m1, m2⟩ := three_cells (HRM.out.later hb3)
        obtain ⟨n0, n1, n2⟩ := three_cells HRN3.out
        obtain ⟨f0, f1, f2⟩ := three_free HRN3.out
        clear hb3)))
  try simp only [Exit.jump]
  obtain ⟨d24, hu24⟩ := underref9_parts
  refine bodyPost_ret (results_three rfl _ _ w.heap.size 58 #[.int .i64 0, .int .i64 0, .slice none 0 0] d24 rfl (HRN.out) hu24 Try.inforef9) rfl ?_
  exact ⟨rfl, HB2.out⟩
set_option maxRecDepth 100000 in
set_option maxHeartbeats 1600000 in
theorem rub_none_10 (g : Int) (h : Row w ys 54 #[.pointer (some ⟨y, 0, none⟩), .int .i64 10, .int .i64 sn]) (hq : RQ w y B R E) (hg0 : 0 ≤ g) (hg1 : g ≤ 4096) (hz : byk E E.length = 0) :
    Calls Try.prog 21 #[.pointer (some ⟨ys, 0, none⟩), .int .i64 g] w fun e w' => e = .returned (.tuple #[.agg #[.int .i64 0, .int .i64 0, .slice none 0 0], .slice none 0 0, .int .i64 4]) ∧ Below w.heap.size w w' := by
  have hb1 := bl_alloc (Below.refl w.heap.size w) (.cells #[.int .i64 0, .int .i64 0, .slice none 0 0] 58)
  have hb2 := bl_alloc hb1 (.cells #[.int .i64 0, .int .i64 0, .slice none 0 0] 58)
  have HB2 := Lib.hid hb2
  have HS2 := Lib.hid (h.later hb2)
  have HRN := Lib.hid ((Row.made w 58 #[.int .i64 0, .int .i64 0, .slice none 0 0]).more (.cells #[.int .i64 0, .int .i64 0, .slice none 0 0] 58))
  have hrm := Row.made (w.alloc (.cells #[.int .i64 0, .int .i64 0, .slice none 0 0] 58)) 58 #[.int .i64 0, .int .i64 0, .slice none 0 0]
  rw [show (w.alloc (.cells #[.int .i64 0, .int .i64 0, .slice none 0 0] 58)).heap.size = w.heap.size + 1 by simp] at hrm
  have HRM := Lib.hid hrm
  have HY := Lib.hid (rq_bytes (hq.later hb2))
  obtain ⟨s0, s1, s2⟩ := three_cells HS2.out
  rw [hz] at HY
  have hg2 : ¬ g < 0 := by omega
  have hg3 : ¬ 4096 < g := by omega
  clear h hq hb1 hb2 hrm
  go_enter Try.func21, Try.ntmps21
  go_wp2_with (first
    | (go_at_call 25; (with_reducible refine HY.out.mono ?_); rintro e w3 ⟨rfl, hb3⟩; (
        have HB3 := Lib.hid hb3
        have HRN3 := Lib.hid (HRN.out.later hb3)
        clear s0 s1 s2
        obtain ⟨s0, s1, s2⟩ := three_cells (HS2.out.later hb3)
        obtain ⟨m0, m1, m2⟩ := three_cells (HRM.out.later hb3)
        obtain ⟨n0, n1, n2⟩ := three_cells HRN3.out
        obtain ⟨f0, f1, f2⟩ := three_free HRN3.out
        clear hb3)))
  try simp only [Exit.jump]
  obtain ⟨d24, hu24⟩ := underref9_parts
  refine bodyPost_ret (results_three rfl _ _ w.heap.size 58 #[.int .i64 0, .int .i64 0, .slice none 0 0] d24 rfl ((((HRN3.out.written 0 (.int .i64 0)).written 1 (.int .i64 0)).written 2 (.slice none 0 0))) hu24 Try.inforef9) rfl ?_
  exact ⟨rfl, below3 (bl_step HB2.out HB3.out) _ _ _⟩
set_option maxRecDepth 100000 in
set_option maxHeartbeats 1600000 in
theorem rub_grant_10 (g : Int) (h : Row w ys 54 #[.pointer (some ⟨y, 0, none⟩), .int .i64 10, .int .i64 sn]) (hq : RQ w y B R E) (hg0 : 0 ≤ g) (hg1 : g ≤ 4096) (hz : byk E E.length ≠ 0) (hg : g ≤ 2) :
    Calls Try.prog 21 #[.pointer (some ⟨ys, 0, none⟩), .int .i64 g] w fun e w' => e = .returned (.tuple #[.agg #[.int .i64 0, .int .i64 0, .slice none 0 0], .slice none 0 0, .int .i64 16]) ∧ Below w.heap.size w w' := by
  have hb1 := bl_alloc (Below.refl w.heap.size w) (.cells #[.int .i64 0, .int .i64 0, .slice none 0 0] 58)
  have hb2 := bl_alloc hb1 (.cells #[.int .i64 0, .int .i64 0, .slice none 0 0] 58)
  have HB2 := Lib.hid hb2
  have HS2 := Lib.hid (h.later hb2)
  have HRN := Lib.hid ((Row.made w 58 #[.int .i64 0, .int .i64 0, .slice none 0 0]).more (.cells #[.int .i64 0, .int .i64 0, .slice none 0 0] 58))
  have hrm := Row.made (w.alloc (.cells #[.int .i64 0, .int .i64 0, .slice none 0 0] 58)) 58 #[.int .i64 0, .int .i64 0, .slice none 0 0]
  rw [show (w.alloc (.cells #[.int .i64 0, .int .i64 0, .slice none 0 0] 58)).heap.size = w.heap.size + 1 by simp] at hrm
  have HRM := Lib.hid hrm
  have HY := Lib.hid (rq_bytes (hq.later hb2))
  obtain ⟨s0, s1, s2⟩ := three_cells HS2.out
  have hz0 : (((byk E E.length : Nat) : Int) == 0) = false := by simpa using hz
  have hg2 : ¬ g < 0 := by omega
  have hg3 : ¬ 4096 < g := by omega
  clear h hq hb1 hb2 hrm
  go_enter Try.func21, Try.ntmps21
  go_wp2_with (first
    | (go_at_call 25; (with_reducible refine HY.out.mono ?_); rintro e w3 ⟨rfl, hb3⟩; (
        have HB3 := Lib.hid hb3
        have HRN3 := Lib.hid (HRN.out.later hb3)
        clear s0 s1 s2
        obtain ⟨s0, s1, s2⟩ := three_cells (HS2.out.later hb3)
        obtain ⟨m0, m1, m2⟩ := three_cells (HRM.out.later hb3)
        obtain ⟨n0, n1, n2⟩ := three_cells HRN3.out
        obtain ⟨f0, f1, f2⟩ := three_free HRN3.out
        clear hb3)))
  try simp only [Exit.jump]
  obtain ⟨d24, hu24⟩ := underref9_parts
  refine bodyPost_ret (results_three rfl _ _ w.heap.size 58 #[.int .i64 0, .int .i64 0, .slice none 0 0] d24 rfl ((((HRN3.out.written 0 (.int .i64 0)).written 1 (.int .i64 0)).written 2 (.slice none 0 0))) hu24 Try.inforef9) rfl ?_
  exact ⟨rfl, below3 (bl_step HB2.out HB3.out) _ _ _⟩
set_option maxRecDepth 100000 in
set_option maxHeartbeats 6400000 in
theorem rub_ok_5 (g : Int) (h : Row w ys 54 #[.pointer (some ⟨y, 0, none⟩), .int .i64 5, .int .i64 sn]) (hq : RQ w y B R E) (hl : tx ts = live 0 E) (hB : B ≤ w.heap.size) (h8 : ∀ e ∈ E, ∀ b ∈ e.bs, b < 256) (hys : B ≤ ys) (hsn : sn < 2 ^ 5) (hp : ∀ t ∈ ts, 0 < t.bs.length) (hf : faultU g (bytesF ts : Nat) 5 = 0) :
    Calls Try.prog 21 #[.pointer (some ⟨ys, 0, none⟩), .int .i64 g] w (RSent B y R ys 5 sn ts E.length (min g 4000 - 1) w) := by
  have h00 := faultU_zero hf
  obtain ⟨hg0, hg1, hz0, hgh⟩ := h00
  have hlp := lenT_pos hp
  have hl0 : 0 < (lenT ts).length := by
    rcases Nat.eq_zero_or_pos (lenT ts).length with h9 | h9
    · rw [length_lenT] at h9
      have := List.eq_nil_of_length_eq_zero h9
      subst this
      exact absurd rfl hz0
    · exact h9
  have hby := byk_ts hl
  have hgh : (1 : Int) < g := by simpa using hgh
  have hb1 := bl_alloc (Below.refl w.heap.size w) (.cells #[.int .i64 0, .int .i64 0, .slice none 0 0] 58)
  have hb2 := bl_alloc hb1 (.cells #[.int .i64 0, .int .i64 0, .slice none 0 0] 58)
  have HB2 := Lib.hid hb2
  have HS2 := Lib.hid (h.later hb2)
  have HRN := Lib.hid ((Row.made w 58 #[.int .i64 0, .int .i64 0, .slice none 0 0]).more (.cells #[.int .i64 0, .int .i64 0, .slice none 0 0] 58))
  have hrm := Row.made (w.alloc (.cells #[.int .i64 0, .int .i64 0, .slice none 0 0] 58)) 58 #[.int .i64 0, .int .i64 0, .slice none 0 0]
  rw [show (w.alloc (.cells #[.int .i64 0, .int .i64 0, .slice none 0 0] 58)).heap.size = w.heap.size + 1 by simp] at hrm
  have HRM := Lib.hid hrm
  have hyb := rq_bytes (hq.later hb2)
  rw [hby] at hyb
  have HY := Lib.hid hyb
  have hn0 : (((bytesF ts : Nat) : Int) == 0) = false := by simpa using hz0
  have HGO := Lib.hid (fun W => (by
    have h9 := q2go_any 5 sn 1 W
    obtain ⟨e1, e2⟩ := go_val (b := 5) (n := sn) (c := 1) rfl (by simp [okn, rt, sz]; omega) (by omega) (by omega)
    rw [e1, e2, show ((sn : Int) + 1) % sz 5 = (((sn + 1) % 2 ^ 5 : Nat) : Int) by simp [sz, rt]] at h9
    exact h9 : Calls Try.prog 94 #[.int .i64 5, .int .i64 sn, .int .i64 1] W fun e w' => e = .returned (.tuple #[.int .i64 (((sn + 1) % 2 ^ 5 : Nat) : Int), .int .i64 0]) ∧ W = w'))
  obtain ⟨s0, s1, s2⟩ := three_cells HS2.out
  by_cases hbig : ¬ 4000 < g
  · have hrm0 : (1 : Int) ≤ (g - 1) ∧ (g - 1) + 1 ≤ 4000 := by omega
    have HC := Lib.hid (fun (u : World) (hu : Below w.heap.size w u) => rcut_any (g - 1) 11 (hq.later hu) hl (Nat.le_trans hB hu.size) h8 (by unfold faultC; rw [if_pos (by decide +kernel), if_neg (by omega)]))
    have HN := Lib.hid (fun k n (hB : Bld (g - 1) 11 (lenT ts) k n) => built_some (by omega) hB hl0 hlp)
    have hmin : min g 4000 - 1 = (g - 1) := by omega
    rw [hmin]
    have hg2 : ¬ g < 0 := by omega
    have hg3 : ¬ 4096 < g := by omega
    have hg4 : ¬ g ≤ 1 := by omega
    have hw : IntKind.i64.wrap (g - 1) = g - 1 := by rw [IntWalk.i64_in _ (by omega)]
    have HBB := Lib.hid hB
    have HYS := Lib.hid hys
    clear h hq hl hB h8 hys hsn hp hf hz0 hlp hl0 hby hb1 hb2 hrm hyb hmin
    go_enter Try.func21, Try.ntmps21
    go_upto_region 14 with (first
      | (go_at_call 25; (with_reducible refine HY.out.mono ?_); rintro e w3 ⟨rfl, hb3⟩; (
          have HB3 := Lib.hid (bl_step HB2.out hb3)
          have HS3 := Lib.hid (HS2.out.later hb3)
          have HRN3 := Lib.hid (HRN.out.later hb3)
          clear s0 s1 s2
          obtain ⟨s0, s1, s2⟩ := three_cells HS3.out
          clear hb3))
      | (go_at_call 93; (with_reducible refine (HC.out w3 HB3.out).mono ?_); rintro e w5 ⟨k, n, E5, hB5, hr5, hm5, h85, hl5, hk5, hz5⟩; (
          have hkn := HN.out k n hB5
          obtain ⟨_, A, c, D, dc, L, rfl, htx, hs5, hL5, hid5⟩ := built_of hkn hz5
          have hbx := bl_alloc (Below.refl w5.heap.size w5) (.cells #[.int .i64 (fiT ts n), .slice A L.length c, .slice D k dc] 151)
          have HK5 := Lib.hid (((KR.of_below HBB.out HB3.out).trans hk5).trans (KR.of_below (Nat.le_trans (Nat.le_trans HBB.out HB3.out.size) hk5.size) hbx))
          have HS5 := Lib.hid ((hk5.rows _ _ _ HS3.out (by unfold X34; decide)).later hbx)
          have HRN5 := Lib.hid ((hk5.rows _ _ _ HRN3.out (by unfold X34; decide)).later hbx)
          have HP5 := Lib.hid (Row.made w5 151 #[.int .i64 (fiT ts n), .slice A L.length c, .slice D k dc])
          have HALL := Lib.hid (And.intro hB5 (And.intro hkn (And.intro (hr5.later hbx) (And.intro hm5 (And.intro h85 (And.intro hl5 (And.intro htx (And.intro (And.intro (own_down9 (own_after hs5.2.1 hbx) HB3.out.size) (fun r hr => (hs5.2.2 r hr).only (S := fun _ => False) (.of_below hbx) (fun _ _ _ h => h))) (And.intro hL5 (NewIds.down9 (NewIds.later hid5 hbx) HB3.out.size))))))))))
          clear hB5 hr5 hm5 h85 hl5 hk5 hz5 hkn htx hs5 hL5 hid5 hbx s0 s1 s2
          obtain ⟨s0, s1, s2⟩ := three_cells HS5.out
          obtain ⟨p0, p1, p2⟩ := three_cells HP5.out)))
    generalize hW6 : w5.alloc (.cells #[.int .i64 (fiT ts n), .slice A L.length c, .slice D k dc] 151) = w6 at *
    clear hW6
    generalize hP9 : w5.heap.size = p9 at *
    clear hP9
    have k0 : w6.drew.cell? ⟨p9, 0, none⟩ = some (.int .i64 (fiT ts n)) ∧ w6.drew.cell? ⟨p9, 1, none⟩ = some (.slice A L.length c) ∧ w6.drew.cell? ⟨ys, 2, none⟩ = some (.int .i64 sn) := ⟨HP5.out.drawn.read rfl, HP5.out.drawn.read rfl, HS5.out.drawn.read rfl⟩
    have NR0 := Row.made w6.drew 58 #[.int .i64 0, .int .i64 0, .slice none 0 0]
    have nf0 := NR0.free 0
    have nf1 := NR0.free 1
    have nf2 := NR0.free 2
    have nr0 := NR0.read (i := 0) (x := .int .i64 0) rfl
    have nr1 := NR0.read (i := 1) (x := .int .i64 0) rfl
    have nr2 := NR0.read (i := 2) (x := .slice none 0 0) rfl
    clear NR0
    go_region_held3 (fun w' => w'.cell? ⟨p9, 0, none⟩ = some (.int .i64 (fiT ts n)) ∧ w'.cell? ⟨p9, 1, none⟩ = some (.slice A L.length c) ∧ w'.cell? ⟨ys, 2, none⟩ = some (.int .i64 sn)) (first | with_reducible exact k0 | go_keep) (fail)
    have HP7 := Lib.hid ((HP5.out.more (.cells #[.int .i64 (fiT ts n), .int .i64 sn, .slice A L.length c] 58)).drawn)
    have HRN7 := Lib.hid ((HRN5.out.more (.cells #[.int .i64 (fiT ts n), .int .i64 sn, .slice A L.length c] 58)).drawn)
    have HS7 := Lib.hid ((HS5.out.more (.cells #[.int .i64 (fiT ts n), .int .i64 sn, .slice A L.length c] 58)).drawn)
    have HQ7 := Lib.hid ((Row.made w6 58 #[.int .i64 (fiT ts n), .int .i64 sn, .slice A L.length c]).drawn)
    have HB67 := Lib.hid (bl_drew (bl_alloc (Below.refl w6.heap.size w6) (.cells #[.int .i64 (fiT ts n), .int .i64 sn, .slice A L.length c] 58)))
    clear k0 nf0 nf1 nf2 nr0 nr1 nr2 s0 s1 s2 p0 p1 p2
    generalize (w6.alloc (.cells #[.int .i64 (fiT ts n), .int .i64 sn, .slice A L.length c] 58)).drew = w7 at *
    have HNL := Lib.hid (show w.heap.size < w6.heap.size from HRN5.out.inside)
    generalize hP11 : w6.heap.size = p11 at *
    have HPE := Lib.hid hP11
    clear hP11
    obtain ⟨s0, s1, s2⟩ := three_cells HS7.out
    have fs2 := HS7.out.free 2
    go_wp2
    go_region_law (go_simp; go_at_call 94; refine (HGO.out _).mono ?_; rintro e w8 ⟨rfl, rfl⟩; go_simp)
    all_goals
      have v9 : Value := .int .i64 (((sn : Int) + 1) % 32)
      have HO8 := Lib.hid (((Only.refl (fun k => k = ys) w7).set (p := ⟨ys, 2, none⟩) (.inl rfl) (.int .i64 (((sn : Int) + 1) % 32))).drew)
      have HS8 := Lib.hid ((HS7.out.written 2 (.int .i64 (((sn : Int) + 1) % 32))).drawn)
      have HP8 := Lib.hid (HP7.out.only HO8.out (fun e => by subst e; exact absurd (qlrow_same HP7.out HS7.out) (by decide)))
      have HRN8 := Lib.hid (HRN7.out.only HO8.out (fun e => by have h9 := HS7.out; rw [← e] at h9; exact absurd (qlrow_same HRN7.out h9) (by decide)))
      have HQ8 := Lib.hid (HQ7.out.only HO8.out (fun e => by subst e; exact absurd (qlrow_same HQ7.out HS7.out) (by decide)))
      clear s0 s1 s2 fs2 v9
      generalize (w7.setCell ⟨ys, 2, none⟩ (.int .i64 (((sn : Int) + 1) % 32))).drew = w8 at *
      go_wp2
      have HNE := Lib.hid (show w.heap.size ≠ p9 ∧ w.heap.size ≠ p11 from ⟨fun e => by have h9 := HP8.out; rw [← e] at h9; exact absurd (qlrow_same HRN8.out h9) (by decide), by have := HNL.out; omega⟩)
      have HRND := Lib.hid HRN8.out.drawn
      have k0 : w8.drew.cell? ⟨p9, 2, none⟩ = some (.slice D k dc) ∧ w8.drew.cell? ⟨p11, 0, none⟩ = some (.int .i64 (fiT ts n)) ∧ w8.drew.cell? ⟨p11, 1, none⟩ = some (.int .i64 sn) ∧ w8.drew.cell? ⟨p11, 2, none⟩ = some (.slice A L.length c) := ⟨HP8.out.drawn.read rfl, HQ8.out.drawn.read rfl, HQ8.out.drawn.read rfl, HQ8.out.drawn.read rfl⟩
      have HX := Lib.hid (((HRND.out.written 0 (.int .i64 (fiT ts n))).written 1 (.int .i64 sn)).written 2 (.slice A L.length c))
      have hpx := ((HP8.out.drawn.elsewhere (p := ⟨w.heap.size, 0, none⟩) HNE.out.1.symm (.int .i64 (fiT ts n))).elsewhere (p := ⟨w.heap.size, 1, none⟩) HNE.out.1.symm (.int .i64 sn)).elsewhere (p := ⟨w.heap.size, 2, none⟩) HNE.out.1.symm (.slice A L.length c)
      have hqx := ((HQ8.out.drawn.elsewhere (p := ⟨w.heap.size, 0, none⟩) HNE.out.2.symm (.int .i64 (fiT ts n))).elsewhere (p := ⟨w.heap.size, 1, none⟩) HNE.out.2.symm (.int .i64 sn)).elsewhere (p := ⟨w.heap.size, 2, none⟩) HNE.out.2.symm (.slice A L.length c)
      have HPX := Lib.hid hpx
      have HQX := Lib.hid hqx
      clear hpx hqx
      obtain ⟨n0, n1, n2⟩ := three_cells HRND.out
      obtain ⟨f0, f1, f2⟩ := three_free HRND.out
      obtain ⟨m0, m1, m2⟩ := three_cells HRN8.out
      obtain ⟨h0, h1, h2⟩ := three_free HRN8.out
      go_region_held3 (fun w' => w'.cell? ⟨p9, 2, none⟩ = some (.slice D k dc) ∧ w'.cell? ⟨p11, 0, none⟩ = some (.int .i64 (fiT ts n)) ∧ w'.cell? ⟨p11, 1, none⟩ = some (.int .i64 sn) ∧ w'.cell? ⟨p11, 2, none⟩ = some (.slice A L.length c)) (first | with_reducible exact k0 | exact ⟨HPX.out.read rfl, HQX.out.read rfl, HQX.out.read rfl, HQX.out.read rfl⟩ | go_keep) (fail)
      all_goals
        go_wp2
        try simp only [Exit.jump]
        obtain ⟨d24, hu24⟩ := underref9_parts
        refine bodyPost_ret (results_three rfl _ _ w.heap.size 58 #[.int .i64 (fiT ts n), .int .i64 sn, .slice A L.length c] d24 rfl ((((HRN8.out.written 0 (.int .i64 (fiT ts n))).written 1 (.int .i64 sn)).written 2 (.slice A L.length c)).drawn) hu24 Try.inforef9) rfl ?_
        exact rsent_end HALL.out HS5.out HRN5.out HK5.out (by rw [HPE.out]; exact HB67.out) HO8.out ((only3 w8 w.heap.size _ _ _).drew) HYS.out (((HS8.out.only (only3 w8 w.heap.size _ _ _) (fun e => by have h9 := HS8.out; rw [e] at h9; exact absurd (qlrow_same HRN8.out h9) (by decide)))).drawn) (by simp)
  · have hrm0 : (1 : Int) ≤ 3999 ∧ 3999 + 1 ≤ 4000 := by omega
    have HC := Lib.hid (fun (u : World) (hu : Below w.heap.size w u) => rcut_any 3999 11 (hq.later hu) hl (Nat.le_trans hB hu.size) h8 (by unfold faultC; rw [if_pos (by decide +kernel), if_neg (by omega)]))
    have HN := Lib.hid (fun k n (hB : Bld 3999 11 (lenT ts) k n) => built_some (by omega) hB hl0 hlp)
    have hmin : min g 4000 - 1 = 3999 := by omega
    rw [hmin]
    have hg2 : ¬ g < 0 := by omega
    have hg3 : ¬ 4096 < g := by omega
    have hg4 : ¬ g ≤ 1 := by omega
    have HBB := Lib.hid hB
    have HYS := Lib.hid hys
    clear h hq hl hB h8 hys hsn hp hf hz0 hlp hl0 hby hb1 hb2 hrm hyb hmin
    go_enter Try.func21, Try.ntmps21
    go_upto_region 14 with (first
      | (go_at_call 25; (with_reducible refine HY.out.mono ?_); rintro e w3 ⟨rfl, hb3⟩; (
          have HB3 := Lib.hid (bl_step HB2.out hb3)
          have HS3 := Lib.hid (HS2.out.later hb3)
          have HRN3 := Lib.hid (HRN.out.later hb3)
          clear s0 s1 s2
          obtain ⟨s0, s1, s2⟩ := three_cells HS3.out
          clear hb3))
      | (go_at_call 93; (with_reducible refine (HC.out w3 HB3.out).mono ?_); rintro e w5 ⟨k, n, E5, hB5, hr5, hm5, h85, hl5, hk5, hz5⟩; (
          have hkn := HN.out k n hB5
          obtain ⟨_, A, c, D, dc, L, rfl, htx, hs5, hL5, hid5⟩ := built_of hkn hz5
          have hbx := bl_alloc (Below.refl w5.heap.size w5) (.cells #[.int .i64 (fiT ts n), .slice A L.length c, .slice D k dc] 151)
          have HK5 := Lib.hid (((KR.of_below HBB.out HB3.out).trans hk5).trans (KR.of_below (Nat.le_trans (Nat.le_trans HBB.out HB3.out.size) hk5.size) hbx))
          have HS5 := Lib.hid ((hk5.rows _ _ _ HS3.out (by unfold X34; decide)).later hbx)
          have HRN5 := Lib.hid ((hk5.rows _ _ _ HRN3.out (by unfold X34; decide)).later hbx)
          have HP5 := Lib.hid (Row.made w5 151 #[.int .i64 (fiT ts n), .slice A L.length c, .slice D k dc])
          have HALL := Lib.hid (And.intro hB5 (And.intro hkn (And.intro (hr5.later hbx) (And.intro hm5 (And.intro h85 (And.intro hl5 (And.intro htx (And.intro (And.intro (own_down9 (own_after hs5.2.1 hbx) HB3.out.size) (fun r hr => (hs5.2.2 r hr).only (S := fun _ => False) (.of_below hbx) (fun _ _ _ h => h))) (And.intro hL5 (NewIds.down9 (NewIds.later hid5 hbx) HB3.out.size))))))))))
          clear hB5 hr5 hm5 h85 hl5 hk5 hz5 hkn htx hs5 hL5 hid5 hbx s0 s1 s2
          obtain ⟨s0, s1, s2⟩ := three_cells HS5.out
          obtain ⟨p0, p1, p2⟩ := three_cells HP5.out)))
    generalize hW6 : w5.alloc (.cells #[.int .i64 (fiT ts n), .slice A L.length c, .slice D k dc] 151) = w6 at *
    clear hW6
    generalize hP9 : w5.heap.size = p9 at *
    clear hP9
    have k0 : w6.drew.cell? ⟨p9, 0, none⟩ = some (.int .i64 (fiT ts n)) ∧ w6.drew.cell? ⟨p9, 1, none⟩ = some (.slice A L.length c) ∧ w6.drew.cell? ⟨ys, 2, none⟩ = some (.int .i64 sn) := ⟨HP5.out.drawn.read rfl, HP5.out.drawn.read rfl, HS5.out.drawn.read rfl⟩
    have NR0 := Row.made w6.drew 58 #[.int .i64 0, .int .i64 0, .slice none 0 0]
    have nf0 := NR0.free 0
    have nf1 := NR0.free 1
    have nf2 := NR0.free 2
    have nr0 := NR0.read (i := 0) (x := .int .i64 0) rfl
    have nr1 := NR0.read (i := 1) (x := .int .i64 0) rfl
    have nr2 := NR0.read (i := 2) (x := .slice none 0 0) rfl
    clear NR0
    go_region_held3 (fun w' => w'.cell? ⟨p9, 0, none⟩ = some (.int .i64 (fiT ts n)) ∧ w'.cell? ⟨p9, 1, none⟩ = some (.slice A L.length c) ∧ w'.cell? ⟨ys, 2, none⟩ = some (.int .i64 sn)) (first | with_reducible exact k0 | go_keep) (fail)
    have HP7 := Lib.hid ((HP5.out.more (.cells #[.int .i64 (fiT ts n), .int .i64 sn, .slice A L.length c] 58)).drawn)
    have HRN7 := Lib.hid ((HRN5.out.more (.cells #[.int .i64 (fiT ts n), .int .i64 sn, .slice A L.length c] 58)).drawn)
    have HS7 := Lib.hid ((HS5.out.more (.cells #[.int .i64 (fiT ts n), .int .i64 sn, .slice A L.length c] 58)).drawn)
    have HQ7 := Lib.hid ((Row.made w6 58 #[.int .i64 (fiT ts n), .int .i64 sn, .slice A L.length c]).drawn)
    have HB67 := Lib.hid (bl_drew (bl_alloc (Below.refl w6.heap.size w6) (.cells #[.int .i64 (fiT ts n), .int .i64 sn, .slice A L.length c] 58)))
    clear k0 nf0 nf1 nf2 nr0 nr1 nr2 s0 s1 s2 p0 p1 p2
    generalize (w6.alloc (.cells #[.int .i64 (fiT ts n), .int .i64 sn, .slice A L.length c] 58)).drew = w7 at *
    have HNL := Lib.hid (show w.heap.size < w6.heap.size from HRN5.out.inside)
    generalize hP11 : w6.heap.size = p11 at *
    have HPE := Lib.hid hP11
    clear hP11
    obtain ⟨s0, s1, s2⟩ := three_cells HS7.out
    have fs2 := HS7.out.free 2
    go_wp2
    go_region_law (go_simp; go_at_call 94; refine (HGO.out _).mono ?_; rintro e w8 ⟨rfl, rfl⟩; go_simp)
    all_goals
      have v9 : Value := .int .i64 (((sn : Int) + 1) % 32)
      have HO8 := Lib.hid (((Only.refl (fun k => k = ys) w7).set (p := ⟨ys, 2, none⟩) (.inl rfl) (.int .i64 (((sn : Int) + 1) % 32))).drew)
      have HS8 := Lib.hid ((HS7.out.written 2 (.int .i64 (((sn : Int) + 1) % 32))).drawn)
      have HP8 := Lib.hid (HP7.out.only HO8.out (fun e => by subst e; exact absurd (qlrow_same HP7.out HS7.out) (by decide)))
      have HRN8 := Lib.hid (HRN7.out.only HO8.out (fun e => by have h9 := HS7.out; rw [← e] at h9; exact absurd (qlrow_same HRN7.out h9) (by decide)))
      have HQ8 := Lib.hid (HQ7.out.only HO8.out (fun e => by subst e; exact absurd (qlrow_same HQ7.out HS7.out) (by decide)))
      clear s0 s1 s2 fs2 v9
      generalize (w7.setCell ⟨ys, 2, none⟩ (.int .i64 (((sn : Int) + 1) % 32))).drew = w8 at *
      go_wp2
      have HNE := Lib.hid (show w.heap.size ≠ p9 ∧ w.heap.size ≠ p11 from ⟨fun e => by have h9 := HP8.out; rw [← e] at h9; exact absurd (qlrow_same HRN8.out h9) (by decide), by have := HNL.out; omega⟩)
      have HRND := Lib.hid HRN8.out.drawn
      have k0 : w8.drew.cell? ⟨p9, 2, none⟩ = some (.slice D k dc) ∧ w8.drew.cell? ⟨p11, 0, none⟩ = some (.int .i64 (fiT ts n)) ∧ w8.drew.cell? ⟨p11, 1, none⟩ = some (.int .i64 sn) ∧ w8.drew.cell? ⟨p11, 2, none⟩ = some (.slice A L.length c) := ⟨HP8.out.drawn.read rfl, HQ8.out.drawn.read rfl, HQ8.out.drawn.read rfl, HQ8.out.drawn.read rfl⟩
      have HX := Lib.hid (((HRND.out.written 0 (.int .i64 (fiT ts n))).written 1 (.int .i64 sn)).written 2 (.slice A L.length c))
      have hpx := ((HP8.out.drawn.elsewhere (p := ⟨w.heap.size, 0, none⟩) HNE.out.1.symm (.int .i64 (fiT ts n))).elsewhere (p := ⟨w.heap.size, 1, none⟩) HNE.out.1.symm (.int .i64 sn)).elsewhere (p := ⟨w.heap.size, 2, none⟩) HNE.out.1.symm (.slice A L.length c)
      have hqx := ((HQ8.out.drawn.elsewhere (p := ⟨w.heap.size, 0, none⟩) HNE.out.2.symm (.int .i64 (fiT ts n))).elsewhere (p := ⟨w.heap.size, 1, none⟩) HNE.out.2.symm (.int .i64 sn)).elsewhere (p := ⟨w.heap.size, 2, none⟩) HNE.out.2.symm (.slice A L.length c)
      have HPX := Lib.hid hpx
      have HQX := Lib.hid hqx
      clear hpx hqx
      obtain ⟨n0, n1, n2⟩ := three_cells HRND.out
      obtain ⟨f0, f1, f2⟩ := three_free HRND.out
      obtain ⟨m0, m1, m2⟩ := three_cells HRN8.out
      obtain ⟨h0, h1, h2⟩ := three_free HRN8.out
      go_region_held3 (fun w' => w'.cell? ⟨p9, 2, none⟩ = some (.slice D k dc) ∧ w'.cell? ⟨p11, 0, none⟩ = some (.int .i64 (fiT ts n)) ∧ w'.cell? ⟨p11, 1, none⟩ = some (.int .i64 sn) ∧ w'.cell? ⟨p11, 2, none⟩ = some (.slice A L.length c)) (first | with_reducible exact k0 | exact ⟨HPX.out.read rfl, HQX.out.read rfl, HQX.out.read rfl, HQX.out.read rfl⟩ | go_keep) (fail)
      all_goals
        go_wp2
        try simp only [Exit.jump]
        obtain ⟨d24, hu24⟩ := underref9_parts
        refine bodyPost_ret (results_three rfl _ _ w.heap.size 58 #[.int .i64 (fiT ts n), .int .i64 sn, .slice A L.length c] d24 rfl ((((HRN8.out.written 0 (.int .i64 (fiT ts n))).written 1 (.int .i64 sn)).written 2 (.slice A L.length c)).drawn) hu24 Try.inforef9) rfl ?_
        exact rsent_end HALL.out HS5.out HRN5.out HK5.out (by rw [HPE.out]; exact HB67.out) HO8.out ((only3 w8 w.heap.size _ _ _).drew) HYS.out (((HS8.out.only (only3 w8 w.heap.size _ _ _) (fun e => by have h9 := HS8.out; rw [e] at h9; exact absurd (qlrow_same HRN8.out h9) (by decide)))).drawn) (by simp)
set_option maxRecDepth 100000 in
set_option maxHeartbeats 6400000 in
theorem rub_ok_10 (g : Int) (h : Row w ys 54 #[.pointer (some ⟨y, 0, none⟩), .int .i64 10, .int .i64 sn]) (hq : RQ w y B R E) (hl : tx ts = live 0 E) (hB : B ≤ w.heap.size) (h8 : ∀ e ∈ E, ∀ b ∈ e.bs, b < 256) (hys : B ≤ ys) (hsn : sn < 2 ^ 10) (hp : ∀ t ∈ ts, 0 < t.bs.length) (hf : faultU g (bytesF ts : Nat) 10 = 0) :
    Calls Try.prog 21 #[.pointer (some ⟨ys, 0, none⟩), .int .i64 g] w (RSent B y R ys 10 sn ts E.length (min g 4000 - 2) w) := by
  have h00 := faultU_zero hf
  obtain ⟨hg0, hg1, hz0, hgh⟩ := h00
  have hlp := lenT_pos hp
  have hl0 : 0 < (lenT ts).length := by
    rcases Nat.eq_zero_or_pos (lenT ts).length with h9 | h9
    · rw [length_lenT] at h9
      have := List.eq_nil_of_length_eq_zero h9
      subst this
      exact absurd rfl hz0
    · exact h9
  have hby := byk_ts hl
  have hgh : (2 : Int) < g := by simpa using hgh
  have hb1 := bl_alloc (Below.refl w.heap.size w) (.cells #[.int .i64 0, .int .i64 0, .slice none 0 0] 58)
  have hb2 := bl_alloc hb1 (.cells #[.int .i64 0, .int .i64 0, .slice none 0 0] 58)
  have HB2 := Lib.hid hb2
  have HS2 := Lib.hid (h.later hb2)
  have HRN := Lib.hid ((Row.made w 58 #[.int .i64 0, .int .i64 0, .slice none 0 0]).more (.cells #[.int .i64 0, .int .i64 0, .slice none 0 0] 58))
  have hrm := Row.made (w.alloc (.cells #[.int .i64 0, .int .i64 0, .slice none 0 0] 58)) 58 #[.int .i64 0, .int .i64 0, .slice none 0 0]
  rw [show (w.alloc (.cells #[.int .i64 0, .int .i64 0, .slice none 0 0] 58)).heap.size = w.heap.size + 1 by simp] at hrm
  have HRM := Lib.hid hrm
  have hyb := rq_bytes (hq.later hb2)
  rw [hby] at hyb
  have HY := Lib.hid hyb
  have hn0 : (((bytesF ts : Nat) : Int) == 0) = false := by simpa using hz0
  have HGO := Lib.hid (fun W => (by
    have h9 := q2go_any 10 sn 1 W
    obtain ⟨e1, e2⟩ := go_val (b := 10) (n := sn) (c := 1) rfl (by simp [okn, rt, sz]; omega) (by omega) (by omega)
    rw [e1, e2, show ((sn : Int) + 1) % sz 10 = (((sn + 1) % 2 ^ 10 : Nat) : Int) by simp [sz, rt]] at h9
    exact h9 : Calls Try.prog 94 #[.int .i64 10, .int .i64 sn, .int .i64 1] W fun e w' => e = .returned (.tuple #[.int .i64 (((sn + 1) % 2 ^ 10 : Nat) : Int), .int .i64 0]) ∧ W = w'))
  obtain ⟨s0, s1, s2⟩ := three_cells HS2.out
  by_cases hbig : ¬ 4000 < g
  · have hrm0 : (1 : Int) ≤ (g - 2) ∧ (g - 2) + 2 ≤ 4000 := by omega
    have HC := Lib.hid (fun (u : World) (hu : Below w.heap.size w u) => rcut_any (g - 2) 11 (hq.later hu) hl (Nat.le_trans hB hu.size) h8 (by unfold faultC; rw [if_pos (by decide +kernel), if_neg (by omega)]))
    have HN := Lib.hid (fun k n (hB : Bld (g - 2) 11 (lenT ts) k n) => built_some (by omega) hB hl0 hlp)
    have hmin : min g 4000 - 2 = (g - 2) := by omega
    rw [hmin]
    have hg2 : ¬ g < 0 := by omega
    have hg3 : ¬ 4096 < g := by omega
    have hg4 : ¬ g ≤ 2 := by omega
    have hw : IntKind.i64.wrap (g - 2) = g - 2 := by rw [IntWalk.i64_in _ (by omega)]
    have HBB := Lib.hid hB
    have HYS := Lib.hid hys
    clear h hq hl hB h8 hys hsn hp hf hz0 hlp hl0 hby hb1 hb2 hrm hyb hmin
    go_enter Try.func21, Try.ntmps21
    go_upto_region 14 with (first
      | (go_at_call 25; (with_reducible refine HY.out.mono ?_); rintro e w3 ⟨rfl, hb3⟩; (
          have HB3 := Lib.hid (bl_step HB2.out hb3)
          have HS3 := Lib.hid (HS2.out.later hb3)
          have HRN3 := Lib.hid (HRN.out.later hb3)
          clear s0 s1 s2
          obtain ⟨s0, s1, s2⟩ := three_cells HS3.out
          clear hb3))
      | (go_at_call 93; (with_reducible refine (HC.out w3 HB3.out).mono ?_); rintro e w5 ⟨k, n, E5, hB5, hr5, hm5, h85, hl5, hk5, hz5⟩; (
          have hkn := HN.out k n hB5
          obtain ⟨_, A, c, D, dc, L, rfl, htx, hs5, hL5, hid5⟩ := built_of hkn hz5
          have hbx := bl_alloc (Below.refl w5.heap.size w5) (.cells #[.int .i64 (fiT ts n), .slice A L.length c, .slice D k dc] 151)
          have HK5 := Lib.hid (((KR.of_below HBB.out HB3.out).trans hk5).trans (KR.of_below (Nat.le_trans (Nat.le_trans HBB.out HB3.out.size) hk5.size) hbx))
          have HS5 := Lib.hid ((hk5.rows _ _ _ HS3.out (by unfold X34; decide)).later hbx)
          have HRN5 := Lib.hid ((hk5.rows _ _ _ HRN3.out (by unfold X34; decide)).later hbx)
          have HP5 := Lib.hid (Row.made w5 151 #[.int .i64 (fiT ts n), .slice A L.length c, .slice D k dc])
          have HALL := Lib.hid (And.intro hB5 (And.intro hkn (And.intro (hr5.later hbx) (And.intro hm5 (And.intro h85 (And.intro hl5 (And.intro htx (And.intro (And.intro (own_down9 (own_after hs5.2.1 hbx) HB3.out.size) (fun r hr => (hs5.2.2 r hr).only (S := fun _ => False) (.of_below hbx) (fun _ _ _ h => h))) (And.intro hL5 (NewIds.down9 (NewIds.later hid5 hbx) HB3.out.size))))))))))
          clear hB5 hr5 hm5 h85 hl5 hk5 hz5 hkn htx hs5 hL5 hid5 hbx s0 s1 s2
          obtain ⟨s0, s1, s2⟩ := three_cells HS5.out
          obtain ⟨p0, p1, p2⟩ := three_cells HP5.out)))
    generalize hW6 : w5.alloc (.cells #[.int .i64 (fiT ts n), .slice A L.length c, .slice D k dc] 151) = w6 at *
    clear hW6
    generalize hP9 : w5.heap.size = p9 at *
    clear hP9
    have k0 : w6.drew.cell? ⟨p9, 0, none⟩ = some (.int .i64 (fiT ts n)) ∧ w6.drew.cell? ⟨p9, 1, none⟩ = some (.slice A L.length c) ∧ w6.drew.cell? ⟨ys, 2, none⟩ = some (.int .i64 sn) := ⟨HP5.out.drawn.read rfl, HP5.out.drawn.read rfl, HS5.out.drawn.read rfl⟩
    have NR0 := Row.made w6.drew 58 #[.int .i64 0, .int .i64 0, .slice none 0 0]
    have nf0 := NR0.free 0
    have nf1 := NR0.free 1
    have nf2 := NR0.free 2
    have nr0 := NR0.read (i := 0) (x := .int .i64 0) rfl
    have nr1 := NR0.read (i := 1) (x := .int .i64 0) rfl
    have nr2 := NR0.read (i := 2) (x := .slice none 0 0) rfl
    clear NR0
    go_region_held3 (fun w' => w'.cell? ⟨p9, 0, none⟩ = some (.int .i64 (fiT ts n)) ∧ w'.cell? ⟨p9, 1, none⟩ = some (.slice A L.length c) ∧ w'.cell? ⟨ys, 2, none⟩ = some (.int .i64 sn)) (first | with_reducible exact k0 | go_keep) (fail)
    have HP7 := Lib.hid ((HP5.out.more (.cells #[.int .i64 (fiT ts n), .int .i64 sn, .slice A L.length c] 58)).drawn)
    have HRN7 := Lib.hid ((HRN5.out.more (.cells #[.int .i64 (fiT ts n), .int .i64 sn, .slice A L.length c] 58)).drawn)
    have HS7 := Lib.hid ((HS5.out.more (.cells #[.int .i64 (fiT ts n), .int .i64 sn, .slice A L.length c] 58)).drawn)
    have HQ7 := Lib.hid ((Row.made w6 58 #[.int .i64 (fiT ts n), .int .i64 sn, .slice A L.length c]).drawn)
    have HB67 := Lib.hid (bl_drew (bl_alloc (Below.refl w6.heap.size w6) (.cells #[.int .i64 (fiT ts n), .int .i64 sn, .slice A L.length c] 58)))
    clear k0 nf0 nf1 nf2 nr0 nr1 nr2 s0 s1 s2 p0 p1 p2
    generalize (w6.alloc (.cells #[.int .i64 (fiT ts n), .int .i64 sn, .slice A L.length c] 58)).drew = w7 at *
    have HNL := Lib.hid (show w.heap.size < w6.heap.size from HRN5.out.inside)
    generalize hP11 : w6.heap.size = p11 at *
    have HPE := Lib.hid hP11
    clear hP11
    obtain ⟨s0, s1, s2⟩ := three_cells HS7.out
    have fs2 := HS7.out.free 2
    go_wp2
    go_region_law (go_simp; go_at_call 94; refine (HGO.out _).mono ?_; rintro e w8 ⟨rfl, rfl⟩; go_simp)
    all_goals
      have v9 : Value := .int .i64 (((sn : Int) + 1) % 1024)
      have HO8 := Lib.hid (((Only.refl (fun k => k = ys) w7).set (p := ⟨ys, 2, none⟩) (.inl rfl) (.int .i64 (((sn : Int) + 1) % 1024))).drew)
      have HS8 := Lib.hid ((HS7.out.written 2 (.int .i64 (((sn : Int) + 1) % 1024))).drawn)
      have HP8 := Lib.hid (HP7.out.only HO8.out (fun e => by subst e; exact absurd (qlrow_same HP7.out HS7.out) (by decide)))
      have HRN8 := Lib.hid (HRN7.out.only HO8.out (fun e => by have h9 := HS7.out; rw [← e] at h9; exact absurd (qlrow_same HRN7.out h9) (by decide)))
      have HQ8 := Lib.hid (HQ7.out.only HO8.out (fun e => by subst e; exact absurd (qlrow_same HQ7.out HS7.out) (by decide)))
      clear s0 s1 s2 fs2 v9
      generalize (w7.setCell ⟨ys, 2, none⟩ (.int .i64 (((sn : Int) + 1) % 1024))).drew = w8 at *
      go_wp2
      have HNE := Lib.hid (show w.heap.size ≠ p9 ∧ w.heap.size ≠ p11 from ⟨fun e => by have h9 := HP8.out; rw [← e] at h9; exact absurd (qlrow_same HRN8.out h9) (by decide), by have := HNL.out; omega⟩)
      have HRND := Lib.hid HRN8.out.drawn
      have k0 : w8.drew.cell? ⟨p9, 2, none⟩ = some (.slice D k dc) ∧ w8.drew.cell? ⟨p11, 0, none⟩ = some (.int .i64 (fiT ts n)) ∧ w8.drew.cell? ⟨p11, 1, none⟩ = some (.int .i64 sn) ∧ w8.drew.cell? ⟨p11, 2, none⟩ = some (.slice A L.length c) := ⟨HP8.out.drawn.read rfl, HQ8.out.drawn.read rfl, HQ8.out.drawn.read rfl, HQ8.out.drawn.read rfl⟩
      have HX := Lib.hid (((HRND.out.written 0 (.int .i64 (fiT ts n))).written 1 (.int .i64 sn)).written 2 (.slice A L.length c))
      have hpx := ((HP8.out.drawn.elsewhere (p := ⟨w.heap.size, 0, none⟩) HNE.out.1.symm (.int .i64 (fiT ts n))).elsewhere (p := ⟨w.heap.size, 1, none⟩) HNE.out.1.symm (.int .i64 sn)).elsewhere (p := ⟨w.heap.size, 2, none⟩) HNE.out.1.symm (.slice A L.length c)
      have hqx := ((HQ8.out.drawn.elsewhere (p := ⟨w.heap.size, 0, none⟩) HNE.out.2.symm (.int .i64 (fiT ts n))).elsewhere (p := ⟨w.heap.size, 1, none⟩) HNE.out.2.symm (.int .i64 sn)).elsewhere (p := ⟨w.heap.size, 2, none⟩) HNE.out.2.symm (.slice A L.length c)
      have HPX := Lib.hid hpx
      have HQX := Lib.hid hqx
      clear hpx hqx
      obtain ⟨n0, n1, n2⟩ := three_cells HRND.out
      obtain ⟨f0, f1, f2⟩ := three_free HRND.out
      obtain ⟨m0, m1, m2⟩ := three_cells HRN8.out
      obtain ⟨h0, h1, h2⟩ := three_free HRN8.out
      go_region_held3 (fun w' => w'.cell? ⟨p9, 2, none⟩ = some (.slice D k dc) ∧ w'.cell? ⟨p11, 0, none⟩ = some (.int .i64 (fiT ts n)) ∧ w'.cell? ⟨p11, 1, none⟩ = some (.int .i64 sn) ∧ w'.cell? ⟨p11, 2, none⟩ = some (.slice A L.length c)) (first | with_reducible exact k0 | exact ⟨HPX.out.read rfl, HQX.out.read rfl, HQX.out.read rfl, HQX.out.read rfl⟩ | go_keep) (fail)
      all_goals
        go_wp2
        try simp only [Exit.jump]
        obtain ⟨d24, hu24⟩ := underref9_parts
        refine bodyPost_ret (results_three rfl _ _ w.heap.size 58 #[.int .i64 (fiT ts n), .int .i64 sn, .slice A L.length c] d24 rfl ((((HRN8.out.written 0 (.int .i64 (fiT ts n))).written 1 (.int .i64 sn)).written 2 (.slice A L.length c)).drawn) hu24 Try.inforef9) rfl ?_
        exact rsent_end HALL.out HS5.out HRN5.out HK5.out (by rw [HPE.out]; exact HB67.out) HO8.out ((only3 w8 w.heap.size _ _ _).drew) HYS.out (((HS8.out.only (only3 w8 w.heap.size _ _ _) (fun e => by have h9 := HS8.out; rw [e] at h9; exact absurd (qlrow_same HRN8.out h9) (by decide)))).drawn) (by simp)
  · have hrm0 : (1 : Int) ≤ 3998 ∧ 3998 + 2 ≤ 4000 := by omega
    have HC := Lib.hid (fun (u : World) (hu : Below w.heap.size w u) => rcut_any 3998 11 (hq.later hu) hl (Nat.le_trans hB hu.size) h8 (by unfold faultC; rw [if_pos (by decide +kernel), if_neg (by omega)]))
    have HN := Lib.hid (fun k n (hB : Bld 3998 11 (lenT ts) k n) => built_some (by omega) hB hl0 hlp)
    have hmin : min g 4000 - 2 = 3998 := by omega
    rw [hmin]
    have hg2 : ¬ g < 0 := by omega
    have hg3 : ¬ 4096 < g := by omega
    have hg4 : ¬ g ≤ 2 := by omega
    have HBB := Lib.hid hB
    have HYS := Lib.hid hys
    clear h hq hl hB h8 hys hsn hp hf hz0 hlp hl0 hby hb1 hb2 hrm hyb hmin
    go_enter Try.func21, Try.ntmps21
    go_upto_region 14 with (first
      | (go_at_call 25; (with_reducible refine HY.out.mono ?_); rintro e w3 ⟨rfl, hb3⟩; (
          have HB3 := Lib.hid (bl_step HB2.out hb3)
          have HS3 := Lib.hid (HS2.out.later hb3)
          have HRN3 := Lib.hid (HRN.out.later hb3)
          clear s0 s1 s2
          obtain ⟨s0, s1, s2⟩ := three_cells HS3.out
          clear hb3))
      | (go_at_call 93; (with_reducible refine (HC.out w3 HB3.out).mono ?_); rintro e w5 ⟨k, n, E5, hB5, hr5, hm5, h85, hl5, hk5, hz5⟩; (
          have hkn := HN.out k n hB5
          obtain ⟨_, A, c, D, dc, L, rfl, htx, hs5, hL5, hid5⟩ := built_of hkn hz5
          have hbx := bl_alloc (Below.refl w5.heap.size w5) (.cells #[.int .i64 (fiT ts n), .slice A L.length c, .slice D k dc] 151)
          have HK5 := Lib.hid (((KR.of_below HBB.out HB3.out).trans hk5).trans (KR.of_below (Nat.le_trans (Nat.le_trans HBB.out HB3.out.size) hk5.size) hbx))
          have HS5 := Lib.hid ((hk5.rows _ _ _ HS3.out (by unfold X34; decide)).later hbx)
          have HRN5 := Lib.hid ((hk5.rows _ _ _ HRN3.out (by unfold X34; decide)).later hbx)
          have HP5 := Lib.hid (Row.made w5 151 #[.int .i64 (fiT ts n), .slice A L.length c, .slice D k dc])
          have HALL := Lib.hid (And.intro hB5 (And.intro hkn (And.intro (hr5.later hbx) (And.intro hm5 (And.intro h85 (And.intro hl5 (And.intro htx (And.intro (And.intro (own_down9 (own_after hs5.2.1 hbx) HB3.out.size) (fun r hr => (hs5.2.2 r hr).only (S := fun _ => False) (.of_below hbx) (fun _ _ _ h => h))) (And.intro hL5 (NewIds.down9 (NewIds.later hid5 hbx) HB3.out.size))))))))))
          clear hB5 hr5 hm5 h85 hl5 hk5 hz5 hkn htx hs5 hL5 hid5 hbx s0 s1 s2
          obtain ⟨s0, s1, s2⟩ := three_cells HS5.out
          obtain ⟨p0, p1, p2⟩ := three_cells HP5.out)))
    generalize hW6 : w5.alloc (.cells #[.int .i64 (fiT ts n), .slice A L.length c, .slice D k dc] 151) = w6 at *
    clear hW6
    generalize hP9 : w5.heap.size = p9 at *
    clear hP9
    have k0 : w6.drew.cell? ⟨p9, 0, none⟩ = some (.int .i64 (fiT ts n)) ∧ w6.drew.cell? ⟨p9, 1, none⟩ = some (.slice A L.length c) ∧ w6.drew.cell? ⟨ys, 2, none⟩ = some (.int .i64 sn) := ⟨HP5.out.drawn.read rfl, HP5.out.drawn.read rfl, HS5.out.drawn.read rfl⟩
    have NR0 := Row.made w6.drew 58 #[.int .i64 0, .int .i64 0, .slice none 0 0]
    have nf0 := NR0.free 0
    have nf1 := NR0.free 1
    have nf2 := NR0.free 2
    have nr0 := NR0.read (i := 0) (x := .int .i64 0) rfl
    have nr1 := NR0.read (i := 1) (x := .int .i64 0) rfl
    have nr2 := NR0.read (i := 2) (x := .slice none 0 0) rfl
    clear NR0
    go_region_held3 (fun w' => w'.cell? ⟨p9, 0, none⟩ = some (.int .i64 (fiT ts n)) ∧ w'.cell? ⟨p9, 1, none⟩ = some (.slice A L.length c) ∧ w'.cell? ⟨ys, 2, none⟩ = some (.int .i64 sn)) (first | with_reducible exact k0 | go_keep) (fail)
    have HP7 := Lib.hid ((HP5.out.more (.cells #[.int .i64 (fiT ts n), .int .i64 sn, .slice A L.length c] 58)).drawn)
    have HRN7 := Lib.hid ((HRN5.out.more (.cells #[.int .i64 (fiT ts n), .int .i64 sn, .slice A L.length c] 58)).drawn)
    have HS7 := Lib.hid ((HS5.out.more (.cells #[.int .i64 (fiT ts n), .int .i64 sn, .slice A L.length c] 58)).drawn)
    have HQ7 := Lib.hid ((Row.made w6 58 #[.int .i64 (fiT ts n), .int .i64 sn, .slice A L.length c]).drawn)
    have HB67 := Lib.hid (bl_drew (bl_alloc (Below.refl w6.heap.size w6) (.cells #[.int .i64 (fiT ts n), .int .i64 sn, .slice A L.length c] 58)))
    clear k0 nf0 nf1 nf2 nr0 nr1 nr2 s0 s1 s2 p0 p1 p2
    generalize (w6.alloc (.cells #[.int .i64 (fiT ts n), .int .i64 sn, .slice A L.length c] 58)).drew = w7 at *
    have HNL := Lib.hid (show w.heap.size < w6.heap.size from HRN5.out.inside)
    generalize hP11 : w6.heap.size = p11 at *
    have HPE := Lib.hid hP11
    clear hP11
    obtain ⟨s0, s1, s2⟩ := three_cells HS7.out
    have fs2 := HS7.out.free 2
    go_wp2
    go_region_law (go_simp; go_at_call 94; refine (HGO.out _).mono ?_; rintro e w8 ⟨rfl, rfl⟩; go_simp)
    all_goals
      have v9 : Value := .int .i64 (((sn : Int) + 1) % 1024)
      have HO8 := Lib.hid (((Only.refl (fun k => k = ys) w7).set (p := ⟨ys, 2, none⟩) (.inl rfl) (.int .i64 (((sn : Int) + 1) % 1024))).drew)
      have HS8 := Lib.hid ((HS7.out.written 2 (.int .i64 (((sn : Int) + 1) % 1024))).drawn)
      have HP8 := Lib.hid (HP7.out.only HO8.out (fun e => by subst e; exact absurd (qlrow_same HP7.out HS7.out) (by decide)))
      have HRN8 := Lib.hid (HRN7.out.only HO8.out (fun e => by have h9 := HS7.out; rw [← e] at h9; exact absurd (qlrow_same HRN7.out h9) (by decide)))
      have HQ8 := Lib.hid (HQ7.out.only HO8.out (fun e => by subst e; exact absurd (qlrow_same HQ7.out HS7.out) (by decide)))
      clear s0 s1 s2 fs2 v9
      generalize (w7.setCell ⟨ys, 2, none⟩ (.int .i64 (((sn : Int) + 1) % 1024))).drew = w8 at *
      go_wp2
      have HNE := Lib.hid (show w.heap.size ≠ p9 ∧ w.heap.size ≠ p11 from ⟨fun e => by have h9 := HP8.out; rw [← e] at h9; exact absurd (qlrow_same HRN8.out h9) (by decide), by have := HNL.out; omega⟩)
      have HRND := Lib.hid HRN8.out.drawn
      have k0 : w8.drew.cell? ⟨p9, 2, none⟩ = some (.slice D k dc) ∧ w8.drew.cell? ⟨p11, 0, none⟩ = some (.int .i64 (fiT ts n)) ∧ w8.drew.cell? ⟨p11, 1, none⟩ = some (.int .i64 sn) ∧ w8.drew.cell? ⟨p11, 2, none⟩ = some (.slice A L.length c) := ⟨HP8.out.drawn.read rfl, HQ8.out.drawn.read rfl, HQ8.out.drawn.read rfl, HQ8.out.drawn.read rfl⟩
      have HX := Lib.hid (((HRND.out.written 0 (.int .i64 (fiT ts n))).written 1 (.int .i64 sn)).written 2 (.slice A L.length c))
      have hpx := ((HP8.out.drawn.elsewhere (p := ⟨w.heap.size, 0, none⟩) HNE.out.1.symm (.int .i64 (fiT ts n))).elsewhere (p := ⟨w.heap.size, 1, none⟩) HNE.out.1.symm (.int .i64 sn)).elsewhere (p := ⟨w.heap.size, 2, none⟩) HNE.out.1.symm (.slice A L.length c)
      have hqx := ((HQ8.out.drawn.elsewhere (p := ⟨w.heap.size, 0, none⟩) HNE.out.2.symm (.int .i64 (fiT ts n))).elsewhere (p := ⟨w.heap.size, 1, none⟩) HNE.out.2.symm (.int .i64 sn)).elsewhere (p := ⟨w.heap.size, 2, none⟩) HNE.out.2.symm (.slice A L.length c)
      have HPX := Lib.hid hpx
      have HQX := Lib.hid hqx
      clear hpx hqx
      obtain ⟨n0, n1, n2⟩ := three_cells HRND.out
      obtain ⟨f0, f1, f2⟩ := three_free HRND.out
      obtain ⟨m0, m1, m2⟩ := three_cells HRN8.out
      obtain ⟨h0, h1, h2⟩ := three_free HRN8.out
      go_region_held3 (fun w' => w'.cell? ⟨p9, 2, none⟩ = some (.slice D k dc) ∧ w'.cell? ⟨p11, 0, none⟩ = some (.int .i64 (fiT ts n)) ∧ w'.cell? ⟨p11, 1, none⟩ = some (.int .i64 sn) ∧ w'.cell? ⟨p11, 2, none⟩ = some (.slice A L.length c)) (first | with_reducible exact k0 | exact ⟨HPX.out.read rfl, HQX.out.read rfl, HQX.out.read rfl, HQX.out.read rfl⟩ | go_keep) (fail)
      all_goals
        go_wp2
        try simp only [Exit.jump]
        obtain ⟨d24, hu24⟩ := underref9_parts
        refine bodyPost_ret (results_three rfl _ _ w.heap.size 58 #[.int .i64 (fiT ts n), .int .i64 sn, .slice A L.length c] d24 rfl ((((HRN8.out.written 0 (.int .i64 (fiT ts n))).written 1 (.int .i64 sn)).written 2 (.slice A L.length c)).drawn) hu24 Try.inforef9) rfl ?_
        exact rsent_end HALL.out HS5.out HRN5.out HK5.out (by rw [HPE.out]; exact HB67.out) HO8.out ((only3 w8 w.heap.size _ _ _).drew) HYS.out (((HS8.out.only (only3 w8 w.heap.size _ _ _) (fun e => by have h9 := HS8.out; rw [e] at h9; exact absurd (qlrow_same HRN8.out h9) (by decide)))).drawn) (by simp)
end
end Go.Proofs.Ytjonkpdjhjobfaa
