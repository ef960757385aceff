/-
  cut: Fits; what Build and Fits refuse. Whether two packets of umd are equal, as the code and the document say. Both cutters: what the document's refuses; both queues; two pieces that are the same. Which packets of amd may be, and how many bytes they are. Which packets of amd may be, and how many bytes they are: Size and Right. A head of amd is got bit by bit. seqnum: how far one number is from another. seqnum: the document's own answers (size, number, rest of a division). seqnum: the document's own answers (going on, how far).
-/
import Derived.Test.YtjonkpdjhjobfaaJUmtxLives13
import Derived.Test.YtjonkpdjhjobfaaJUmtxLives06
import Derived.StillTailTactics
import Derived.Test.YtjonkpdjhjobfaaJUmtxLives20
import Derived.Test.YtjonkpdjhjobfaaJUmtxLives18
import Derived.Deep.DeepCutAuto
import Derived.Deep.CutBlock
import Derived.BigQuiet
import Derived.Test.YtjonkpdjhjobfaaJUmtxLives10
import Derived.Test.YtjonkpdjhjobfaaJUmtxLives02
import Derived.Deep.RegionHeld3
import Derived.Test.YtjonkpdjhjobfaaJUmtxLives14
namespace Go.Proofs.Ytjonkpdjhjobfaa
open Go.RowKit

section
variable {B p last : Nat} {R : Int} {w v : World} {ts : List Txt}
theorem cut_width {x : Int} : 0 < sizeF 1 x ↔ x = 11 ∨ x = 15 := by
  constructor
  · intro h
    cases hk : okW x
    · unfold sizeF at h
      rw [hk] at h
      simp at h
    · exact okW_nat hk
  · rintro (rfl | rfl) <;> decide
end
end Go.Proofs.Ytjonkpdjhjobfaa
namespace Go.Proofs.Ytjonkpdjhjobfaa
open Go.RowKit
end Go.Proofs.Ytjonkpdjhjobfaa
namespace Go.Proofs.Ytjonkpdjhjobfaa
open Go.RowKit

section
variable {w v : World} {y B p : Nat} {R : Int} {ts : List Txt} {E : List Ent}
theorem rcut_any (room x : Int) (h : RQ w y B R E) (hl : tx ts = live 0 E) (hB : B ≤ w.heap.size) (h8 : ∀ e ∈ E, ∀ b ∈ e.bs, b < 256) (hf : faultC room x = 0) :
    Calls Try.prog 93 #[.pointer (some ⟨y, 0, none⟩), .int .i64 room, .int .i64 x] w (RCutDone B y R E.length ts room x w) := by
  have hx : 0 < sizeF 1 x ∧ 0 ≤ room ∧ room ≤ 4000 := by
    unfold faultC at hf
    split at hf
    · split at hf
      · omega
      · omega
    · omega
  obtain ⟨hx1, hr0, hr1⟩ := hx
  rcases cut_width.1 hx1 with rfl | rfl
  · exact rcut_11 room h hl hB h8 hr0 hr1
  · exact rcut_15 room h hl hB h8 hr0 hr1
end
/-- both queues, by one list -/
structure CB (w : World) (p y B : Nat) (ts : List Txt) (E : List Ent) : Prop where
  s : QS B p 20000 w E.length ts
  r : RQ w y B 20000 E
  hy : B ≤ y
  hB : B ≤ w.heap.size
  link : tx ts = live 0 E
  b8 : ∀ e ∈ E, ∀ b ∈ e.bs, b < 256
/-- two pieces that hold the same -/
structure PSame (w : World) (A : Option Addr) (n : Nat) (D : Option Addr) (m : Nat) (A2 D2 : Option Addr) (L M : List RowB) (l : List Nat) : Prop where
  hL : L.length = n
  hM : M.length = n
  hn : n ≤ 1000
  s1 : RSrc w A L
  s2 : RSrc w A2 M
  te : texts L = texts M
  hl : l.length = m
  hm : m ≤ 1000
  i1 : SlAt 0 35 w D (u64v l)
  i2 : SlAt 0 35 w D2 (u64v l)
section
variable {w v : World} {y B p : Nat} {ts : List Txt} {E : List Ent} {A D A2 D2 : Option Addr} {n m : Nat} {L M : List RowB} {l : List Nat}
theorem CB.qb (h : CB w p y B ts E) : QB w p y B 20000 ts E := ⟨h.s.q, h.r, h.hy, h.hB, h.link, by decide, by decide, h.s.small, h.s.many, h.b8⟩
theorem CB.later (h : CB w p y B ts E) (hb : Below w.heap.size w v) : CB v p y B ts E := ⟨h.s.later hb, h.r.later hb, h.hy, Nat.le_trans h.hB hb.size, h.link, h.b8⟩
theorem PSame.later (h : PSame w A n D m A2 D2 L M l) (hb : Below w.heap.size w v) : PSame v A n D m A2 D2 L M l := { h with s1 := h.s1.later hb, s2 := h.s2.later hb, i1 := h.i1.later hb, i2 := h.i2.later hb }
theorem PSame.none (w : World) : PSame w none 0 none 0 none none [] [] [] := ⟨rfl, rfl, by omega, fun h => absurd h (by simp), fun h => absurd h (by simp), rfl, rfl, by omega, fun h => absurd rfl h, fun h => absurd rfl h⟩
end
end Go.Proofs.Ytjonkpdjhjobfaa
namespace Go.Proofs.Ytjonkpdjhjobfaa
open Go.RowKit

end Go.Proofs.Ytjonkpdjhjobfaa
namespace Go.Proofs.Ytjonkpdjhjobfaa
open Go.RowKit

end Go.Proofs.Ytjonkpdjhjobfaa
namespace Go.Proofs.Ytjonkpdjhjobfaa
open Go.RowKit

section
variable {B pr p g q i : Nat} {w0 w : World} {hd : List Nat} {cs : Array Value}
end
theorem results_cell_tmp2 {fn : Func} {p u v : Tmp} {ty : TypeId} (h : fn.results = #[.cell p ty, .tmp u, .tmp v]) (tmps : Array Value) (P : Program) (w : World) :
    (results fn tmps).run P w =
      ((asAddr (tmps.getD p undef)).run P w).andThen fun a w₁ => ((loadVar ty a).run P w₁).andThen fun x w₂ => .ok (.tuple #[x, tmps.getD u undef, tmps.getD v undef]) w₂ := by
  simp only [results, h]
  simp [Sem.run_bind, Result.andThen]
theorem results_three {fn : Func} {p u v : Tmp} {ty : TypeId} (h : fn.results = #[.cell p ty, .tmp u, .tmp v]) (tmps : Array Value) (w : World) (g : Nat) (t : TypeId) (cs : Array Value) (fs : Array Field)
    (hp : tmps.getD p undef = .pointer (some ⟨g, 0, none⟩)) (hg : Row w g t cs)
    (hu : Try.prog.underlying ty = some (.struct fs)) (hi : (Try.prog.info? ty).map (·.size) = some cs.size) :
    (results fn tmps).run Try.prog w = .ok (.tuple #[.agg cs, tmps.getD u undef, tmps.getD v undef]) w := by
  rw [results_cell_tmp2 h, hp]
  simp only [asAddr, Sem.run_pure, Result.andThen_ok, run_loadVar_row w g t ty cs (0, 0) (.struct fs) hg hu rfl hi]
end Go.Proofs.Ytjonkpdjhjobfaa
namespace Go.Proofs.Ytjonkpdjhjobfaa
open Go.RowKit

theorem rt_pos {b : Int} (hr : rt b = true) : 2 ≤ sz b ∧ sz b ≤ 65536 := by have := sz_cases hr; omega
end Go.Proofs.Ytjonkpdjhjobfaa
namespace Go.Proofs.Ytjonkpdjhjobfaa
open Go.RowKit

set_option maxHeartbeats 400000 in
theorem q2size_any (b : Int) (w : World) :
    Calls Try.prog 80 #[.int .i64 b] w fun e w' => e = .returned (.int .i64 (sz b)) ∧ w = w' := by
  cases hr : rt b
  · rw [sz_zero hr]
    have hb := rt_false hr
    clear hr
    by_cases h1 : b < 1
    · go_enter Try.func80, Try.ntmps80
      go_wp2
      go_ret
      exact ⟨rfl, rfl⟩
    · have h2 : 16 < b := by omega
      go_enter Try.func80, Try.ntmps80
      go_wp2
      go_ret
      exact ⟨rfl, rfl⟩
  · obtain ⟨h1, h2⟩ := rt_true hr
    have hs : sz b = 2 ^ b.toNat := by unfold sz; rw [if_pos hr]
    have Hs := Lib.hid hs
    clear hr hs
    go_enter Try.func80, Try.ntmps80
    go_wp2
    go_loop [3, 4] (fun v i => ∃ k n : Nat, (k : Int) ≤ b ∧ i = .int .i64 k ∧ v = .int .i64 n ∧ Hid (n = 2 ^ k) ∧ n ≤ 65536) (fun _ i => (b - intOf i).toNat)
    case atStart => exact ⟨0, 1, by omega, rfl, rfl, Lib.hid rfl, by omega⟩
    case round =>
      obtain ⟨k, n, hk, rfl, rfl, hn, hnb⟩ := hrel
      by_cases hlt : (k : Int) < b
      · go_wp2
        go_round
        case rel =>
          have e := hn.out
          have h15 : n ≤ 2 ^ 15 := by rw [e]; exact Nat.pow_le_pow_right (by omega) (by omega)
          exact ⟨k + 1, 2 * n, by omega, by go_num, by go_num, Lib.hid (by rw [e, Nat.pow_succ]; omega), by omega⟩
        case measure => simp [intOf]; omega
      · go_wp2
        go_ret
        have hkb : b.toNat = k := by omega
        exact ⟨ret_int (by rw [Hs.out, hkb, hn.out]; simp), rfl⟩

set_option maxHeartbeats 400000 in
theorem q2is_any (b n : Int) (w : World) :
    Calls Try.prog 171 #[.int .i64 b, .int .i64 n] w fun e w' => e = .returned (.bool (okn b n)) ∧ w = w' := by
  by_cases hn : 0 ≤ n
  · have ho : okn b n = decide (n < sz b) := by unfold okn; simp [hn]
    have H := Lib.hid ho
    clear ho
    go_enter Try.func171, Try.ntmps171
    go_wp2_with (go_at_call 80; refine (q2size_any _ _).mono ?_; rintro e w1 ⟨rfl, rfl⟩)
    go_ret
    exact ⟨ret_bool H.out.symm, rfl⟩
  · have ho : okn b n = false := decide_eq_false (by omega)
    have H := Lib.hid ho
    clear ho
    go_enter Try.func171, Try.ntmps171
    go_wp2
    go_ret
    exact ⟨ret_bool H.out.symm, rfl⟩

set_option maxHeartbeats 400000 in
theorem q2mod_any (n m : Int) (w : World) (h1 : 2 ≤ m) (h2 : m ≤ 65536) (h3 : -200000 ≤ n) (h4 : n ≤ 200000) :
    Calls Try.prog 172 #[.int .i64 n, .int .i64 m] w fun e w' => e = .returned (.int .i64 (n % m)) ∧ w = w' := by
  by_cases hn : 0 ≤ n
  · have h5 : 0 ≤ n % m := Int.emod_nonneg _ (by omega)
    go_enter Try.func172, Try.ntmps172
    go_wp2
    go_ret
    exact ⟨rfl, rfl⟩
  · obtain ⟨p, rfl⟩ : ∃ p : Int, n = -p := ⟨-n, by omega⟩
    have hp0 : 0 < p := by omega
    have ht : (-p).tmod m = -(p % m) := by rw [Int.neg_tmod, Int.tmod_eq_emod_of_nonneg (by omega)]
    have he : (-p) % m = if p % m = 0 then 0 else m - p % m := by
      have := Int.emod_nonneg p (b := m) (by omega)
      have := Int.emod_lt_of_pos p (b := m) (by omega)
      split
      · rename_i h
        exact Int.emod_eq_zero_of_dvd (Int.dvd_neg.2 (Int.dvd_of_emod_eq_zero h))
      · have e : -p = (m - p % m) + m * (-(p / m) - 1) := by
          have := Int.mul_ediv_add_emod p m
          rw [Int.mul_sub, Int.mul_neg]
          omega
        rw [e, Int.add_mul_emod_self_left]
        exact Int.emod_eq_of_lt (by omega) (by omega)
    have hr0 := Int.emod_nonneg p (b := m) (by omega)
    have hr1 := Int.emod_lt_of_pos p (b := m) (by omega)
    generalize p % m = r at *
    have HE := Lib.hid he
    clear he
    by_cases hz : r = 0
    · subst hz
      go_enter Try.func172, Try.ntmps172
      go_wp2
      go_ret
      exact ⟨ret_int (by rw [HE.out]; rfl), rfl⟩
    · have hneg : -r < 0 := by omega
      go_enter Try.func172, Try.ntmps172
      go_wp2
      go_ret
      exact ⟨ret_int (by rw [HE.out, if_neg hz]; omega), rfl⟩
end Go.Proofs.Ytjonkpdjhjobfaa
namespace Go.Proofs.Ytjonkpdjhjobfaa
open Go.RowKit

set_option maxHeartbeats 800000 in
theorem q2go_any (b n c : Int) (w : World) :
    Calls Try.prog 94 #[.int .i64 b, .int .i64 n, .int .i64 c] w fun e w' => e = .returned (.tuple #[.int .i64 (GoV b n c), .int .i64 (GoE b n c)]) ∧ w = w' := by
  cases hr : rt b
  · have hv : GoV b n c = 0 := by unfold GoV; rw [hr]; rfl
    have he : GoE b n c = 3 := by unfold GoE flt; rw [hr]; rfl
    have hz := sz_zero hr
    rw [hv, he]
    clear hr hv he
    go_enter Try.func94, Try.ntmps94
    go_wp2_with (go_at_call 80; refine (q2size_any _ _).mono ?_; rintro e w1 ⟨rfl, rfl⟩)
    go_ret2
    exact ⟨rfl, rfl⟩
  · obtain ⟨hz1, hz2⟩ := rt_pos hr
    have hz0 : (sz b == 0) = false := by simp; omega
    cases ho : okn b n
    · have hv : GoV b n c = 0 := by unfold GoV; rw [all1, ho, Bool.and_false]; rfl
      have he : GoE b n c = 1 := by unfold GoE flt; rw [all1, ho, hr]; rfl
      rw [hv, he]
      clear hr hv he
      go_enter Try.func94, Try.ntmps94
      go_wp2_with (first
        | (go_at_call 80; refine (q2size_any _ _).mono ?_; rintro e w1 ⟨rfl, rfl⟩)
        | (go_at_call 171; refine (q2is_any _ _ _).mono ?_; rintro e w1 ⟨rfl, rfl⟩))
      go_ret2
      exact ⟨rfl, rfl⟩
    · by_cases hc : c < -65536 ∨ 65536 < c
      · have hv : GoV b n c = 0 := by unfold GoV; rw [all1, ho, hr]; simp [hc]
        have he : GoE b n c = 1 := by unfold GoE; rw [all1, ho, hr]; simp [hc]
        rw [hv, he]
        clear hr hv he
        by_cases hc1 : c < -65536
        · clear hc
          go_enter Try.func94, Try.ntmps94
          go_wp2_with (first
            | (go_at_call 80; refine (q2size_any _ _).mono ?_; rintro e w1 ⟨rfl, rfl⟩)
            | (go_at_call 171; refine (q2is_any _ _ _).mono ?_; rintro e w1 ⟨rfl, rfl⟩))
          go_ret2
          exact ⟨rfl, rfl⟩
        · have hc2 : 65536 < c := by omega
          clear hc
          go_enter Try.func94, Try.ntmps94
          go_wp2_with (first
            | (go_at_call 80; refine (q2size_any _ _).mono ?_; rintro e w1 ⟨rfl, rfl⟩)
            | (go_at_call 171; refine (q2is_any _ _ _).mono ?_; rintro e w1 ⟨rfl, rfl⟩))
          go_ret2
          exact ⟨rfl, rfl⟩
      · have hc1 : -65536 ≤ c := by omega
        have hc2 : c ≤ 65536 := by omega
        clear hc
        obtain ⟨he, hv⟩ := go_val hr ho hc1 hc2
        obtain ⟨hn1, hn2⟩ := okn_true ho
        rw [hv, he]
        clear hr hv he
        go_enter Try.func94, Try.ntmps94
        go_wp2_with (first
          | (go_at_call 80; refine (q2size_any _ _).mono ?_; rintro e w1 ⟨rfl, rfl⟩)
          | (go_at_call 171; refine (q2is_any _ _ _).mono ?_; rintro e w1 ⟨rfl, rfl⟩)
          | (go_at_call 172; refine (q2mod_any _ _ _ (by omega) (by omega) (by omega) (by omega)).mono ?_; rintro e w1 ⟨rfl, rfl⟩))
        go_ret2
        exact ⟨rfl, rfl⟩

end Go.Proofs.Ytjonkpdjhjobfaa
